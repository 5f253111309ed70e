/- Write, whatever is asked. -/
import Derived.Test.YtnhcfkiejldicaaGreatDkG
namespace Go.Proofs.YtnhcfkiejldicaaGreat
open Go.RowKit

theorem write_dead (w : World) (p m n : Nat) (lv : Value) (s : DS) (H : DiskIn w p m lv n s) (hc : 2 ≤ s.cnt) (hd : s.dead = true) (k : Int) (bv : Value) :
    Calls Tryz.prog 43 #[.pointer (some ⟨p, 0, none⟩), .int .i64 k, bv] w fun e w' => e = .returned (.int .i64 14) ∧ w = w' := by
  have c0 := H.c0
  have c5 := H.c5
  rw [hd] at c5
  go_enter Tryz.func43, Tryz.ntmps43
  go_wp2_with (first | (go_at_call 71; refine (well_any _ _ s.cnt (by omega) _ c0 c5).mono ?_; rintro e w' ⟨rfl, rfl⟩) | fail)
  go_ret
  exact ⟨rfl, rfl⟩

theorem write_bad (w : World) (p m n : Nat) (lv : Value) (s : DS) (H : DiskIn w p m lv n s) (hc : 2 ≤ s.cnt) (hd : s.dead = false) (k : Int) (a : Option Addr) (len cap : Nat) (hb : ¬ (0 ≤ k ∧ k < s.cnt ∧ len = 64)) :
    Calls Tryz.prog 43 #[.pointer (some ⟨p, 0, none⟩), .int .i64 k, .slice a len cap] w fun e w' => e = .returned (.int .i64 1) ∧ w = w' := by
  have c0 := H.c0
  have c5 := H.c5
  rw [hd] at c5
  by_cases hk : 0 ≤ k ∧ k < s.cnt
  · have hh : (decide (0 ≤ k) && decide (k < s.cnt)) = true := by simpa using hk
    have hl : ((len : Int) == 64) = false := by
      have : len ≠ 64 := fun e => hb ⟨hk.1, hk.2, e⟩
      simp; omega
    clear hb hk
    go_enter Tryz.func43, Tryz.ntmps43
    go_wp2_with (first | (go_at_call 71; refine (well_any _ _ s.cnt (by omega) _ c0 c5).mono ?_; rintro e w' ⟨rfl, rfl⟩) | (go_at_call 72; refine (has_any _ _ s.cnt _ c0).mono ?_; rw [hh]; rintro e w' ⟨rfl, rfl⟩) | fail)
    go_ret
    exact ⟨rfl, rfl⟩
  · have hh : (decide (0 ≤ k) && decide (k < s.cnt)) = false := by simpa using hk
    clear hb hk
    go_enter Tryz.func43, Tryz.ntmps43
    go_wp2_with (first | (go_at_call 71; refine (well_any _ _ s.cnt (by omega) _ c0 c5).mono ?_; rintro e w' ⟨rfl, rfl⟩) | (go_at_call 72; refine (has_any _ _ s.cnt _ c0).mono ?_; rw [hh]; rintro e w' ⟨rfl, rfl⟩) | fail)
    go_ret
    exact ⟨rfl, rfl⟩

def Row.of (zs : List Int) (h : zs.length = 64 ∧ ∀ z ∈ zs, 0 ≤ z ∧ z ≤ 255) : Row := ⟨zs, h⟩
def mkRow (zs : List Int) : Row := if h : zs.length = 64 ∧ ∀ z ∈ zs, 0 ≤ z ∧ z ≤ 255 then Row.of zs h else zrow
theorem mkRow_is {zs : List Int} (h : zs.length = 64) (h2 : ∀ z ∈ zs, 0 ≤ z ∧ z ≤ 255) : (mkRow zs).1 = zs := by
  simp only [mkRow]
  rw [dif_pos ⟨h, h2⟩]
  rfl
theorem mkRow_self (r : Row) : mkRow r.1 = r := Subtype.ext (mkRow_is r.2.1 r.2.2)

/-- May it be written? -/
def DS.takes (s : DS) (k : Int) (len : Nat) : Prop := s.dead = false ∧ 0 ≤ k ∧ k < s.cnt ∧ len = 64
instance (s : DS) (k : Int) (len : Nat) : Decidable (s.takes k len) := inferInstanceAs (Decidable (_ ∧ _))

def writeE (s : DS) (k : Int) (len : Nat) : Int := if s.takes k len then (if s.fuse = 0 then 14 else 0) else if s.dead then 14 else 1
def writeS (s : DS) (k : Int) (zs : List Int) : DS := if s.takes k zs.length then s.wrote k.toNat (mkRow zs) else s

def Fresh (w : World) (F F' : List Nat) : Prop := ∀ b ∈ F', b ∈ F ∨ w.heap.size ≤ b

theorem DS.wrote_ok {s : DS} {K : Nat} (h : s.Ok K) (i : Nat) (hi : i < s.cnt) (r : Row) : (s.wrote i r).Ok (K + 1) := by
  have h3 := h.fz
  have h4 := h.op
  have ha : ∀ x ∈ s.loose ++ [(i, r)], x.1 < s.cnt := by
    intro x hx
    rcases List.mem_append.1 hx with hx | hx
    · exact h.at_ x hx
    · simp at hx; subst hx; exact hi
  unfold DS.wrote
  split
  · exact ⟨h.lo, h.hi, h3, ⟨h4.1, by have := h4.2; simp only; omega⟩, ha, fun j hj => h.eqs j fun x hx => hj x (List.mem_append_left _ hx)⟩
  · refine ⟨h.lo, h.hi, ?_, ⟨?_, ?_⟩, ha, fun j hj => ?_⟩
    · simp only [DS.spent]; split <;> omega
    · simp only [DS.spent]; omega
    · simp only [DS.spent]; omega
    · have hji : j ≠ i := fun e => hj (i, r) (by simp [DS.spent]) e.symm
      simp only [DS.spent, upd_ne _ _ hji]
      exact h.eqs j fun x hx => hj x (by simp only [DS.spent]; exact List.mem_append_left _ hx)

/-- Write. -/
theorem write_any (w : World) (p : Nat) (s : DS) (F : List Nat) (K : Nat) (H : DiskAt w p s F K) (hK : K ≤ 1000000000) (k : Int) (bv : Value) (zs : List Int) (hb : RowAt w bv zs) :
    Calls Tryz.prog 43 #[.pointer (some ⟨p, 0, none⟩), .int .i64 k, bv] w fun e w' => e = .returned (.int .i64 (writeE s k zs.length)) ∧ ∃ F', DiskAt w' p (writeS s k zs) F' (K + 2) ∧ Keeps F w w' ∧ Fresh w F F' := by
  have H' := H
  obtain ⟨ok, m, lv, n, hi, rfl, hk⟩ := H
  by_cases ht : s.takes k zs.length
  · have he : writeE s k zs.length = if s.fuse = 0 then 14 else 0 := by simp only [writeE, if_pos ht]
    have hs : writeS s k zs = s.wrote k.toNat (mkRow zs) := by simp only [writeS, if_pos ht]
    rw [he, hs]
    obtain ⟨hd, h0, h1, h2⟩ := ht
    obtain ⟨i, rfl⟩ := Int.eq_ofNat_of_zero_le h0
    have hr := mkRow_is h2 hb.bytes
    have hop := ok.op
    refine (write_good w p m n lv s hi ok.lo ok.hi hd i (by omega) (mkRow zs) bv (by rw [hr]; exact hb) (by omega) (by omega) ok.fz ⟨hop.1, by omega⟩).mono ?_
    rintro e w' ⟨rfl, lv', D, kp, nl⟩
    simp only [Int.toNat_natCast]
    refine ⟨trivial, foot p m lv', ⟨?_, m, lv', n + 1, D, rfl, ?_⟩, kp, ?_⟩
    · have o1 := DS.wrote_ok ok i (by omega) (mkRow zs)
      exact ⟨o1.lo, o1.hi, o1.fz, ⟨o1.op.1, by have := o1.op.2; omega⟩, o1.at_, o1.eqs⟩
    · have : (s.wrote i (mkRow zs)).loose.length = s.loose.length + 1 := by
        unfold DS.wrote
        split <;> simp [DS.spent]
      simp only [this]
      omega
    · intro b hb
      simp only [foot, List.mem_cons, Option.mem_toList] at hb ⊢
      rcases hb with hb | hb | hb
      · exact Or.inl (Or.inl hb)
      · exact Or.inl (Or.inr (Or.inl hb))
      · rcases nl with nl | nl
        · rw [nl] at hb
          exact Or.inl (Or.inr (Or.inr hb))
        · exact Or.inr (nl b hb)
  · have hs : writeS s k zs = s := by simp only [writeS, if_neg ht]
    have he : writeE s k zs.length = if s.dead then 14 else 1 := by simp only [writeE, if_neg ht]
    rw [hs, he]
    have post : Keeps (foot p m lv) w w ∧ Fresh w (foot p m lv) (foot p m lv) := ⟨Keeps.refl _ _, fun b hb => Or.inl hb⟩
    by_cases hd : s.dead = true
    · refine (write_dead w p m n lv s hi ok.lo hd k bv).mono ?_
      rintro e w' ⟨rfl, rfl⟩
      exact ⟨by rw [if_pos hd], _, H'.mono (by omega), post⟩
    · obtain ⟨a, cap, rfl, _⟩ := hb
      refine (write_bad w p m n lv s hi ok.lo (by simpa using hd) k a zs.length cap (fun h => ht ⟨by simpa using hd, h.1, h.2.1, h.2.2⟩)).mono ?_
      rintro e w' ⟨rfl, rfl⟩
      exact ⟨by rw [if_neg hd], _, H'.mono (by omega), post⟩

end Go.Proofs.YtnhcfkiejldicaaGreat
