/- Walks of the eye: take, number. -/
import Derived.Test.YtfkafelidkcinaaPenC
namespace Go.Proofs.Ytfkafelidkcinaa
open Go.RowKit

/-- An eye (of wire): its three cells; its row is to be read. -/
structure EyeAt (w : World) (B : Nat) (p : Nat) (v : Value) (zs : List Int) (bad : Int) : Prop where
  blk : w.heap[p]? = some (.cells #[v, .int .i64 bad, .bool true] 61 (0, 0))
  row : RowAt w v zs
  off : Off [p] v zs
  lo : B ≤ p
  fits : zs.length ≤ 35184372088832

theorem EyeAt.cell0 {w : World} {B p v zs bad} (h : EyeAt w B p v zs bad) : w.cell? ⟨p, 0, none⟩ = some v := by simp [World.cell?, h.blk]
theorem EyeAt.cell1 {w : World} {B p v zs bad} (h : EyeAt w B p v zs bad) : w.cell? ⟨p, 1, none⟩ = some (.int .i64 bad) := by simp [World.cell?, h.blk]
theorem EyeAt.cell2 {w : World} {B p v zs bad} (h : EyeAt w B p v zs bad) : w.cell? ⟨p, 2, none⟩ = some (.bool true) := by simp [World.cell?, h.blk]
theorem EyeAt.free0 {w : World} {B p v zs bad} (h : EyeAt w B p v zs bad) : w.frozen? ⟨p, 0, none⟩ = false := by simp [World.frozen?, h.blk]
theorem EyeAt.free1 {w : World} {B p v zs bad} (h : EyeAt w B p v zs bad) : w.frozen? ⟨p, 1, none⟩ = false := by simp [World.frozen?, h.blk]
theorem EyeAt.lt {w : World} {B p v zs bad} (h : EyeAt w B p v zs bad) : p < w.heap.size := lt_of_block h.blk

theorem EyeAt.keep {w w' : World} {B p v zs bad} {S : List Nat} (h : EyeAt w B p v zs bad) (k : Keeps S w w') (hp : p ∉ S) (hv : Off S v zs) : EyeAt w' B p v zs bad :=
  ⟨by rw [k.block p h.lt hp]; exact h.blk, h.row.keep k hv, h.off, h.lo, h.fits⟩

theorem bytes_elem : Try.prog.underlying 25 = some (.slice (Try.prog.elem 25)) := by kernel_rfl
theorem bytes_el : Try.prog.elem 25 = 5 := by kernel_rfl

theorem size_u8 (W : World) : (sizeOf 5).run Try.prog W = .ok 1 W := by
  obtain ⟨i0, hi, hz0, hz1, hz2⟩ := info_parts info5
  simp [sizeOf, typeInfo, hi, hz1, Result.andThen]

/-- The first n bytes of a row. -/
theorem row_take {w : World} {a : Option Addr} {len cap : Nat} {zs : List Int} (h : RowAt w (.slice a len cap) zs) (n : Nat) (hn : n ≤ zs.length) :
    ∃ a1, (∀ W, (Instr.sliceAt 25 (.slice a len cap) none (some (.int .i64 (n : Int))) none).run Try.prog W = .ok (.slice a1 n cap) W) ∧
      (∀ W, (Instr.slice 25 (.slice a len cap) none (some (.int .i64 (n : Int))) none).run Try.prog W = .ok (.slice a1 n cap) W) ∧
      (∀ W, RowAt W (.slice a len cap) zs → RowAt W (.slice a1 n cap) (zs.take n)) ∧ (∀ ad, a1 = some ad → ∃ ad', a = some ad' ∧ ad'.block = ad.block) := by
  obtain ⟨a', cap', hv, h1, h2, h3, h4, h5⟩ := h
  injection hv with e1 e2 e3
  subst e1; subst e2; subst e3
  have hrun : ∀ W, (Instr.slice 25 (.slice a zs.length cap) none (some (.int .i64 (n : Int))) none).run Try.prog W = .ok (.slice (if cap = 0 then a else a.map (·.add 0)) n cap) W := by
    intro W
    rw [run_slice_h W 25 a zs.length cap bytes_elem .i64 n (by omega) (by omega), bytes_el, size_u8]
    simp [Result.andThen, sliced]
  have hadd : ∀ ad : Addr, ad.add 0 = ad := fun ad => by unfold Addr.add; split <;> simp_all
  have ha : (if cap = 0 then a else a.map (·.add 0)) = a := by
    split
    · rfl
    · cases a <;> simp [hadd]
  rw [ha] at hrun
  refine ⟨a, fun W => by rw [run_sliceAt_slice W 25 _ _ _ _ bytes_elem]; exact hrun W, hrun, ?_, fun ad had => ⟨ad, had, rfl⟩⟩
  rintro W ⟨a', cap', hv, g1, g2, g3, g4, g5⟩
  injection hv with e1 e2 e3
  subst e1; subst e3
  refine ⟨a, cap, by rw [List.length_take, Nat.min_eq_left hn], by rw [List.length_take]; omega, g2, g3, fun z hz => g4 z (List.mem_of_mem_take hz), fun ad had j u hu => g5 ad had j u ?_⟩
  rw [List.map_take, List.getElem?_take] at hu
  split at hu
  · exact hu
  · cases hu

/-- What is behind them. -/
theorem row_drop {w : World} {a : Option Addr} {len cap : Nat} {zs : List Int} (h : RowAt w (.slice a len cap) zs) (n : Nat) (hn : n ≤ zs.length) :
    ∃ a1, (∀ W, (Instr.sliceAt 25 (.slice a len cap) (some (.int .i64 (n : Int))) none none).run Try.prog W = .ok (.slice a1 (zs.length - n) (cap - n)) W) ∧
      (∀ W, (Instr.slice 25 (.slice a len cap) (some (.int .i64 (n : Int))) none none).run Try.prog W = .ok (.slice a1 (zs.length - n) (cap - n)) W) ∧
      (∀ W, RowAt W (.slice a len cap) zs → RowAt W (.slice a1 (zs.length - n) (cap - n)) (zs.drop n)) ∧ (∀ ad, a1 = some ad → ∃ ad', a = some ad' ∧ ad'.block = ad.block) := by
  obtain ⟨a', cap', hv, h1, h2, h3, h4, h5⟩ := h
  injection hv with e1 e2 e3
  subst e1; subst e2; subst e3
  have hrun : ∀ W, (Instr.slice 25 (.slice a zs.length cap) (some (.int .i64 (n : Int))) none none).run Try.prog W = .ok (.slice (if cap = n then a else a.map (·.add n)) (zs.length - n) (cap - n)) W := by
    intro W
    rw [run_slice_l W 25 a zs.length cap bytes_elem .i64 n (by omega) (by omega), bytes_el, size_u8]
    simp [Result.andThen, sliced]
  refine ⟨_, fun W => by rw [run_sliceAt_slice W 25 _ _ _ _ bytes_elem]; exact hrun W, hrun, ?_, ?_⟩
  · rintro W ⟨a', cap', hv, g1, g2, g3, g4, g5⟩
    injection hv with e1 e2 e3
    subst e1; subst e3
    refine ⟨_, cap - n, by rw [List.length_drop], by rw [List.length_drop]; omega, by omega, ?_, fun z hz => g4 z (List.mem_of_mem_drop hz), ?_⟩
    · split
      · intro _; omega
      · cases a with
        | none => intro _; have := g3 rfl; omega
        | some ad => simp
    · intro ad had j u hu
      have hj : n + j < zs.length := by
        have := (List.getElem?_eq_some_iff.1 hu).1
        simp at this; omega
      rw [if_neg (by omega)] at had
      cases a with
      | none => simp at had
      | some ad0 =>
        simp at had
        subst had
        have e : (ad0.add n).add j = ad0.add (n + j) := by
          have hc := g5 ad0 rfl 0 (.int .u8 zs[0]) (by simp [List.getElem?_eq_getElem (show 0 < zs.length by omega)])
          cases hsp : ad0.spot with
          | none =>
            obtain ⟨b0, o0, s0⟩ := ad0
            simp only at hsp
            subst hsp
            rw [Addr.add_lit, Addr.add_lit, Addr.add_lit, Nat.add_assoc]
          | some x =>
            exfalso
            unfold Addr.add at hc
            simp [hsp, World.cell?] at hc
            split at hc <;> simp_all
        rw [e]
        refine g5 ad0 rfl (n + j) u ?_
        rw [← hu, List.map_drop, List.getElem?_drop]
  · intro ad had
    split at had
    · exact ⟨ad, had, rfl⟩
    · cases a with
      | none => simp at had
      | some ad0 => simp at had; exact ⟨ad0, rfl, by rw [← had, Addr.add_block]⟩

/-- v2 lies in the block in which v lies. -/
def SameBlk (v v2 : Value) : Prop := ∀ ad n c, v2 = .slice (some ad) n c → ∃ ad' n' c', v = .slice (some ad') n' c' ∧ ad'.block = ad.block

theorem SameBlk.refl (v : Value) : SameBlk v v := fun ad n c h => ⟨ad, n, c, h, rfl⟩
theorem SameBlk.trans {v v1 v2 : Value} (h : SameBlk v v1) (k : SameBlk v1 v2) : SameBlk v v2 := fun ad n c e =>
  let ⟨ad', n', c', e', h'⟩ := k ad n c e
  let ⟨ad2, n2, c2, e2, h2⟩ := h ad' n' c' e'
  ⟨ad2, n2, c2, e2, h2.trans h'⟩
theorem Off.same {S : List Nat} {v v2 : Value} {zs zs2 : List Int} (h : Off S v zs) (hs : SameBlk v v2) (hz : zs2 ≠ [] → zs ≠ []) : Off S v2 zs2 := by
  intro ad n c e hne
  obtain ⟨ad', n', c', e', h'⟩ := hs ad n c e
  rw [← h']
  exact h ad' n' c' e' (hz hne)

def gaveUp (why : Int) : Ending := .panicked [{ v := .iface 29 (.int .i64 why), recovered := false }]

theorem heap_three {w : World} {p : Nat} {x y z : Value} {T : TypeId} (h : w.heap[p]? = some (.cells #[x, y, z] T (0, 0))) (u : Value) :
    (w.setCell ⟨p, 0, none⟩ u).heap[p]? = some (.cells #[u, y, z] T (0, 0)) ∧ (w.setCell ⟨p, 1, none⟩ u).heap[p]? = some (.cells #[x, u, z] T (0, 0)) := by
  have hlt := lt_of_block h
  have h' : w.heap[p] = .cells #[x, y, z] T (0, 0) := by simpa [Array.getElem?_eq_getElem hlt] using h
  constructor
  · show (w.heap.modify p _)[p]? = _
    rw [Array.getElem?_eq_getElem (by simpa using hlt), Array.getElem_modify_self, h']
    rfl
  · show (w.heap.modify p _)[p]? = _
    rw [Array.getElem?_eq_getElem (by simpa using hlt), Array.getElem_modify_self, h']
    rfl

/-- The cells of a row that is not empty. -/
theorem RowAt.open {w : World} {v : Value} {zs : List Int} (h : RowAt w v zs) (hne : 0 < zs.length) :
    ∃ g off cap, v = .slice (some ⟨g, off, none⟩) zs.length cap ∧ zs.length ≤ cap ∧ ∀ j, j < zs.length → w.cell? ⟨g, off + j, none⟩ = some (.int .u8 (zs.getD j 0)) := by
  obtain ⟨a, cap, rfl, h1, h2, h3, h4, h5⟩ := h
  cases a with
  | none => have := h3 rfl; omega
  | some ad =>
    obtain ⟨g, off, sp⟩ := ad
    have hc := h5 _ rfl 0 (.int .u8 zs[0]) (by simp [List.getElem?_eq_getElem hne])
    cases sp with
    | some x =>
      exfalso
      unfold Addr.add at hc
      simp [World.cell?] at hc
      split at hc <;> simp_all
    | none =>
      refine ⟨g, off, cap, rfl, h1, fun j hj => ?_⟩
      have := h5 _ rfl j (.int .u8 zs[j]) (by simp [List.getElem?_eq_getElem hj])
      rw [Addr.add_lit] at this
      rw [this, List.getD_eq_getElem?_getD, List.getElem?_eq_getElem hj]
      rfl

def TakePost (w : World) (B p : Nat) (v : Value) (zs : List Int) (bad : Int) (n : Nat) (e : Ending) (w' : World) : Prop :=
  (zs.length < n ∧ e = gaveUp 2 ∧ w' = w) ∨
  (n ≤ zs.length ∧ ∃ a1 c1 v2, e = .returned (.slice a1 n c1) ∧ RowAt w' (.slice a1 n c1) (zs.take n) ∧ SameBlk v (.slice a1 n c1) ∧ EyeAt w' B p v2 (zs.drop n) bad ∧ SameBlk v v2 ∧ Keeps [p] w w')

set_option maxHeartbeats 400000 in
theorem take_any (w : World) (B p : Nat) (v : Value) (zs : List Int) (bad : Int) (n : Nat) (h : EyeAt w B p v zs bad) :
    Calls Try.prog 50 #[.pointer (some ⟨p, 0, none⟩), .int .i64 n] w (TakePost w B p v zs bad n) := by
  have H := hid h
  have c0 := h.cell0
  have f0 := h.free0
  have hf := h.fits
  have hr := h.row
  obtain ⟨a, cap, rfl, _⟩ := h.row
  clear h
  by_cases hn : zs.length < n
  · have hn' : (zs.length : Int) < n := by omega
    clear hr
    go_enter Try.func50, Try.ntmps50
    go_wp2_with fail
    exact ⟨rfl, Or.inl ⟨hn, rfl, rfl⟩⟩
  · have hn' : ¬ (zs.length : Int) < n := by omega
    obtain ⟨a1, t1, t2, t3, t4⟩ := row_take hr n (by omega)
    obtain ⟨a2, s1, s2, s3, s4⟩ := row_drop hr n (by omega)
    have T3 := hid t3
    have T4 := hid t4
    have S3 := hid s3
    have S4 := hid s4
    clear t3 t4 s3 s4 hr
    go_enter Try.func50, Try.ntmps50
    go_wp2_with fail
    go_ret
    have K : Keeps [p] w (w.setCell ⟨p, 0, none⟩ (.slice a2 (zs.length - n) (cap - n))) := (Keeps.refl _ _).setCell (Or.inl (by simp)) _
    have R := H.out.row.keep K H.out.off
    have hb1 : SameBlk (.slice a zs.length cap) (.slice a1 n cap) := by
      intro ad n' c' e
      injection e with e1 _ _
      obtain ⟨ad', h1, h2⟩ := T4.out ad e1
      exact ⟨ad', _, _, by rw [h1], h2⟩
    have hb2 : SameBlk (.slice a zs.length cap) (.slice a2 (zs.length - n) (cap - n)) := by
      intro ad n' c' e
      injection e with e1 _ _
      obtain ⟨ad', h1, h2⟩ := S4.out ad e1
      exact ⟨ad', _, _, by rw [h1], h2⟩
    refine Or.inr ⟨by omega, a1, cap, .slice a2 (zs.length - n) (cap - n), rfl, T3.out _ R, hb1, ⟨?_, S3.out _ R, ?_, H.out.lo, ?_⟩, hb2, K⟩
    · exact (heap_three H.out.blk _).1
    · exact H.out.off.same hb2 (by intro h1 h2; rw [h2] at h1; simp at h1)
    · rw [List.length_drop]; omega
end Go.Proofs.Ytfkafelidkcinaa
