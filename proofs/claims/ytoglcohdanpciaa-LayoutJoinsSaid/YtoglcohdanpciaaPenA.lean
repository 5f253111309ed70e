/- Walks of the pen: giveUp, add. -/
import Derived.Test.YtoglcohdanpciaaRows
import Derived.Test.YtoglcohdanpciaaCore
import Derived.Test.YtoglcohdanpciaaApp
namespace Go.Proofs.Ytoglcohdanpciaa
open Go.RowKit

theorem give_yes (w : World) (B p : Nat) (v : Value) (zs : List Int) (why : Int) (h : PenAt w B 172 5 p v zs 0) :
    Calls Try.prog 159 #[.pointer (some ⟨p, 0, none⟩), .int .i64 why] w fun e w' => e = .returned (.tuple #[]) ∧ (w.setCell ⟨p, 0, none⟩ (.slice none 0 0)).setCell ⟨p, 1, none⟩ (.int .i64 why) = w' := by
  have c0 := h.cell0
  have c1 := h.cell1
  have f0 := h.free0
  have f1 := h.free1
  clear h
  go_enter Try.func159, Try.ntmps159
  go_wp2
  go_end0
  exact ⟨rfl, rfl⟩

theorem give_no (w : World) (B p : Nat) (v : Value) (zs : List Int) (bad why : Int) (h : PenAt w B 172 5 p v zs bad) (hb : (bad == 0) = false) :
    Calls Try.prog 159 #[.pointer (some ⟨p, 0, none⟩), .int .i64 why] w fun e w' => e = .returned (.tuple #[]) ∧ w = w' := by
  have c0 := h.cell0
  have c1 := h.cell1
  have f0 := h.free0
  have f1 := h.free1
  clear h
  go_enter Try.func159, Try.ntmps159
  go_wp2
  go_end0
  exact ⟨rfl, rfl⟩

def penFail (why : Int) (s : List Int × Int) : List Int × Int := if s.2 = 0 then ([], why) else s
def penAdd (bs : List Int) (s : List Int × Int) : List Int × Int :=
  if s.2 ≠ 0 then s else if s.1.length + bs.length > 65536 then ([], 3) else (s.1 ++ bs, 0)

/-- The two cells of a block written. -/
theorem heap_two {w : World} {p : Nat} {x y : Value} {T : TypeId} (h : w.heap[p]? = some (.cells #[x, y] T (0, 0))) (u : Value) :
    (w.setCell ⟨p, 0, none⟩ u).heap[p]? = some (.cells #[u, y] T (0, 0)) ∧ (w.setCell ⟨p, 1, none⟩ u).heap[p]? = some (.cells #[x, u] T (0, 0)) := by
  have hlt := lt_of_block h
  have h' : w.heap[p] = .cells #[x, y] T (0, 0) := by simpa [Array.getElem?_eq_getElem hlt] using h
  constructor
  · show (w.heap.modify p _)[p]? = _
    rw [Array.getElem?_eq_getElem (by simpa using hlt), Array.getElem_modify_self, h']
    rfl
  · show (w.heap.modify p _)[p]? = _
    rw [Array.getElem?_eq_getElem (by simpa using hlt), Array.getElem_modify_self, h']
    rfl

theorem give_any (w : World) (B p : Nat) (v : Value) (zs : List Int) (bad why : Int) (h : PenAt w B 172 5 p v zs bad) :
    Calls Try.prog 159 #[.pointer (some ⟨p, 0, none⟩), .int .i64 why] w (PenPost w B 172 5 p v (penFail why (zs, bad))) := by
  by_cases hb : bad = 0
  · subst hb
    refine (give_yes w B p v zs why h).mono fun e w' ⟨he, hw⟩ => ⟨he, .slice none 0 0, ?_, ?_, ?_⟩
    · subst hw
      have e1 : penFail why (zs, 0) = ([], why) := by simp [penFail]
      rw [e1]
      exact ⟨(heap_two (heap_two h.blk _).1 _).2, World.ownsRow_nil _ _ _ _, by simp [Value.ownBlock], h.lo, by simp, by simp⟩
    · subst hw
      exact ((Keeps.refl _ _).setCell (Or.inl (by simp)) _).setCell (Or.inl (by simp)) _
    · right; simp [Value.ownBlock]
  · refine (give_no w B p v zs bad why h (by simpa using hb)).mono fun e w' ⟨he, hw⟩ => ⟨he, v, ?_, ?_, Or.inl rfl⟩
    · subst hw
      have e1 : penFail why (zs, bad) = (zs, bad) := by simp [penFail, hb]
      rw [e1]; exact h
    · subst hw; exact Keeps.refl _ _



theorem PenAt.vlen {w : World} {B T U p v zs bad} (h : PenAt w B T U p v zs bad) : ∃ a cap, v = .slice a zs.length cap := by
  rcases h.own.2 with ⟨rfl, h0⟩ | ⟨g, cap, cur, rfl, _⟩
  · rw [h0]; exact ⟨none, 0, rfl⟩
  · exact ⟨_, cap, rfl⟩

theorem ownsRow_kept' {w w' : World} {B : Nat} {e : TypeId} {v : Value} {n : Nat} {xs : List Value} {S : List Nat} (h : w.ownsRow B e 1 v n xs) (k : Keeps S w w') (ho : ∀ g, v.ownBlock = some g → g ∉ S) : w'.ownsRow B e 1 v n xs := by
  refine ⟨h.1, ?_⟩
  rcases h.2 with hn | ⟨g, cap, cur, rfl, hb, hgg, rest⟩
  · exact Or.inl hn
  · refine Or.inr ⟨g, cap, cur, rfl, hb, ?_, rest⟩
    rw [k.block g (lt_of_block hgg) (ho g rfl)]
    exact hgg

theorem PenAt.keep {w w' : World} {B T U p v zs bad} {S : List Nat} (h : PenAt w B T U p v zs bad) (k : Keeps S w w') (hp : p ∉ S) (hv : ∀ g, v.ownBlock = some g → g ∉ S) : PenAt w' B T U p v zs bad :=
  ⟨by rw [k.block p h.lt hp]; exact h.blk, ownsRow_kept' h.own k hv, h.ne, h.lo, h.byte, h.fits⟩

theorem PenAt.grown {w w1 : World} {B T U p v zs bad} (h : PenAt w B T U p v zs bad) (hg : w.grownBy w1 v.ownBlock) :
    w1.cell? ⟨p, 0, none⟩ = some v ∧ w1.cell? ⟨p, 1, none⟩ = some (.int .i64 bad) ∧ w1.frozen? ⟨p, 0, none⟩ = false ∧ w1.frozen? ⟨p, 1, none⟩ = false := by
  have hb : w1.heap[p]? = some (.cells #[v, .int .i64 bad] T (0, 0)) := by rw [hg.block p h.lt (fun e => h.ne e.symm)]; exact h.blk
  simp [World.cell?, World.frozen?, hb]

/-- What the append law leaves, stored into the pen. -/
theorem pen_grown {w w1 : World} {B T U p : Nat} {v v' : Value} {zs bs : List Int} (h : PenAt w B T U p v zs 0) (hown : w1.ownsRow B U 1 v' (zs.length + bs.length) (zs.map (Value.int .u8) ++ bs.map (Value.int .u8)))
    (hgrow : w.grownBy w1 v.ownBlock) (hnew : NewRow w v v') (hbs : ∀ z ∈ bs, 0 ≤ z ∧ z ≤ 255) (hfit : zs.length + bs.length ≤ 65536) :
    PenPost w B T U p v (zs ++ bs, 0) (.returned (.tuple #[])) (w1.setCell ⟨p, 0, none⟩ v') := by
  have hne : v'.ownBlock ≠ some p := by
    rcases hnew with e | e
    · rw [e]; exact h.ne
    · intro hp; have := e p hp; have := h.lt; omega
  have hb1 : w1.heap[p]? = some (.cells #[v, .int .i64 0] T (0, 0)) := by rw [hgrow.block p h.lt (fun e => h.ne e.symm)]; exact h.blk
  refine ⟨rfl, v', ⟨(heap_two hb1 v').1, ?_, hne, h.lo, ?_, by simpa using hfit⟩, ?_, hnew⟩
  · have := ownsRow_setCell_other (a := ⟨p, 0, none⟩) hown hne v'
    simpa using this
  · intro z hz
    rcases List.mem_append.1 hz with hz | hz
    · exact h.byte z hz
    · exact hbs z hz
  · refine ((Keeps.refl _ w).grown hgrow (fun k hk => Or.inl ?_)).setCell (Or.inl (by simp)) _
    simp [hk]

set_option maxHeartbeats 400000 in
theorem add_any (w : World) (B p : Nat) (v : Value) (zs : List Int) (bad : Int) (u : Value) (bs : List Int) (h : PenAt w B 172 5 p v zs bad) (hr : RowAt w u bs) (hB : B ≤ w.heap.size) :
    Calls Try.prog 160 #[.pointer (some ⟨p, 0, none⟩), u] w (PenPost w B 172 5 p v (penAdd bs (zs, bad))) := by
  have c0 := h.cell0
  have c1 := h.cell1
  have f0 := h.free0
  have f1 := h.free1
  have hfit := h.fits
  have HR := hid hr
  obtain ⟨a, cap, rfl, r1, r2, r3, r4, r5⟩ := hr
  have H := hid h
  have H4 := hid r4
  obtain ⟨va, vc, hv⟩ := h.vlen
  have HV := hid hv
  clear h r3 r4 r5 hv
  by_cases hb : bad = 0
  · subst hb
    by_cases hl : zs.length + bs.length > 65536
    · have hlt : (65536 : Int) - zs.length < bs.length := by omega
      have e1 : penAdd bs (zs, 0) = penFail 3 (zs, 0) := by simp [penAdd, penFail, hl]
      have E1 := hid e1
      obtain rfl := HV.out
      clear e1 HV
      go_enter Try.func160, Try.ntmps160
      go_wp2_with fail
      refine (give_any _ B p _ zs 0 3 H.out).mono ?_
      rintro e w' ⟨rfl, hq⟩
      go_wp2_with fail
      go_end0
      exact ⟨rfl, by rw [E1.out]; exact hq⟩
    · have hge : ¬ ((65536 : Int) - zs.length < bs.length) := by omega
      have e1 : penAdd bs (zs, 0) = (zs ++ bs, 0) := by simp [penAdd, hl]
      have E1 := hid e1
      have hmax : zs.length + bs.length ≤ 65536 := by omega
      obtain ⟨i0, hi, hz0, hz1, hz2⟩ := info_parts info5
      obtain rfl := HV.out
      clear e1 HV
      go_enter Try.func160, Try.ntmps160
      go_wp2_with (at_builtin; refine wpList_append_row rfl _ _ 34 rfl B 5 i0 (.int .u8 0) Try.underlying34 hi hz0 hz1 hz2 rfl (.slice va zs.length vc) zs.length (zs.map (Value.int .u8)) rfl H.out.own _ bs rfl HR.out (by omega) hB ?_; intro a' c' w1 k1 k2 k3; obtain ⟨d0, d1, d2, d3⟩ := H.out.grown k2.out)
      go_end0
      rw [E1.out]
      exact pen_grown H.out k1.out k2.out k3.out H4.out hmax
  · have hb' : (bad == 0) = false := by simpa using hb
    have hb2 : (bad != 0) = true := by simpa using hb
    have e1 : penAdd bs (zs, bad) = (zs, bad) := by simp [penAdd, hb]
    have E1 := hid e1
    clear e1 HV hb
    go_enter Try.func160, Try.ntmps160
    go_wp2_with fail
    go_end0
    exact ⟨rfl, v, by rw [E1.out]; exact H.out, Keeps.refl _ _, Or.inl rfl⟩
end Go.Proofs.Ytoglcohdanpciaa
