/- BkEa, BkEb, BkEc, BkEd, BkEe, BkEf, BkEg. -/
import Derived.Test.YtamcllcjondcpaaBkQ
import Derived.Test.YtamcllcjondcpaaBkF
import Derived.Test.YtamcllcjondcpaaBkD
import Derived.Test.YtamcllcjondcpaaEyJ
import Derived.Test.YtamcllcjondcpaaRefF
import Derived.Test.YtamcllcjondcpaaBkH
import Derived.Test.YtamcllcjondcpaaBkK
import Derived.Test.YtamcllcjondcpaaBkC
import Derived.Test.YtamcllcjondcpaaKitB
import Derived.Test.YtamcllcjondcpaaBkW
import Derived.Test.YtamcllcjondcpaaBkXj
import Derived.Test.YtamcllcjondcpaaBkR
import Derived.Test.YtamcllcjondcpaaModel
/- blocks: the code's GetPtr. -/
namespace Go.Proofs.Ytamcllcjondcpaa
open Go.RowKit Go.Shelf
set_option maxRecDepth 100000
set_option linter.unusedSimpArgs false

/-- What a read of a number answers, and what is left behind it. -/
def numE (n : Int) (st : PSt) : Int × PSt := (((after st.1 st.2 (rdNum n st.1)).1).getD 0, (after st.1 st.2 (rdNum n st.1)).2)
def EyN (w : World) (B p : Nat) (v : Value) (st : PSt) (e : Ending) (w' : World) (x : Int) : Prop :=
  e = .returned (.int .i64 x) ∧ (∃ v2, EyeAt w' B p v2 st.1 st.2 ∧ SameBlk v v2) ∧ Keeps [p] w w'
theorem eyNum (w : World) (B p : Nat) (v : Value) (st : PSt) (n : Int) (h : EyeAt w B p v st.1 st.2) :
    Calls Try.prog 34 #[.pointer (some ⟨p, 0, none⟩), .int .i64 n] w fun e w' => EyN w B p v (numE n st).2 e w' (numE n st).1 :=
  (eyeNum_any w B p v st.1 st.2 n h).mono fun e w' ⟨h1, k, m⟩ => by
    refine ⟨?_, h1, k⟩
    unfold numE
    cases hr : (after st.1 st.2 (rdNum n st.1)).1 with
    | none => rw [hr] at m; exact m
    | some x => rw [hr] at m; exact m
theorem numE_ne {n : Int} {st : PSt} (h : (numE n st).2.1 ≠ []) : st.1 ≠ [] := by
  intro e
  apply h
  unfold numE after rdNum
  rw [e]
  by_cases h1 : st.2 ≠ 0
  · rw [if_pos h1]
  · rw [if_neg h1]
    split
    · rfl
    · rename_i heq
      split at heq
      · cases heq
      · split at heq
        · cases heq
        · simp at heq; rw [heq.2]
theorem off_oldB {w : World} {u : Value} {zs : List Int} (h : RowAt w u zs) {g : Nat} (hg : w.heap.size ≤ g) : Off [g] u zs := by
  intro ad n c e hne hm
  have hpos : 0 < zs.length := List.length_pos_iff.2 hne
  obtain ⟨g2, off, cap, rfl, _, hc⟩ := h.open hpos
  injection e with e1 _ _
  obtain rfl := Option.some.inj e1
  have := World.block_lt_of_cell? _ _ (hc 0 hpos)
  simp at hm this
  omega
/-- The row's block is none of those from B on. -/
def OffB (B : Nat) (v : Value) (zs : List Int) : Prop := ∀ g, B ≤ g → Off [g] v zs
theorem OffB.same {B : Nat} {v v2 : Value} {zs ys : List Int} (h : OffB B v zs) (k : SameBlk v v2) (hz : ys ≠ [] → zs ≠ []) : OffB B v2 ys := by
  intro g hg ad n c e hy hm
  simp at hm
  obtain ⟨ad', n', c', rfl, hb⟩ := k ad n c e
  have := h g hg ad' n' c' rfl (hz hy)
  simp at this
  exact this (by rw [hb, hm])
theorem five_cells {w : World} {b : Nat} {cs : Array Value} {T : TypeId} (h : w.heap[b]? = some (.cells cs T (0, 0))) (i : Nat) : w.cell? ⟨b, i, none⟩ = cs[i]? ∧ w.frozen? ⟨b, i, none⟩ = false := by
  simp [World.cell?, World.frozen?, h]
/-- What a pointer's read answers. -/
def getP (st : PSt) : Pt × PSt :=
  let a := numE 1 st; let b := numE 3 a.2; let c := numE 4 b.2; let d := numE 2 c.2; let f := numE 1 d.2
  (⟨a.1, b.1, c.1, d.1, f.1⟩, f.2)
/-- An eye in a later world: what it holds, and that its row lies as before. -/
def EyL (w w' : World) (B p : Nat) (v : Value) (st : PSt) : Prop := ∃ v2, EyeAt w' B p v2 st.1 st.2 ∧ SameBlk v v2 ∧ OffB w.heap.size v2 st.1
theorem EyL.num {w wr : World} {B p : Nat} {v : Value} {st : PSt} (h : EyL w wr B p v st) (n : Int) :
    Calls Try.prog 34 #[.pointer (some ⟨p, 0, none⟩), .int .i64 n] wr fun e w' => e = .returned (.int .i64 (numE n st).1) ∧ EyL w w' B p v (numE n st).2 ∧ Keeps [p] wr w' := by
  obtain ⟨v2, he, hs, ho⟩ := h
  exact (eyNum wr B p v2 st n he).mono fun e w' ⟨h1, ⟨v3, h3, hs3⟩, k⟩ => ⟨h1, ⟨v3, h3, hs.trans hs3, ho.same hs3 numE_ne⟩, k⟩
theorem EyL.later {w wr w' : World} {B p g : Nat} {v : Value} {st : PSt} (h : EyL w wr B p v st) (k : Keeps [g] wr w') (hg : w.heap.size ≤ g) (hp : p ≠ g) : EyL w w' B p v st := by
  obtain ⟨v2, he, hs, ho⟩ := h
  exact ⟨v2, he.keep k (by simpa using hp) (ho g hg), hs, ho⟩
theorem EyL.more {w wr w' : World} {B p : Nat} {v : Value} {st : PSt} (h : EyL w wr B p v st) (k : Keeps [] wr w') : EyL w w' B p v st := by
  obtain ⟨v2, he, hs, ho⟩ := h
  exact ⟨v2, he.keep k (by simp) (by intro _ _ _ _ _; simp), hs, ho⟩
theorem EyL.lt {w wr : World} {B p : Nat} {v : Value} {st : PSt} (h : EyL w wr B p v st) : p < wr.heap.size := by
  obtain ⟨v2, he, _⟩ := h
  exact he.lt
theorem EyL.fail {w wr : World} {B p : Nat} {v : Value} {st : PSt} (h : EyL w wr B p v st) : Calls Try.prog 75 #[.pointer (some ⟨p, 0, none⟩)] wr fun e w' => e = .returned (.int .i64 st.2) ∧ wr = w' := by
  obtain ⟨v2, he, _⟩ := h
  exact fail_any wr B p v2 st.1 st.2 he
theorem set_keep {w : World} {b i : Nat} {u : Value} : Keeps [b] w (w.setCell ⟨b, i, none⟩ u) := (Keeps.refl [b] w).setCell (Or.inl (by simp)) _
theorem set_five {w : World} {b i : Nat} {A : Array Value} {T : TypeId} (h : w.heap[b]? = some (.cells A T (0, 0))) (u : Value) : (w.setCell ⟨b, i, none⟩ u).heap[b]? = some (.cells (A.setIfInBounds i u) T (0, 0)) := by
  have hlt := lt_of_block h
  have h' : w.heap[b] = .cells A T (0, 0) := by simpa [Array.getElem?_eq_getElem hlt] using h
  show (w.heap.modify b _)[b]? = _
  rw [Array.getElem?_eq_getElem (by simpa using hlt), Array.getElem_modify_self, h']
  rfl
theorem range_of {w : World} {b : Nat} {x : Pt} {T : TypeId} (h : w.heap[b]? = some (.cells x.cells.toArray T (0, 0))) : w.rangeAt b 0 x.cells := fun j u hu => by
  rw [Nat.zero_add, cell_of_row _ _ _ _ _ _ h, ← Array.getElem?_toList]
  simpa using hu
theorem one_row (x : Pt) : (pZ.cells.toArray.toList.take 0 ++ x.cells ++ pZ.cells.toArray.toList.drop (0 + 5)).toArray = x.cells.toArray := by simp [Pt.cells]
/-- What GetPtr answers. -/
def getA (st : PSt) : Pt := if (getP st).2.2 = 0 then (getP st).1 else pZ
set_option maxHeartbeats 12800000 in
theorem zGetPtr_any {w0 : World} (w : World) (B p : Nat) (v : Value) (st : PSt) (h : EyL w0 w B p v st) (hw0 : w0.heap.size ≤ w.heap.size) :
    Calls Try.prog 37 #[.pointer (some ⟨p, 0, none⟩)] w fun e w' => e = .returned (ptV (getA st)) ∧ EyL w0 w' B p v (getP st).2 ∧ Keeps [p] w w' := by
  have HW0 := hid hw0
  have hpw := h.lt
  have k1 : Keeps [] w (w.alloc (.cells pZ.cells.toArray 47)) := (Keeps.refl [] w).alloc _
  have k2 : Keeps [] w ((w.alloc (.cells pZ.cells.toArray 47)).alloc (.cells pZ.cells.toArray 47)) := k1.alloc _
  have E0 := hid (h.more k2)
  have D0 : Hid (((w.alloc (.cells pZ.cells.toArray 47)).alloc (.cells pZ.cells.toArray 47)).heap[w.heap.size]? = some (.cells pZ.cells.toArray 47 (0, 0))) := hid (((Keeps.refl [] (w.alloc (.cells pZ.cells.toArray 47))).alloc _).block _ (by simp) (by simp) |>.trans (heap_alloc_new w _))
  have b3 := heap_alloc_new (w.alloc (.cells pZ.cells.toArray 47)) (.cells pZ.cells.toArray 47)
  rw [World.size_alloc] at b3
  have C3 := hid b3
  have K0 := hid k2
  have HP := hid hpw
  have HS0 := hid (show w.heap.size + 1 < ((w.alloc (.cells pZ.cells.toArray 47)).alloc (.cells pZ.cells.toArray 47)).heap.size by simp)
  obtain ⟨x1, s1, e1⟩ : ∃ x s, numE 1 st = (x, s) := ⟨_, _, rfl⟩
  obtain ⟨x2, s2, e2⟩ : ∃ x s, numE 3 s1 = (x, s) := ⟨_, _, rfl⟩
  obtain ⟨x3, s3, e3⟩ : ∃ x s, numE 4 s2 = (x, s) := ⟨_, _, rfl⟩
  obtain ⟨x4, s4, e4⟩ : ∃ x s, numE 2 s3 = (x, s) := ⟨_, _, rfl⟩
  obtain ⟨x5, s5, e5⟩ : ∃ x s, numE 1 s4 = (x, s) := ⟨_, _, rfl⟩
  have EG : Hid (getP st = (⟨x1, x2, x3, x4, x5⟩, s5)) := hid (by unfold getP; rw [e1]; simp only; rw [e2]; simp only; rw [e3]; simp only; rw [e4]; simp only; rw [e5])
  have N1 := hid e1
  have N2 := hid e2
  have N3 := hid e3
  have N4 := hid e4
  have N5 := hid e5
  clear h hw0 k1 k2 b3 hpw e1 e2 e3 e4 e5
  go_enter Try.func37, Try.ntmps37
  go_wp2_with (first | (refine wpList_is rfl _ _ (exec_alloc 47 pZ.cells.toArray iPtr2 rfl) ?_) | fail)
  have A0 := E0.out.num 1
  rw [N1.out] at A0
  refine A0.mono ?_
  rintro e u0 ⟨rfl, ey, kk⟩
  have F0 := hid ((kk.block (w.heap.size + 1) (by have := HS0.out; omega) (by have := HP.out; simp; omega)).trans C3.out)
  have G0 := hid ((kk.block w.heap.size (by have := HS0.out; omega) (by have := HP.out; simp; omega)).trans D0.out)
  have T0 := hid ey
  have KU0 := hid ((K0.out.mono (S' := [p]) (by simp)).trans kk)
  have HU0 := hid (show w.heap.size + 1 < u0.heap.size by have := HS0.out; have := kk.size; omega)
  obtain ⟨cc, ff⟩ := five_cells F0.out 0
  change u0.cell? ⟨w.heap.size + 1, 0, none⟩ = some (.int .i64 0) at cc
  clear A0 ey kk
  have J1 := hid (set_five (i := 0) F0.out (.int .i64 x1))
  have sk1 : Keeps [w.heap.size + 1] u0 (u0.setCell ⟨w.heap.size + 1, 0, none⟩ (.int .i64 x1)) := set_keep
  have D1 := hid ((sk1.block w.heap.size (by have := HU0.out; omega) (by simp)).trans G0.out)
  have E1 := hid (T0.out.later sk1 (by have := HW0.out; omega) (by have := HP.out; omega))
  have K1 := hid (KU0.out.trans' sk1 (fun i hi hm => by simp at hm; omega))
  have HS1 := hid (Nat.lt_of_lt_of_le HU0.out sk1.size)
  clear sk1
  go_wp2_with fail
  have A1 := E1.out.num 3
  rw [N2.out] at A1
  refine A1.mono ?_
  rintro e u1 ⟨rfl, ey, kk⟩
  have F1 := hid ((kk.block (w.heap.size + 1) (by have := HS1.out; omega) (by have := HP.out; simp; omega)).trans J1.out)
  have G1 := hid ((kk.block w.heap.size (by have := HS1.out; omega) (by have := HP.out; simp; omega)).trans D1.out)
  have T1 := hid ey
  have KU1 := hid ((K1.out.mono (S' := [p]) (by simp)).trans kk)
  have HU1 := hid (show w.heap.size + 1 < u1.heap.size by have := HS1.out; have := kk.size; omega)
  obtain ⟨cc, ff⟩ := five_cells F1.out 1
  change u1.cell? ⟨w.heap.size + 1, 1, none⟩ = some (.int .i64 0) at cc
  clear A1 ey kk
  have D1 := hid (set_five (i := 1) F1.out (.int .i64 x2))
  have sk2 : Keeps [w.heap.size + 1] u1 (u1.setCell ⟨w.heap.size + 1, 1, none⟩ (.int .i64 x2)) := set_keep
  have D2 := hid ((sk2.block w.heap.size (by have := HU1.out; omega) (by simp)).trans G1.out)
  have E2 := hid (T1.out.later sk2 (by have := HW0.out; omega) (by have := HP.out; omega))
  have K2 := hid (KU1.out.trans' sk2 (fun i hi hm => by simp at hm; omega))
  have HS2 := hid (Nat.lt_of_lt_of_le HU1.out sk2.size)
  clear sk2
  go_wp2_with fail
  have A2 := E2.out.num 4
  rw [N3.out] at A2
  refine A2.mono ?_
  rintro e u2 ⟨rfl, ey, kk⟩
  have F2 := hid ((kk.block (w.heap.size + 1) (by have := HS2.out; omega) (by have := HP.out; simp; omega)).trans D1.out)
  have G2 := hid ((kk.block w.heap.size (by have := HS2.out; omega) (by have := HP.out; simp; omega)).trans D2.out)
  have T2 := hid ey
  have KU2 := hid ((K2.out.mono (S' := [p]) (by simp)).trans kk)
  have HU2 := hid (show w.heap.size + 1 < u2.heap.size by have := HS2.out; have := kk.size; omega)
  obtain ⟨cc, ff⟩ := five_cells F2.out 2
  change u2.cell? ⟨w.heap.size + 1, 2, none⟩ = some (.int .i64 0) at cc
  clear A2 ey kk
  have J3 := hid (set_five (i := 2) F2.out (.int .i64 x3))
  have sk3 : Keeps [w.heap.size + 1] u2 (u2.setCell ⟨w.heap.size + 1, 2, none⟩ (.int .i64 x3)) := set_keep
  have D3 := hid ((sk3.block w.heap.size (by have := HU2.out; omega) (by simp)).trans G2.out)
  have E3 := hid (T2.out.later sk3 (by have := HW0.out; omega) (by have := HP.out; omega))
  have K3 := hid (KU2.out.trans' sk3 (fun i hi hm => by simp at hm; omega))
  have HS3 := hid (Nat.lt_of_lt_of_le HU2.out sk3.size)
  clear sk3
  go_wp2_with fail
  have A3 := E3.out.num 2
  rw [N4.out] at A3
  refine A3.mono ?_
  rintro e u3 ⟨rfl, ey, kk⟩
  have F3 := hid ((kk.block (w.heap.size + 1) (by have := HS3.out; omega) (by have := HP.out; simp; omega)).trans J3.out)
  have G3 := hid ((kk.block w.heap.size (by have := HS3.out; omega) (by have := HP.out; simp; omega)).trans D3.out)
  have T3 := hid ey
  have KU3 := hid ((K3.out.mono (S' := [p]) (by simp)).trans kk)
  have HU3 := hid (show w.heap.size + 1 < u3.heap.size by have := HS3.out; have := kk.size; omega)
  obtain ⟨cc, ff⟩ := five_cells F3.out 3
  change u3.cell? ⟨w.heap.size + 1, 3, none⟩ = some (.int .i64 0) at cc
  clear A3 ey kk
  have J4 := hid (set_five (i := 3) F3.out (.int .i64 x4))
  have sk4 : Keeps [w.heap.size + 1] u3 (u3.setCell ⟨w.heap.size + 1, 3, none⟩ (.int .i64 x4)) := set_keep
  have D4 := hid ((sk4.block w.heap.size (by have := HU3.out; omega) (by simp)).trans G3.out)
  have E4 := hid (T3.out.later sk4 (by have := HW0.out; omega) (by have := HP.out; omega))
  have K4 := hid (KU3.out.trans' sk4 (fun i hi hm => by simp at hm; omega))
  have HS4 := hid (Nat.lt_of_lt_of_le HU3.out sk4.size)
  clear sk4
  go_wp2_with fail
  have A4 := E4.out.num 1
  rw [N5.out] at A4
  refine A4.mono ?_
  rintro e u4 ⟨rfl, ey, kk⟩
  have F4 := hid ((kk.block (w.heap.size + 1) (by have := HS4.out; omega) (by have := HP.out; simp; omega)).trans J4.out)
  have G4 := hid ((kk.block w.heap.size (by have := HS4.out; omega) (by have := HP.out; simp; omega)).trans D4.out)
  have T4 := hid ey
  have KU4 := hid ((K4.out.mono (S' := [p]) (by simp)).trans kk)
  have HU4 := hid (show w.heap.size + 1 < u4.heap.size by have := HS4.out; have := kk.size; omega)
  obtain ⟨cc, ff⟩ := five_cells F4.out 4
  change u4.cell? ⟨w.heap.size + 1, 4, none⟩ = some (.int .i64 0) at cc
  clear A4 ey kk
  have J5 := hid (set_five (i := 4) F4.out (.int .i64 x5))
  have sk5 : Keeps [w.heap.size + 1] u4 (u4.setCell ⟨w.heap.size + 1, 4, none⟩ (.int .i64 x5)) := set_keep
  have D5 := hid ((sk5.block w.heap.size (by have := HU4.out; omega) (by simp)).trans G4.out)
  have E5 := hid (T4.out.later sk5 (by have := HW0.out; omega) (by have := HP.out; omega))
  have K5 := hid (KU4.out.trans' sk5 (fun i hi hm => by simp at hm; omega))
  have HS5 := hid (Nat.lt_of_lt_of_le HU4.out sk5.size)
  clear sk5
  go_wp2_with fail
  refine (E5.out.fail).mono ?_
  rintro e _ ⟨rfl, rfl⟩
  generalize u4.setCell ⟨w.heap.size + 1, 4, none⟩ (.int .i64 x5) = u5 at J5 D5 E5 K5 HS5 ⊢
  have R3 : Hid (u5.rangeAt (w.heap.size + 1) 0 (⟨x1, x2, x3, x4, x5⟩ : Pt).cells) := hid (range_of (x := ⟨x1, x2, x3, x4, x5⟩) J5.out)
  by_cases hz : s5.2 = 0
  · have HZ := hid hz
    have hzb : (s5.2 == 0) = true := by simpa using hz
    clear hz
    obtain ⟨r1, r2⟩ := setRow_keepsP (cs := (pZ.cells.toArray.toList.take 0 ++ (⟨x1, x2, x3, x4, x5⟩ : Pt).cells ++ pZ.cells.toArray.toList.drop (0 + 5)).toArray) D5.out
    have R1 := hid r1
    have R2 := hid r2
    clear r1 r2
    go_wp2_with (first | (refine wpList_isW rfl _ _ (exec_load _ _ _ _ rfl rfl (loadPt_run _ (w.heap.size + 1) 0 ⟨x1, x2, x3, x4, x5⟩ R3.out)) ?_) | (refine wpList_noval rfl _ (exec_storePtAt _ _ rfl w.heap.size 0 rfl pZ.cells.toArray D5.out (by simp [Pt.cells]) ⟨x1, x2, x3, x4, x5⟩ rfl) ?_) | fail)
    refine bodyPost_ret (pt_ret rfl rfl (range_of (x := ⟨x1, x2, x3, x4, x5⟩) (by have := R1.out; rw [one_row] at this; exact this))) rfl ?_
    refine ⟨by unfold getA; rw [EG.out, if_pos HZ.out], ?_, K5.out.trans' R2.out (fun i hi hm => by simp at hm; omega)⟩
    rw [EG.out]
    exact E5.out.later R2.out HW0.out (by have := HP.out; omega)
  · have HZ := hid hz
    have hzb : (s5.2 == 0) = false := by simpa using hz
    clear hz
    obtain ⟨r1, r2⟩ := setRow_keepsP (cs := (pZ.cells.toArray.toList.take 0 ++ pZ.cells ++ pZ.cells.toArray.toList.drop (0 + 5)).toArray) D5.out
    have R1 := hid r1
    have R2 := hid r2
    clear r1 r2
    go_wp2_with (first | (refine wpList_is rfl _ _ (exec_buildPtZ rfl) ?_) | (refine wpList_noval rfl _ (exec_storePtAt _ _ rfl w.heap.size 0 rfl pZ.cells.toArray D5.out (by simp [Pt.cells]) pZ rfl) ?_) | fail)
    refine bodyPost_ret (pt_ret rfl rfl (range_of (x := pZ) (by have := R1.out; rw [one_row] at this; exact this))) rfl ?_
    refine ⟨by unfold getA; rw [EG.out, if_neg HZ.out], ?_, K5.out.trans' R2.out (fun i hi hm => by simp at hm; omega)⟩
    rw [EG.out]
    exact E5.out.later R2.out HW0.out (by have := HP.out; omega)
end Go.Proofs.Ytamcllcjondcpaa


/- blocks: the reference's GetPtr. -/
namespace Go.Proofs.Ytamcllcjondcpaa
open Go.RowKit Go.Shelf
set_option maxRecDepth 100000
set_option linter.unusedSimpArgs false

def REyL (w : World) (B p : Nat) (st : PSt) : Prop := ∃ v2, REyeAt w B p v2 st.1 st.2
theorem REyL.num {wr : World} {B p : Nat} {st : PSt} (h : REyL wr B p st) (n : Int) :
    Calls Try.prog 39 #[.pointer (some ⟨p, 0, none⟩), .int .i64 n] wr fun e w' => e = .returned (.int .i64 (numE n st).1) ∧ REyL w' B p (numE n st).2 ∧ Keeps [p] wr w' := by
  obtain ⟨v2, he⟩ := h
  exact (renum_any wr B p v2 st.1 st.2 n he).mono fun e w' ⟨h1, k, m⟩ => by
    refine ⟨?_, h1, k⟩
    unfold numE
    cases hr : (after st.1 st.2 (rdNum n st.1)).1 with
    | none => rw [hr] at m; exact m
    | some x => rw [hr] at m; exact m
theorem REyL.later {wr w' : World} {B p g : Nat} {st : PSt} (h : REyL wr B p st) (k : Keeps [g] wr w') (hg : B ≤ g) (hp : p ≠ g) : REyL w' B p st := by
  obtain ⟨v2, he⟩ := h
  exact ⟨v2, he.keep k (by simpa using hp) (by simpa using hg)⟩
theorem REyL.more {wr w' : World} {B p : Nat} {st : PSt} (h : REyL wr B p st) (k : Keeps [] wr w') : REyL w' B p st := by
  obtain ⟨v2, he⟩ := h
  exact ⟨v2, he.keep k (by simp) (by simp)⟩
theorem REyL.lt {wr : World} {B p : Nat} {st : PSt} (h : REyL wr B p st) : p < wr.heap.size := by
  obtain ⟨v2, he⟩ := h
  exact lt_of_block he.blk
set_option maxHeartbeats 12800000 in
theorem rGetPtr_any (w : World) (B p : Nat) (st : PSt) (h : REyL w B p st) (hB : B ≤ w.heap.size) :
    Calls Try.prog 42 #[.pointer (some ⟨p, 0, none⟩)] w fun e w' => e = .returned (ptV (getP st).1) ∧ REyL w' B p (getP st).2 ∧ Keeps [p] w w' := by
  have HB := hid hB
  have hpw := h.lt
  have k1 : Keeps [] w (w.alloc (.cells pZ.cells.toArray 47)) := (Keeps.refl [] w).alloc _
  have k2 : Keeps [] w ((w.alloc (.cells pZ.cells.toArray 47)).alloc (.cells pZ.cells.toArray 47)) := k1.alloc _
  have E0 := hid (h.more k2)
  have D0 : Hid (((w.alloc (.cells pZ.cells.toArray 47)).alloc (.cells pZ.cells.toArray 47)).heap[w.heap.size]? = some (.cells pZ.cells.toArray 47 (0, 0))) := hid (((Keeps.refl [] (w.alloc (.cells pZ.cells.toArray 47))).alloc _).block _ (by simp) (by simp) |>.trans (heap_alloc_new w _))
  have b3 := heap_alloc_new (w.alloc (.cells pZ.cells.toArray 47)) (.cells pZ.cells.toArray 47)
  rw [World.size_alloc] at b3
  have C3 := hid b3
  have K0 := hid k2
  have HP := hid hpw
  have HS0 := hid (show w.heap.size + 1 < ((w.alloc (.cells pZ.cells.toArray 47)).alloc (.cells pZ.cells.toArray 47)).heap.size by simp)
  obtain ⟨x1, s1, e1⟩ : ∃ x s, numE 1 st = (x, s) := ⟨_, _, rfl⟩
  obtain ⟨x2, s2, e2⟩ : ∃ x s, numE 3 s1 = (x, s) := ⟨_, _, rfl⟩
  obtain ⟨x3, s3, e3⟩ : ∃ x s, numE 4 s2 = (x, s) := ⟨_, _, rfl⟩
  obtain ⟨x4, s4, e4⟩ : ∃ x s, numE 2 s3 = (x, s) := ⟨_, _, rfl⟩
  obtain ⟨x5, s5, e5⟩ : ∃ x s, numE 1 s4 = (x, s) := ⟨_, _, rfl⟩
  have EG : Hid (getP st = (⟨x1, x2, x3, x4, x5⟩, s5)) := hid (by unfold getP; rw [e1]; simp only; rw [e2]; simp only; rw [e3]; simp only; rw [e4]; simp only; rw [e5])
  have N1 := hid e1
  have N2 := hid e2
  have N3 := hid e3
  have N4 := hid e4
  have N5 := hid e5
  clear h hB k1 k2 b3 hpw e1 e2 e3 e4 e5
  go_enter Try.func42, Try.ntmps42
  go_wp2_with (first | (refine wpList_is rfl _ _ (exec_alloc 47 pZ.cells.toArray iPtr2 rfl) ?_) | (refine wpList_is rfl _ _ (exec_buildPtZ rfl) ?_) | (refine wpList_noval rfl _ (exec_storeNew 47 _ _ rfl (w.alloc (.cells pZ.cells.toArray 47)) pZ.cells.toArray pZ.cells.toArray rfl rfl rfl iPtr2 rfl (cells_one pZ)) ?_) | fail)
  have A0 := E0.out.num 1
  rw [N1.out] at A0
  refine A0.mono ?_
  rintro e u0 ⟨rfl, ey, kk⟩
  have F0 := hid ((kk.block (w.heap.size + 1) (by have := HS0.out; omega) (by have := HP.out; simp; omega)).trans C3.out)
  have G0 := hid ((kk.block w.heap.size (by have := HS0.out; omega) (by have := HP.out; simp; omega)).trans D0.out)
  have T0 := hid ey
  have KU0 := hid ((K0.out.mono (S' := [p]) (by simp)).trans kk)
  have HU0 := hid (show w.heap.size + 1 < u0.heap.size by have := HS0.out; have := kk.size; omega)
  obtain ⟨cc, ff⟩ := five_cells F0.out 0
  change u0.cell? ⟨w.heap.size + 1, 0, none⟩ = some (.int .i64 0) at cc
  clear A0 ey kk
  have J1 := hid (set_five (i := 0) F0.out (.int .i64 x1))
  have sk1 : Keeps [w.heap.size + 1] u0 (u0.setCell ⟨w.heap.size + 1, 0, none⟩ (.int .i64 x1)) := set_keep
  have D1 := hid ((sk1.block w.heap.size (by have := HU0.out; omega) (by simp)).trans G0.out)
  have E1 := hid (T0.out.later sk1 (by have := HB.out; omega) (by have := HP.out; omega))
  have K1 := hid (KU0.out.trans' sk1 (fun i hi hm => by simp at hm; omega))
  have HS1 := hid (Nat.lt_of_lt_of_le HU0.out sk1.size)
  clear sk1
  go_wp2_with fail
  have A1 := E1.out.num 3
  rw [N2.out] at A1
  refine A1.mono ?_
  rintro e u1 ⟨rfl, ey, kk⟩
  have F1 := hid ((kk.block (w.heap.size + 1) (by have := HS1.out; omega) (by have := HP.out; simp; omega)).trans J1.out)
  have G1 := hid ((kk.block w.heap.size (by have := HS1.out; omega) (by have := HP.out; simp; omega)).trans D1.out)
  have T1 := hid ey
  have KU1 := hid ((K1.out.mono (S' := [p]) (by simp)).trans kk)
  have HU1 := hid (show w.heap.size + 1 < u1.heap.size by have := HS1.out; have := kk.size; omega)
  obtain ⟨cc, ff⟩ := five_cells F1.out 1
  change u1.cell? ⟨w.heap.size + 1, 1, none⟩ = some (.int .i64 0) at cc
  clear A1 ey kk
  have D1 := hid (set_five (i := 1) F1.out (.int .i64 x2))
  have sk2 : Keeps [w.heap.size + 1] u1 (u1.setCell ⟨w.heap.size + 1, 1, none⟩ (.int .i64 x2)) := set_keep
  have D2 := hid ((sk2.block w.heap.size (by have := HU1.out; omega) (by simp)).trans G1.out)
  have E2 := hid (T1.out.later sk2 (by have := HB.out; omega) (by have := HP.out; omega))
  have K2 := hid (KU1.out.trans' sk2 (fun i hi hm => by simp at hm; omega))
  have HS2 := hid (Nat.lt_of_lt_of_le HU1.out sk2.size)
  clear sk2
  go_wp2_with fail
  have A2 := E2.out.num 4
  rw [N3.out] at A2
  refine A2.mono ?_
  rintro e u2 ⟨rfl, ey, kk⟩
  have F2 := hid ((kk.block (w.heap.size + 1) (by have := HS2.out; omega) (by have := HP.out; simp; omega)).trans D1.out)
  have G2 := hid ((kk.block w.heap.size (by have := HS2.out; omega) (by have := HP.out; simp; omega)).trans D2.out)
  have T2 := hid ey
  have KU2 := hid ((K2.out.mono (S' := [p]) (by simp)).trans kk)
  have HU2 := hid (show w.heap.size + 1 < u2.heap.size by have := HS2.out; have := kk.size; omega)
  obtain ⟨cc, ff⟩ := five_cells F2.out 2
  change u2.cell? ⟨w.heap.size + 1, 2, none⟩ = some (.int .i64 0) at cc
  clear A2 ey kk
  have J3 := hid (set_five (i := 2) F2.out (.int .i64 x3))
  have sk3 : Keeps [w.heap.size + 1] u2 (u2.setCell ⟨w.heap.size + 1, 2, none⟩ (.int .i64 x3)) := set_keep
  have D3 := hid ((sk3.block w.heap.size (by have := HU2.out; omega) (by simp)).trans G2.out)
  have E3 := hid (T2.out.later sk3 (by have := HB.out; omega) (by have := HP.out; omega))
  have K3 := hid (KU2.out.trans' sk3 (fun i hi hm => by simp at hm; omega))
  have HS3 := hid (Nat.lt_of_lt_of_le HU2.out sk3.size)
  clear sk3
  go_wp2_with fail
  have A3 := E3.out.num 2
  rw [N4.out] at A3
  refine A3.mono ?_
  rintro e u3 ⟨rfl, ey, kk⟩
  have F3 := hid ((kk.block (w.heap.size + 1) (by have := HS3.out; omega) (by have := HP.out; simp; omega)).trans J3.out)
  have G3 := hid ((kk.block w.heap.size (by have := HS3.out; omega) (by have := HP.out; simp; omega)).trans D3.out)
  have T3 := hid ey
  have KU3 := hid ((K3.out.mono (S' := [p]) (by simp)).trans kk)
  have HU3 := hid (show w.heap.size + 1 < u3.heap.size by have := HS3.out; have := kk.size; omega)
  obtain ⟨cc, ff⟩ := five_cells F3.out 3
  change u3.cell? ⟨w.heap.size + 1, 3, none⟩ = some (.int .i64 0) at cc
  clear A3 ey kk
  have J4 := hid (set_five (i := 3) F3.out (.int .i64 x4))
  have sk4 : Keeps [w.heap.size + 1] u3 (u3.setCell ⟨w.heap.size + 1, 3, none⟩ (.int .i64 x4)) := set_keep
  have D4 := hid ((sk4.block w.heap.size (by have := HU3.out; omega) (by simp)).trans G3.out)
  have E4 := hid (T3.out.later sk4 (by have := HB.out; omega) (by have := HP.out; omega))
  have K4 := hid (KU3.out.trans' sk4 (fun i hi hm => by simp at hm; omega))
  have HS4 := hid (Nat.lt_of_lt_of_le HU3.out sk4.size)
  clear sk4
  go_wp2_with fail
  have A4 := E4.out.num 1
  rw [N5.out] at A4
  refine A4.mono ?_
  rintro e u4 ⟨rfl, ey, kk⟩
  have F4 := hid ((kk.block (w.heap.size + 1) (by have := HS4.out; omega) (by have := HP.out; simp; omega)).trans J4.out)
  have G4 := hid ((kk.block w.heap.size (by have := HS4.out; omega) (by have := HP.out; simp; omega)).trans D4.out)
  have T4 := hid ey
  have KU4 := hid ((K4.out.mono (S' := [p]) (by simp)).trans kk)
  have HU4 := hid (show w.heap.size + 1 < u4.heap.size by have := HS4.out; have := kk.size; omega)
  obtain ⟨cc, ff⟩ := five_cells F4.out 4
  change u4.cell? ⟨w.heap.size + 1, 4, none⟩ = some (.int .i64 0) at cc
  clear A4 ey kk
  have J5 := hid (set_five (i := 4) F4.out (.int .i64 x5))
  have sk5 : Keeps [w.heap.size + 1] u4 (u4.setCell ⟨w.heap.size + 1, 4, none⟩ (.int .i64 x5)) := set_keep
  have D5 := hid ((sk5.block w.heap.size (by have := HU4.out; omega) (by simp)).trans G4.out)
  have E5 := hid (T4.out.later sk5 (by have := HB.out; omega) (by have := HP.out; omega))
  have K5 := hid (KU4.out.trans' sk5 (fun i hi hm => by simp at hm; omega))
  have HS5 := hid (Nat.lt_of_lt_of_le HU4.out sk5.size)
  clear sk5
  have HE5 : ∃ u5, u5 = u4.setCell ⟨w.heap.size + 1, 4, none⟩ (.int .i64 x5) := ⟨_, rfl⟩
  obtain ⟨u5, hu5⟩ := HE5
  rw [← hu5] at J5 D5 E5 K5 HS5
  have R3 : Hid (u5.rangeAt (w.heap.size + 1) 0 (⟨x1, x2, x3, x4, x5⟩ : Pt).cells) := hid (range_of (x := ⟨x1, x2, x3, x4, x5⟩) J5.out)
  obtain ⟨r1, r2⟩ := setRow_keepsP (cs := (pZ.cells.toArray.toList.take 0 ++ (⟨x1, x2, x3, x4, x5⟩ : Pt).cells ++ pZ.cells.toArray.toList.drop (0 + 5)).toArray) D5.out
  have R1 := hid r1
  have R2 := hid r2
  clear r1 r2
  have U5 := hid hu5
  clear hu5
  go_wp2_with (first | (rw [← U5.out]; refine wpList_isW rfl _ _ (exec_load _ _ _ _ rfl rfl (loadPt_run _ (w.heap.size + 1) 0 ⟨x1, x2, x3, x4, x5⟩ R3.out)) ?_) | (refine wpList_noval rfl _ (exec_storePtAt _ _ rfl w.heap.size 0 rfl pZ.cells.toArray D5.out (by simp [Pt.cells]) ⟨x1, x2, x3, x4, x5⟩ rfl) ?_) | fail)
  refine bodyPost_ret (pt_ret rfl rfl (range_of (x := ⟨x1, x2, x3, x4, x5⟩) (by have := R1.out; rw [one_row] at this; exact this))) rfl ?_
  refine ⟨by rw [EG.out], ?_, K5.out.trans' R2.out (fun i hi hm => by simp at hm; omega)⟩
  rw [EG.out]
  exact E5.out.later R2.out HB.out (by have := HP.out; omega)
end Go.Proofs.Ytamcllcjondcpaa


/- blocks: refusal; what a map's readers answer, plainly. -/
namespace Go.Proofs.Ytamcllcjondcpaa
open Go.RowKit Go.Shelf
set_option maxRecDepth 100000
set_option linter.unusedSimpArgs false

def refW (bad : Int) (ok : Bool) : Int := if bad ≠ 0 then bad else if ok = true then 0 else 4
set_option maxHeartbeats 1600000 in
theorem zRefusal_any {w wr : World} {B p : Nat} {v : Value} {st : PSt} (h : EyL w wr B p v st) (ok : Bool) :
    Calls Try.prog 35 #[.pointer (some ⟨p, 0, none⟩), .bool ok] wr fun e w' => e = .returned (.int .i64 (refW st.2 ok)) ∧ wr = w' := by
  have H := hid h
  clear h
  by_cases hz : st.2 = 0
  · have HZ := hid hz
    have hzb : (st.2 == 0) = true := by simpa using hz
    clear hz
    cases ok with
    | true =>
      go_enter Try.func35, Try.ntmps35
      go_wp2_with fail
      refine (H.out.fail).mono ?_
      rintro e _ ⟨rfl, rfl⟩
      go_wp2_with fail
      go_ret
      exact ⟨by unfold refW; rw [if_neg (by simp [HZ.out])]; rfl, rfl⟩
    | false =>
      go_enter Try.func35, Try.ntmps35
      go_wp2_with fail
      refine (H.out.fail).mono ?_
      rintro e _ ⟨rfl, rfl⟩
      go_wp2_with fail
      go_ret
      exact ⟨by unfold refW; rw [if_neg (by simp [HZ.out])]; rfl, rfl⟩
  · have HZ := hid hz
    have hzb : (st.2 == 0) = false := by simpa using hz
    clear hz
    go_enter Try.func35, Try.ntmps35
    go_wp2_with fail
    refine (H.out.fail).mono ?_
    rintro e _ ⟨rfl, rfl⟩
    go_wp2_with fail
    go_ret
    exact ⟨by unfold refW; rw [if_pos HZ.out]; rfl, rfl⟩

/-- What the reference's eye knows when a form is found wrong. -/
def formW (st : PSt) (b : Bool) : PSt := if b = true ∧ st.2 = 0 then (st.1, 4) else st
theorem REyL.cells {wr : World} {B p : Nat} {st : PSt} (h : REyL wr B p st) : wr.cell? ⟨p, 1, none⟩ = some (.int .i64 st.2) ∧ wr.frozen? ⟨p, 1, none⟩ = false := by
  obtain ⟨v2, he⟩ := h
  exact ⟨he.cell1, he.free1⟩
set_option maxHeartbeats 1600000 in
theorem rFall_any {w : World} {B p : Nat} {st : PSt} (h : REyL w B p st) (y : Int) :
    Calls Try.prog 68 #[.pointer (some ⟨p, 0, none⟩), .int .i64 y] w fun e w' => e = .returned (.tuple #[]) ∧ REyL w' B p (if st.2 = 0 then (st.1, y) else st) ∧ Keeps [p] w w' := by
  have H := hid h
  obtain ⟨c1, f1⟩ := h.cells
  clear h
  by_cases hz : st.2 = 0
  · have HZ := hid hz
    have hzb : (st.2 == 0) = true := by simpa using hz
    clear hz
    go_enter Try.func68, Try.ntmps68
    go_wp2_with fail
    go_end0
    obtain ⟨v2, he⟩ := H.out
    obtain ⟨e1, e2⟩ := he.setBad y
    exact ⟨rfl, ⟨v2, e1⟩, e2⟩
  · have HZ := hid hz
    have hzb : (st.2 == 0) = false := by simpa using hz
    clear hz
    go_enter Try.func68, Try.ntmps68
    go_wp2_with fail
    go_end0
    exact ⟨rfl, H.out, Keeps.refl _ _⟩
set_option maxHeartbeats 1600000 in
theorem rForm_any {w : World} {B p : Nat} {st : PSt} (h : REyL w B p st) (b : Bool) :
    Calls Try.prog 40 #[.pointer (some ⟨p, 0, none⟩), .bool b] w fun e w' => e = .returned (.tuple #[]) ∧ REyL w' B p (formW st b) ∧ Keeps [p] w w' := by
  have H := hid h
  clear h
  cases b with
  | true =>
    go_enter Try.func40, Try.ntmps40
    go_wp2_with fail
    refine (rFall_any H.out 4).mono ?_
    rintro e w2 ⟨rfl, h2, k2⟩
    have H2 := hid h2
    have K2 := hid k2
    clear h2 k2
    go_wp2_with fail
    go_end0
    refine ⟨rfl, ?_, K2.out⟩
    have := H2.out
    unfold formW
    by_cases hz : st.2 = 0
    · rw [if_pos hz] at this
      rw [if_pos ⟨rfl, hz⟩]
      exact this
    · rw [if_neg hz] at this
      rw [if_neg (fun h => hz h.2)]
      exact this
  | false =>
    go_enter Try.func40, Try.ntmps40
    go_wp2_with fail
    go_end0
    exact ⟨rfl, by unfold formW; rw [if_neg (by simp)]; exact H.out, Keeps.refl _ _⟩

/-- The pointers that were read, or why there is no reading on; and what is left. -/
def rdS (o : Except Int (List Pt) × PSt) : Except Int (List Pt) × PSt :=
  match o.1 with
  | .error _ => o
  | .ok l => if (getP o.2).2.2 ≠ 0 then (.error (getP o.2).2.2, (getP o.2).2) else if mayP (getP o.2).1 = true then (.ok (l ++ [(getP o.2).1]), (getP o.2).2) else (.error 4, (getP o.2).2)
def rdI (st : PSt) : Nat → Except Int (List Pt) × PSt
  | 0 => (.ok [], st)
  | k + 1 => rdS (rdI st k)
theorem rdI_err {st : PSt} {k : Nat} {y : Int} (h : (rdI st k).1 = .error y) : ∀ n, rdI st (k + n) = rdI st k
  | 0 => rfl
  | n + 1 => by
    show rdS (rdI st (k + n)) = _
    rw [rdI_err h n]
    unfold rdS
    rw [h]
theorem rdI_len {st : PSt} : ∀ {k : Nat} {l : List Pt}, (rdI st k).1 = .ok l → l.length = k ∧ ∀ x ∈ l, mayP x = true := by
  intro k
  induction k with
  | zero => intro l h; injection h with h; subst h; exact ⟨rfl, by simp⟩
  | succ k ih =>
    intro l h
    unfold rdI rdS at h
    cases hk : (rdI st k).1 with
    | error y => rw [hk] at h; simp only at h; rw [hk] at h; cases h
    | ok l0 =>
      rw [hk] at h
      simp only at h
      split at h
      · cases h
      · split at h
        · rename_i hm
          injection h with h
          subst h
          obtain ⟨h1, h2⟩ := ih hk
          exact ⟨by simp [h1], fun x hx => by
            rcases List.mem_append.1 hx with hx | hx
            · exact h2 x hx
            · simp at hx; rw [hx]; exact hm⟩
        · cases h
/-- What Read answers: a map, or why there is none; and what is left. -/
def readM (st : PSt) : Except Int Bk × PSt :=
  if (numE 2 st).2.2 ≠ 0 then (.error (numE 2 st).2.2, (numE 2 st).2)
  else if (numE 2 st).1 ≤ 4096 then (match (rdI (numE 2 st).2 (cnt (numE 2 st).1)).1 with
    | .error y => (.error y, (rdI (numE 2 st).2 (cnt (numE 2 st).1)).2)
    | .ok l => (.ok ⟨(numE 2 st).1, l⟩, (rdI (numE 2 st).2 (cnt (numE 2 st).1)).2))
  else (.error 4, (numE 2 st).2)
end Go.Proofs.Ytamcllcjondcpaa


/- blocks: resize of a map that is new: its row is its own. -/
namespace Go.Proofs.Ytamcllcjondcpaa
open Go.RowKit Go.Shelf
set_option maxRecDepth 100000
set_option linter.unusedSimpArgs false

theorem append_new (w : World) (M : List Nat) (hM : ∀ b ∈ M, b < w.heap.size) (ty : TypeId) (m : Nat) (hb : m ≤ 1000) :
    ∃ a' c' w', (Builtin.append_ #[39, 3] ty #[.slice none 0 0, .int .i64 (m : Int)]).run Try.prog w = .ok (.slice a' m c') w' ∧ OwnP w' w.heap.size M (.slice a' m c') (List.replicate m pZ) ∧ Keeps [] w w' := by
  obtain ⟨i, hi, hz, hz5, hz40⟩ := info_parts iPtr
  have hw : IntKind.i64.wrap (m : Int) = (m : Int) := IntWalk.i64_in _ (by omega)
  have hn0 : ¬ ((m : Int) < 0) := by omega
  have hn1 : ¬ (281474976710656 < (m : Int) * 40) := by omega
  have hw0 : IntKind.i64.wrap (0 : Int) = 0 := by decide
  have uI : Try.prog.underlying 3 = some (.int .i64) := by kernel_rfl
  by_cases hm : m = 0
  · subst hm
    refine ⟨none, 0, w, ?_, OwnP.nil _ _ _ hM, Keeps.refl _ _⟩
    simp [Builtin.append_, run_underlying Try.underlying39, run_underlying uI, sizeOf, typeInfo, zeroValue, hi, hz, hz5, hz40, asInt, asIntOf, hw0]
  · have hk := grownCap_ge w m 0 47
    have hcm : grownCap w m 0 47 ≤ maxLen := grownCap_le_maxLen w _ _ _ (by unfold maxLen; omega)
    have hfit : ¬ (281474976710656 < Builtin.nextslicecap m 0 * 40) := by have := nextslicecap_le (need := m) (old := 0) (by omega); omega
    have h63' : ¬ (9223372036854775807 < (m : Int)) := by omega
    have hm5 : ¬ (m = 0 ∨ 5 = 0) := by omega
    have hf : (Builtin.firstCells 5 0 (.slice none 0 0)).run Try.prog w.drew = .ok #[] w.drew := by simp [Builtin.firstCells]
    have hs2 : w.drew.heap.size = w.heap.size := rfl
    refine ⟨some ⟨w.heap.size, 0, none⟩, grownCap w m 0 47, w.drew.alloc (.cells (Builtin.zeroCells (ptV pZ).cells m ++ Builtin.zeroCells (ptV pZ).cells (grownCap w m 0 47 - m)) 47), ?_, ?_, ((Keeps.refl [] w).drew).alloc _⟩
    · simp [Builtin.append_, run_underlying Try.underlying39, run_underlying uI, sizeOf, typeInfo, zeroValue, hi, hz, hz5, hz40, asInt, asIntOf, hw, hn0, hn1, h63', hfit, hm5, hm, Question.forced, hf, newRow, grownCap]
      intro h0; omega
    · refine ⟨⟨by rw [pcells_length], .inr ⟨w.heap.size, grownCap w m 0 47, _, by simp, Nat.le_refl _, heap_alloc_new w.drew _, by simpa using hk, hcm, ?_, ?_⟩⟩, hM⟩
      · rw [← Array.length_toList, Array.toList_append, zeros_pts, zeros_pts]
        simp [pcells_length]
        have := hk
        omega
      · rw [Array.toList_append, zeros_pts]
        rw [show (List.replicate m pZ).length * 5 = (pcells (List.replicate m pZ)).length by rw [pcells_length]]
        exact List.take_left

set_option maxHeartbeats 3200000 in
theorem zResizeNew_any {w : World} {M : List Nat} {q : Nat} {z : Int} (hb : w.heap[q]? = some (.cells #[.bool true, .int .i64 z, .slice none 0 0] 76 (0, 0))) (hq : q ∈ M) (hM : ∀ b ∈ M, b < w.heap.size) (s : Int) (h0 : 0 ≤ s) (h1 : s ≤ 4096) :
    Calls Try.prog 36 #[.pointer (some ⟨q, 0, none⟩), .int .i64 s] w fun e w' => e = .returned (.tuple #[]) ∧ (∃ u, w'.heap[q]? = some (.cells #[.bool true, .int .i64 s, u] 76 (0, 0)) ∧ OwnP w' w.heap.size M u (List.replicate (cnt s) pZ)) ∧ Keeps [q] w w' := by
  have HB := hid hb
  have HM := hid hM
  have HQ := hid hq
  obtain ⟨n, hn⟩ : ∃ n : Nat, n = cnt s := ⟨_, rfl⟩
  have hn64 : n ≤ 64 := by rw [hn]; exact cnt_le h1
  have hdiv : (s + 63) / 64 = (n : Int) := by rw [hn]; unfold cnt; omega
  have hmin : min (n : Int) (0 : Int) = 0 := by omega
  rw [← hn]
  obtain ⟨c0, c1, c2⟩ := block_cells3 hb
  obtain ⟨f1, f2⟩ := free_three hb
  obtain ⟨b1, _⟩ := heap_three2 hb (.int .i64 s)
  have k1 : Keeps [q] w (w.setCell ⟨q, 1, none⟩ (.int .i64 s)) := (Keeps.refl [q] w).setCell (Or.inl (by simp)) _
  have B1 := hid b1
  have K1 := hid k1
  obtain ⟨d0, d1, d2⟩ := block_cells3 b1
  obtain ⟨g1, g2⟩ := free_three b1
  have CUT := hid (fun W => ptrs_cut none 0 0 0 (Nat.le_refl _) (Nat.le_refl _) W)
  obtain ⟨a', c', w2, hrun, o2, k2⟩ := append_new (w.setCell ⟨q, 1, none⟩ (.int .i64 s)) M (fun b hb => by have := hM b hb; simpa [World.setCell] using this) 39 n (by omega)
  have RUN := hid hrun
  have O2 := hid o2
  have K2 := hid k2
  have B2 := hid ((k2.block q (lt_of_block b1) (by simp)).trans b1)
  have h2 := B2.out
  obtain ⟨x0, x1, x2⟩ := block_cells3 h2
  obtain ⟨y1, y2⟩ := free_three h2
  have HN := hid hn
  clear hrun o2 k2 b1 k1 hb hM hq h2 hn
  have L0 : (0 : Int) ≤ s := h0
  have q1 : (s + 64 - 1) = s + 63 := by omega
  go_enter Try.func36, Try.ntmps36
  go_wp2_with (first | (refine wpList_is rfl _ _ (exec_sliceR 39 _ _ _ _ rfl (CUT.out _)) ?_) | (refine wpList_is rfl _ _ (exec_appendM _ _ rfl rfl rfl RUN.out) ?_) | fail)
  go_end0
  have k3 : Keeps [q] w2 (w2.setCell ⟨q, 2, none⟩ (.slice a' n c')) := (Keeps.refl [q] w2).setCell (Or.inl (by simp)) _
  exact ⟨rfl, ⟨_, (heap_three2 B2.out _).2, by have := O2.out.keep k3 (by simpa using HQ.out); simpa [World.setCell] using this⟩, (K1.out.trans (K2.out.mono (by simp))).trans k3⟩
end Go.Proofs.Ytamcllcjondcpaa


/- blocks: the code's Read. -/
namespace Go.Proofs.Ytamcllcjondcpaa
open Go.RowKit Go.Shelf
set_option maxRecDepth 100000
set_option linter.unusedSimpArgs false

theorem numE_low {w0 w : World} {B p : Nat} {v : Value} {st : PSt} (h : EyL w0 w B p v st) (n : Int) : 0 ≤ (numE n st).1 := by
  obtain ⟨v2, he, _⟩ := h
  have hr : ∀ z ∈ st.1, 0 ≤ z ∧ z ≤ 255 := by obtain ⟨a, cap, _, _, _, _, h, _⟩ := he.row; exact h
  unfold numE after rdNum
  by_cases h1 : st.2 ≠ 0
  · rw [if_pos h1]; exact Int.le_refl _
  · rw [if_neg h1]
    split
    · exact Int.le_refl _
    · rename_i x rest heq
      split at heq
      · cases heq
      · split at heq
        · cases heq
        · injection heq with heq
          injection heq with e1 e2
          show 0 ≤ x
          rw [← e1]
          exact (val_bound _ (st.1.take n.toNat) rfl (fun z hz => hr z (List.mem_of_mem_take hz))).1
def RdPost (w w' : World) (B p : Nat) (v : Value) (o : Except Int Bk × PSt) (e : Ending) : Prop :=
  EyL w w' B p v o.2 ∧ Keeps [p] w w' ∧ match o.1 with
    | .error y => e = .returned (.tuple #[.pointer none, .int .i64 y]) ∧ y ≠ 0
    | .ok s => ∃ m, e = .returned (.tuple #[.pointer (some ⟨m, 0, none⟩), .int .i64 0]) ∧ w.heap.size ≤ m ∧ ∀ M : List Nat, (∀ b ∈ M, b < w.heap.size) → BkAt w' (m :: M) m s
theorem OwnP.keep' {w w' : World} {B b : Nat} {M : List Nat} {v : Value} {ps : List Pt} (h : OwnP w B M v ps) (k : Keeps [b] w w') (hb : b < B) : OwnP w' B M v ps :=
  ⟨(OwnP.keep ⟨h.row, fun x hx => by simp at hx; subst hx; exact hb⟩ k (fun x hx => hx) : OwnP w' B [b] v ps).row, h.lt⟩
theorem refW_eq (bad : Int) (ok : Bool) : refW bad ok = 0 ↔ bad = 0 ∧ ok = true := by
  unfold refW
  by_cases h : bad = 0
  · subst h; cases ok <;> simp
  · rw [if_pos h]; simp [h]
theorem zeros_set {l : List Pt} {k n : Nat} (hl : l.length = k) (h : k < n) (x : Pt) : (l ++ List.replicate (n - k) pZ).set k x = (l ++ [x]) ++ List.replicate (n - (k + 1)) pZ := by
  subst hl
  rw [List.set_append_right _ _ (Nat.le_refl _), Nat.sub_self, show n - l.length = (n - (l.length + 1)) + 1 by omega, List.replicate_succ, List.set_cons_zero, List.append_assoc]
  rfl

set_option maxHeartbeats 12800000 in
theorem zRead_any (w : World) (B p : Nat) (v : Value) (st : PSt) (h : EyL w w B p v st) :
    Calls Try.prog 10 #[.pointer (some ⟨p, 0, none⟩)] w fun e w' => RdPost w w' B p v (readM st) e := by
  have H := hid h
  have HP := hid h.lt
  have HLO := hid (numE_low h 2)
  obtain ⟨sz, s1, e1⟩ : ∃ x s, numE 2 st = (x, s) := ⟨_, _, rfl⟩
  have N1 := hid e1
  have RM := hid (show readM st = if s1.2 ≠ 0 then (.error s1.2, s1) else if sz ≤ 4096 then (match (rdI s1 (cnt sz)).1 with
    | .error y => (.error y, (rdI s1 (cnt sz)).2)
    | .ok l => (.ok ⟨sz, l⟩, (rdI s1 (cnt sz)).2)) else (.error 4, s1) by unfold readM; rw [e1] <;> rfl)
  rw [e1] at HLO
  have A0 := h.num 2
  rw [e1] at A0
  have A := hid A0
  clear h e1 A0
  go_enter Try.func10, Try.ntmps10
  go_wp2_with fail
  refine A.out.mono ?_
  rintro e w1 ⟨rfl, h1, k1⟩
  have H1 := hid h1
  have K1 := hid k1
  clear h1 k1 A
  go_wp2_with fail
  by_cases hz : refW s1.2 (decide (sz ≤ 4096)) = 0
  · have HZ1 := hid ((refW_eq _ _).1 hz)
    have HZ := HZ1
    refine (zRefusal_any H1.out (decide (sz ≤ 4096))).mono ?_
    rw [hz]
    clear hz
    rintro e _ ⟨rfl, rfl⟩
    go_wp2_with fail
    have B0 := hid (bk_new w1 [])
    have KN : Hid (Keeps [] w1 (w1.alloc (.cells #[.bool true, .int .i64 0, .slice none 0 0] 76))) := hid ((Keeps.refl [] w1).alloc _)
    have BB := hid (heap_alloc_new w1 (.cells #[.bool true, .int .i64 0, .slice none 0 0] 76))
    have HSN := hid (show w1.heap.size < (w1.alloc (.cells #[.bool true, .int .i64 0, .slice none 0 0] 76)).heap.size by simp)
    refine (zNew_any w1).mono ?_
    rintro e w2 ⟨rfl, hw⟩
    rw [← hw] at B0 KN BB HSN
    clear hw
    have H2 := hid (H1.out.more KN.out)
    have HWM := hid K1.out.size
    have K2 := hid (K1.out.trans (KN.out.mono (by simp)))
    obtain ⟨m, hm⟩ : ∃ m, m = w1.heap.size := ⟨_, rfl⟩
    rw [← hm] at BB HSN HWM ⊢
    clear hm B0 KN
    have HSZ := hid (show 0 ≤ sz ∧ sz ≤ 4096 from ⟨HLO.out, of_decide_eq_true HZ.out.2⟩)
    go_wp2_with fail
    refine (zResizeNew_any (M := [m]) BB.out (by simp) (fun b hb => by simp at hb; subst hb; exact HSN.out) sz HSZ.out.1 HSZ.out.2).mono ?_
    obtain ⟨n, hn⟩ : ∃ n, n = cnt sz := ⟨_, rfl⟩
    have HN := hid hn
    have HN64 := hid (show n ≤ 64 by rw [hn]; exact cnt_le HSZ.out.2)
    rw [← hn]
    clear hn
    rintro e w3 ⟨rfl, ⟨u, b3, o3⟩, k3⟩
    have H3 := hid (H2.out.later k3 HWM.out (by have := HP.out; have := HWM.out; omega))
    have K3 := hid (K2.out.trans' k3 (fun i hi hm => by simp at hm; have := HWM.out; omega))
    obtain ⟨a0, c0, rfl⟩ := o3.shape
    rw [List.length_replicate] at o3 b3
    have O3 := hid o3
    have B3 := hid b3
    have d2 := (block_cells3 b3).2.2
    clear o3 b3 k3
    go_wp2_with fail
    clear d2
    go_loopw [28] (fun cv wr => ∃ (k : Nat) (l : List Pt) (st2 : PSt) (a : Option Addr) (c : Nat), k ≤ n ∧ cv = .int .i64 k ∧ Hid (rdI s1 k = (.ok l, st2)) ∧ Hid (wr.heap[m]? = some (.cells #[.bool true, .int .i64 sz, .slice a n c] 76 (0, 0))) ∧ Hid (OwnP wr w2.heap.size [m] (.slice a n c) (l ++ List.replicate (n - k) pZ)) ∧ Hid (EyL w wr B p v st2) ∧ Hid (Keeps [p] w wr)) (fun cv _ => n - (intOf cv).toNat)
    case atStart => exact ⟨0, [], s1, a0, c0, Nat.zero_le _, rfl, hid rfl, B3, by simpa using O3, H3, K3⟩
    case round =>
      obtain ⟨k, l, st2, a, c, hk, rfl, RD, BM, OW, HE, KE⟩ := hrel
      have HLK := hid (show l.length = k from (rdI_len (by rw [RD.out])).1)
      by_cases hlt : k < n
      · have hk64 : k < 64 := by have := HN64.out; omega
        obtain ⟨y, hy⟩ : ∃ y, y = getA st2 := ⟨_, rfl⟩
        have HY := hid hy
        have G := hid (zGetPtr_any wr B p v st2 HE.out KE.out.size)
        rw [← hy] at G
        clear hy
        obtain ⟨y1, st3, hp⟩ : ∃ y1 s, getP st2 = (y1, s) := ⟨_, _, rfl⟩
        rw [hp] at G
        have HGP := hid hp
        have HYE := hid (show y = if st3.2 = 0 then y1 else pZ by rw [HY.out]; unfold getA; rw [hp])
        clear hp
        go_wp2_with fail
        refine G.out.mono ?_
        rintro e w4 ⟨rfl, h4, k4⟩
        have ka : Keeps [] w4 (w4.alloc (.cells y.cells.toArray 47)) := (Keeps.refl [] w4).alloc _
        have RA := hid (range_new w4 y.cells 47)
        have H4 := hid (h4.more ka)
        have K4 := hid ((KE.out.trans k4).trans (ka.mono (by simp)))
        have HPR := hid HE.out.lt
        have HMR := hid (lt_of_block BM.out)
        have B4 := hid (((k4.trans (ka.mono (by simp))).block m HMR.out (by have := HP.out; have := HWM.out; simp; omega)).trans BM.out)
        have O4 := hid (OW.out.keep' (k4.trans (ka.mono (by simp))) (by have := HP.out; have := HWM.out; have := HSN.out; simp; omega))
        have HS4 := hid (show w4.heap.size < (w4.alloc (.cells y.cells.toArray 47)).heap.size by simp)
        clear h4 k4 ka G
        go_wp2_with (first | (refine wpList_is rfl _ _ (exec_alloc 47 pZ.cells.toArray iPtr2 rfl) ?_) | (refine wpList_noval rfl _ (exec_storeNew 47 _ _ rfl w4 pZ.cells.toArray y.cells.toArray rfl rfl rfl iPtr2 rfl (cells_one _)) ?_) | (refine wpList_isW rfl _ _ (exec_load _ _ _ _ rfl rfl (loadPt_run _ w4.heap.size 0 y RA.out)) ?_) | fail)
        refine (may11_any _ y).mono ?_
        rintro e w5 ⟨rfl, k5⟩
        have H5 := hid (H4.out.more k5)
        have K5 := hid (K4.out.trans (k5.mono (by simp)))
        have B5 := hid ((k5.block m (lt_of_block B4.out) (by simp)).trans B4.out)
        have O5 := hid (O4.out.later k5)
        have R5 := hid (range_keep RA.out k5 (by simp))
        have HS5 := hid (show w4.heap.size < w5.heap.size by have := HS4.out; have := k5.size; omega)
        clear k5
        go_wp2_with fail
        by_cases hz : refW st3.2 (mayP y) = 0
        · have HZ := hid ((refW_eq _ _).1 hz)
          refine (zRefusal_any H5.out (mayP y)).mono ?_
          rw [hz]
          clear hz
          rintro e _ ⟨rfl, rfl⟩
          go_wp2_with fail
          have HYY := hid (show y = y1 by rw [HYE.out, if_pos HZ.out.1])
          obtain ⟨g, cap, cur, ev, hgB, hgb, _, hfit, hset⟩ := own_set O5.out k (by rw [List.length_append, List.length_replicate, HLK.out]; omega)
          injection ev with ev1 ev2 ev3
          subst ev1; subst ev3
          clear ev2
          obtain ⟨q0, q1, q2⟩ := block_cells3 B5.out
          have hmw : m < w5.heap.size := lt_of_block B5.out
          have hmg : m ≠ g := by have := HSN.out; omega
          refine wp_region_any (by kernel_rfl) (wpAny_of_late (late := [7]) (S := KpS [] w5.heap.size w5.drew) _ _ _ _ ?_)
          change wpAnyT _ _ _ _ _ _ _ _ _ w5.drew
          have cM : ∀ W1, KpS [] w5.heap.size w5.drew W1 → W1.cell? ⟨m, 2, none⟩ = some (.slice (some ⟨g, 0, none⟩) n c) := fun W1 h => h.cell (by rw [World.cell?_drew]; exact q2) hmw (by simp)
          have cY : ∀ W1, KpS [] w5.heap.size w5.drew W1 → W1.rangeAt w4.heap.size 0 y.cells := fun W1 h i v hv => h.cell (by rw [World.cell?_drew]; exact R5.out i v hv) HS5.out (by simp)
          refine late_take (i := 0) (v := .pointer (some ⟨m, 0, none⟩)) rfl (by kernel_rfl) (by kernel_rfl) (by kernel_rfl) (by kernel_rfl) (by kernel_rfl) (fun _ _ _ h => h) rfl (fun W1 hW1 => rfl) (KpS.refl _ _ _) ?_
          simp only [Act.put, List.setIfInBounds_toArray, List.set_cons_zero, List.set_cons_succ]
          refine late_take (i := 1) (v := .pointer (some ⟨m, 0, none⟩)) rfl (by kernel_rfl) (by kernel_rfl) (by kernel_rfl) (by kernel_rfl) (by kernel_rfl) (fun _ _ _ h => h) rfl (fun W1 hW1 => by go_simp) (KpS.refl _ _ _) ?_
          simp only [Act.put, List.setIfInBounds_toArray, List.set_cons_zero, List.set_cons_succ]
          refine late_take (i := 2) (v := .pointer (some ⟨m, 2, none⟩)) rfl (by kernel_rfl) (by kernel_rfl) (by kernel_rfl) (by kernel_rfl) (by kernel_rfl) (fun _ _ _ h => h) rfl (fun W1 hW1 => by go_simp) (KpS.refl _ _ _) ?_
          simp only [Act.put, List.setIfInBounds_toArray, List.set_cons_zero, List.set_cons_succ]
          refine late_take (i := 3) (v := .slice (some ⟨g, 0, none⟩) n c) rfl (by kernel_rfl) (by kernel_rfl) (by kernel_rfl) (by kernel_rfl) (by kernel_rfl) (fun _ _ _ h => h) rfl (fun W1 hW1 => exec_load _ _ _ _ rfl rfl (run_loadCell W1 _ _ _ (cM W1 hW1) (agg_no _ (by kernel_rfl)))) (KpS.refl _ _ _) ?_
          simp only [Act.put, List.setIfInBounds_toArray, List.set_cons_zero, List.set_cons_succ]
          refine late_take (i := 4) (v := .int .i64 (k : Int)) rfl (by kernel_rfl) (by kernel_rfl) (by kernel_rfl) (by kernel_rfl) (by kernel_rfl) (fun _ _ _ h => h) rfl (fun W1 hW1 => rfl) (KpS.refl _ _ _) ?_
          simp only [Act.put, List.setIfInBounds_toArray, List.set_cons_zero, List.set_cons_succ]
          refine late_take (i := 5) (v := ptV y) rfl (by kernel_rfl) (by kernel_rfl) (by kernel_rfl) (by kernel_rfl) (by kernel_rfl) (fun _ _ _ h => h) rfl (fun W1 hW1 => exec_load _ _ _ _ rfl rfl (loadPt_run W1 w4.heap.size 0 y (cY W1 hW1))) (KpS.refl _ _ _) ?_
          simp only [Act.put, List.setIfInBounds_toArray, List.set_cons_zero, List.set_cons_succ]
          refine late_take (i := 6) (v := .pointer (some ⟨g, k * 5, none⟩)) rfl (by kernel_rfl) (by kernel_rfl) (by kernel_rfl) (by kernel_rfl) (by kernel_rfl) (fun _ _ _ h => h) rfl (fun W1 hW1 => by go_simp) (KpS.refl _ _ _) ?_
          simp only [Act.put, List.setIfInBounds_toArray, List.set_cons_zero, List.set_cons_succ]
          have hbD : w5.drew.heap[g]? = some (.cells cur 47 (0, 0)) := hgb
          obtain ⟨r1, r2⟩ := setRow_keepsP (cs := (cur.toList.take (k * 5) ++ y.cells ++ cur.toList.drop (k * 5 + 5)).toArray) hbD
          refine late_do (i := 7) (by kernel_rfl) rfl rfl (wp_stored (exec_storePtAt _ _ rfl g (k * 5) rfl cur hbD hfit y rfl) ⟨Or.inl rfl, ?_⟩)
          simp only [Act.put]
          refine wpAnyT_done (by kernel_rfl) ?_ _
          have O6 := hid (hset y _ r1)
          have B6 := hid ((r2.block m hmw (by simpa using hmg)).trans B5.out)
          have H6 := hid ((H5.out.more ((Keeps.refl [] w5).drew)).later r2 (by have := K2.out.size; omega) (by have := HP.out; have := K2.out.size; omega))
          have K6 := hid (K5.out.drew.trans' r2 (fun i hi hm => by simp at hm; have := K2.out.size; omega))
          clear cM cY hbD r1 r2 hset q0 q1 q2 hgb hfit
          generalize w5.drew.setRow g (cur.toList.take (k * 5) ++ y.cells ++ cur.toList.drop (k * 5 + 5)).toArray = w6 at O6 B6 H6 K6 ⊢
          go_wp2_with fail
          go_roundw
          case rel =>
            refine ⟨k + 1, l ++ [y], st3, some ⟨g, 0, none⟩, c, by omega, by go_num, hid ?_, B6, hid ?_, H6, K6⟩
            · show rdS (rdI s1 k) = _
              rw [RD.out]
              unfold rdS
              simp only
              rw [HGP.out]
              simp only
              rw [if_neg (by rw [HZ.out.1]; simp), if_pos (by rw [← HYY.out]; exact HZ.out.2), HYY.out]
            · rw [← zeros_set HLK.out hlt]
              exact O6.out
          case measure => simp [intOf]; omega
        · have HZ := hid hz
          have HR := hid (show rdI s1 (k + 1) = (.error (refW st3.2 (mayP y)), st3) by
            show rdS (rdI s1 k) = _
            rw [RD.out]
            unfold rdS
            simp only
            rw [HGP.out]
            simp only
            by_cases h3 : st3.2 = 0
            · have hyy : y = y1 := by rw [HYE.out, if_pos h3]
              have hmy : mayP y = false := by
                cases hmy : mayP y with
                | false => rfl
                | true => exact absurd ((refW_eq _ _).2 ⟨h3, hmy⟩) HZ.out
              rw [if_neg (by rw [h3]; simp), if_neg (by rw [← hyy, hmy]; simp), hmy]
              unfold refW
              rw [if_neg (by rw [h3]; simp)]
              rfl
            · rw [if_pos h3]
              unfold refW
              rw [if_pos h3])
          obtain ⟨why, hwhy⟩ : ∃ z, z = refW st3.2 (mayP y) := ⟨_, rfl⟩
          have A6 := hid (zRefusal_any H5.out (mayP y))
          rw [← hwhy] at HZ HR A6
          clear hz hwhy
          have hwb : (why == 0) = false := by simpa using HZ.out
          refine A6.out.mono ?_
          rintro e _ ⟨rfl, rfl⟩
          go_wp2_with fail
          go_ret2
          have e1 : readM st = (.error why, st3) := by
            have := rdI_err (n := n - (k + 1)) (by rw [HR.out])
            rw [show k + 1 + (n - (k + 1)) = n by omega, HR.out] at this
            rw [RM.out, if_neg (by rw [HZ1.out.1]; simp), if_pos HSZ.out.2, ← HN.out, this]
          rw [e1]
          exact ⟨H5.out, K5.out, rfl, HZ.out⟩
      · obtain rfl : k = n := by omega
        go_wp2_with fail
        go_ret2
        have e1 : readM st = (.ok ⟨sz, l⟩, st2) := by
          rw [RM.out, if_neg (by rw [HZ.out.1]; simp), if_pos HSZ.out.2, ← HN.out, RD.out]
        rw [e1]
        refine ⟨HE.out, KE.out, m, rfl, HWM.out, fun M hM => ⟨⟨_, BM.out, ?_⟩, by simp, ⟨HSZ.out.1, HSZ.out.2, by rw [HLK.out]; exact HN.out, (rdI_len (by rw [RD.out])).2⟩⟩⟩
        have o2 : OwnP wr w2.heap.size (m :: M) (.slice a k c) (l ++ List.replicate (k - k) pZ) := ⟨OW.out.row, fun b hb => by
          rcases List.mem_cons.1 hb with rfl | hb
          · exact HSN.out
          · have := hM b hb
            have := K2.out.size
            omega⟩
        have := o2.at
        rw [Nat.sub_self] at this
        simpa using this
  · have HZ := hid hz
    have e1 : readM st = (.error (refW s1.2 (decide (sz ≤ 4096))), s1) := by
      rw [RM.out]
      by_cases h3 : s1.2 = 0
      · have hmy : ¬ sz ≤ 4096 := fun h => HZ.out ((refW_eq _ _).2 ⟨h3, decide_eq_true h⟩)
        rw [if_neg (by rw [h3]; simp), if_neg hmy]
        unfold refW
        rw [if_neg (by rw [h3]; simp), if_neg (by simpa using hmy)]
      · rw [if_pos h3]
        unfold refW
        rw [if_pos h3]
    have E1 := hid e1
    obtain ⟨why, hwhy⟩ : ∃ z, z = refW s1.2 (decide (sz ≤ 4096)) := ⟨_, rfl⟩
    have A6 := hid (zRefusal_any H1.out (decide (sz ≤ 4096)))
    rw [← hwhy] at HZ E1 A6
    clear hz hwhy e1
    have hwb : (why == 0) = false := by simpa using HZ.out
    refine A6.out.mono ?_
    rintro e _ ⟨rfl, rfl⟩
    go_wp2_with fail
    go_ret2
    rw [E1.out]
    exact ⟨H1.out, K1.out, rfl, HZ.out⟩
end Go.Proofs.Ytamcllcjondcpaa


/- blocks: the reference's ReadMap. -/
namespace Go.Proofs.Ytamcllcjondcpaa
open Go.RowKit Go.Shelf
set_option maxRecDepth 100000
set_option linter.unusedSimpArgs false

theorem numE_lowE {st : PSt} (hr : ∀ z ∈ st.1, 0 ≤ z ∧ z ≤ 255) (n : Int) : 0 ≤ (numE n st).1 := by
  unfold numE after rdNum
  by_cases h1 : st.2 ≠ 0
  · rw [if_pos h1]; exact Int.le_refl _
  · rw [if_neg h1]
    split
    · exact Int.le_refl _
    · rename_i x rest heq
      split at heq
      · cases heq
      · split at heq
        · cases heq
        · injection heq with heq
          injection heq with e1 e2
          show 0 ≤ x
          rw [← e1]
          exact (val_bound _ (st.1.take n.toNat) rfl (fun z hz => hr z (List.mem_of_mem_take hz))).1
theorem rk_new0 (w : World) : RkAt (w.alloc (.cells #[.int .i64 0, .slice none 0 0] 41)) w.heap.size [w.heap.size] bk0 :=
  ⟨⟨.slice none 0 0, heap_alloc_new w _, Or.inl ⟨rfl, rfl⟩, by simp [Value.ownBlock], by simp [Value.ownBlock]⟩, by decide⟩
/-- What ReadMap leaves. -/
def RMPost (w w' : World) (B p : Nat) (o : Except Int Bk × PSt) (e : Ending) : Prop :=
  ∃ m, e = .returned (.pointer (some ⟨m, 0, none⟩)) ∧ w.heap.size ≤ m ∧ Keeps [p] w w' ∧ match o.1 with
    | .error y => y ≠ 0 ∧ ∃ r, REyL w' B p (r, y)
    | .ok s => o.2.2 = 0 ∧ REyL w' B p o.2 ∧ ∃ F, RkAt w' m F s ∧ ∀ b ∈ F, w.heap.size ≤ b
/-- How far the pointers were read. -/
def RdI (s1 : PSt) (n k : Nat) (L : List Pt) (st : PSt) : Prop :=
  (st.2 = 0 → ∃ l, rdI s1 k = (.ok l, st) ∧ L = l ++ List.replicate (n - k) pZ) ∧ (st.2 ≠ 0 → (rdI s1 k).1 = .error st.2)
theorem rdS_good {l : List Pt} {st : PSt} (h0 : (getP st).2.2 = 0) (hm : mayP (getP st).1 = true) : rdS (.ok l, st) = (.ok (l ++ [(getP st).1]), (getP st).2) := by
  unfold rdS; simp only; rw [if_neg (by simp [h0]), if_pos hm]
theorem rdS_form {l : List Pt} {st : PSt} (h0 : (getP st).2.2 = 0) (hm : mayP (getP st).1 = false) : rdS (.ok l, st) = (.error 4, (getP st).2) := by
  unfold rdS; simp only; rw [if_neg (by simp [h0]), if_neg (by simp [hm])]
theorem rdS_fail {l : List Pt} {st : PSt} (h0 : (getP st).2.2 ≠ 0) : rdS (.ok l, st) = (.error (getP st).2.2, (getP st).2) := by
  unfold rdS; simp only; rw [if_pos h0]
theorem RdI.step {s1 : PSt} {n k : Nat} {L : List Pt} {st : PSt} (h : RdI s1 n k L st) (hz : st.2 = 0) (hk : k < n) : RdI s1 n (k + 1) (L.set k (getP st).1) (formW (getP st).2 (!mayP (getP st).1)) := by
  obtain ⟨l, e, rfl⟩ := h.1 hz
  have hl : l.length = k := (rdI_len (by rw [e])).1
  have e2 : rdI s1 (k + 1) = rdS (.ok l, st) := by show rdS (rdI s1 k) = _; rw [e]
  unfold formW
  by_cases h0 : (getP st).2.2 = 0
  · cases hm : mayP (getP st).1 with
    | true =>
      rw [if_neg (by simp)]
      refine ⟨fun _ => ⟨l ++ [(getP st).1], by rw [e2, rdS_good h0 hm], zeros_set hl hk _⟩, fun h => absurd h0 h⟩
    | false =>
      rw [if_pos ⟨rfl, h0⟩]
      exact ⟨fun h => (by cases h), fun _ => (by rw [e2, rdS_form h0 hm])⟩
  · rw [if_neg (fun h => h0 h.2)]
    exact ⟨fun h => absurd h h0, fun _ => by rw [e2, rdS_fail h0]⟩
theorem rdI_stay {st : PSt} {k : Nat} {y : Int} (h : (rdI st k).1 = .error y) {n : Nat} (hn : k ≤ n) : (rdI st n).1 = .error y := by
  have := rdI_err h (n - k)
  rw [show k + (n - k) = n by omega] at this
  rw [this, h]

set_option maxHeartbeats 25600000 in
theorem rReadMap_any (w : World) (B p : Nat) (st : PSt) (h : REyL w B p st) (hB : B ≤ w.heap.size) (hby : ∀ z ∈ st.1, 0 ≤ z ∧ z ≤ 255) :
    Calls Try.prog 11 #[.pointer (some ⟨p, 0, none⟩)] w fun e w' => RMPost w w' B p (readM st) e := by
  have HB := hid hB
  have HP := hid h.lt
  have ka : Keeps [] w (w.alloc (.cells #[.int .i64 0, .slice none 0 0] 41)) := (Keeps.refl [] w).alloc _
  have E0 := hid (h.more ka)
  have M0 := hid (rk_new0 w)
  have D0 := hid (heap_alloc_new w (.cells #[.int .i64 0, .slice none 0 0] 41))
  have K0 := hid (ka.mono (S' := [p]) (by simp))
  obtain ⟨sz, s1, e1⟩ : ∃ x s, numE 2 st = (x, s) := ⟨_, _, rfl⟩
  have N1 := hid e1
  have HLO := hid (show 0 ≤ sz by have := numE_lowE hby 2; rw [e1] at this; exact this)
  have RM := hid (show readM st = if s1.2 ≠ 0 then (.error s1.2, s1) else if sz ≤ 4096 then (match (rdI s1 (cnt sz)).1 with
    | .error y => (.error y, (rdI s1 (cnt sz)).2)
    | .ok l => (.ok ⟨sz, l⟩, (rdI s1 (cnt sz)).2)) else (.error 4, s1) by unfold readM; rw [e1] <;> rfl)
  clear h hB hby ka e1
  go_enter Try.func11, Try.ntmps11
  go_wp2_with fail
  have A := E0.out.num 2
  rw [N1.out] at A
  refine A.mono ?_
  rintro e u1 ⟨rfl, ey, kk⟩
  have T1 := hid ey
  have D1 := hid ((kk.block w.heap.size (lt_of_block D0.out) (by have := HP.out; simp; omega)).trans D0.out)
  have M1 := hid (M0.out.keep kk (fun b hb => by simp at hb; subst hb; have := HP.out; simp; omega))
  have KU1 := hid (K0.out.trans kk)
  obtain ⟨c0, c1, f0, f1⟩ := two_cells D1.out
  clear A ey kk c1 f1
  obtain ⟨m2, k2⟩ := rk_size M1.out sz
  have M2 := hid m2
  have D2 := hid ((heap_twoR D1.out (.int .i64 sz)).1)
  have E2 := hid (T1.out.later k2 (by have := HB.out; omega) (by have := HP.out; omega))
  have K2 := hid (KU1.out.trans' k2 (fun i hi hm => by simp at hm; omega))
  clear m2 k2
  go_wp2_with fail
  clear c0 f0
  generalize u1.setCell ⟨w.heap.size, 0, none⟩ (.int .i64 sz) = u2 at M2 D2 E2 K2 ⊢
  generalize hmm : w.heap.size = m at M2 D2 ⊢
  have HM := hid (show w.heap.size ≤ m by omega)
  have HPM := hid (show p < m by have := HP.out; omega)
  have HBM := hid (show B ≤ m by have := HB.out; omega)
  clear hmm M0 D0 M1 D1 T1 KU1 E0 K0
  obtain ⟨c0, c1, f0, f1⟩ := two_cells D2.out
  clear c1 f0 f1
  by_cases hbig : (4096 : Int) < sz
  · have HBG := hid hbig
    go_wp2_with fail
    rw [decide_eq_true HBG.out]
    refine (rForm_any E2.out true).mono ?_
    rintro e u3 ⟨rfl, e3, k3⟩
    have K3 := hid (K2.out.trans k3)
    obtain ⟨s2, hs2⟩ : ∃ s, s = formW s1 true := ⟨_, rfl⟩
    rw [← hs2] at e3
    have E3 := hid e3
    have HBAD : Hid (s2.2 ≠ 0) := hid (by rw [hs2]; unfold formW; by_cases h : s1.2 = 0 <;> simp [h])
    have HY := hid (show (if s1.2 ≠ 0 then ((.error s1.2, s1) : Except Int Bk × PSt) else (.error 4, s1)).1 = .error s2.2 by
      rw [hs2]; unfold formW
      by_cases h : s1.2 = 0 <;> simp [h])
    obtain ⟨cb, cf⟩ := e3.cells
    have hbad : (s2.2 != 0) = true := by simpa using HBAD.out
    clear e3 k3 hs2 cf c0 hbig
    go_wp2_with fail
    go_ret
    refine ⟨_, rfl, by have := HM.out; have := K3.out.size; omega, K3.out.trans (((Keeps.refl [] _).alloc _).mono (by simp)), ?_⟩
    rw [RM.out, if_neg (show ¬ sz ≤ 4096 by have := HBG.out; omega), HY.out]
    exact ⟨HBAD.out, _, E3.out.more ((Keeps.refl [] _).alloc _)⟩
  · have HBG := hid (show sz ≤ 4096 by omega)
    go_wp2_with fail
    rw [decide_eq_false (show ¬ (4096 : Int) < sz by have := HBG.out; omega)]
    refine (rForm_any E2.out false).mono ?_
    rintro e u3 ⟨rfl, e3, k3⟩
    have e3' : REyL u3 B p s1 := by unfold formW at e3; rw [if_neg (by simp)] at e3; exact e3
    have E3 := hid e3'
    have K3 := hid (K2.out.trans k3)
    have M3 := hid (M2.out.keep k3 (fun b hb => by simp at hb; subst hb; have := HPM.out; simp; omega))
    obtain ⟨cb, cf⟩ := e3'.cells
    clear e3 e3' k3 cf c0 hbig
    by_cases hz : s1.2 = 0
    · have HZ := hid hz
      have hzb : (s1.2 != 0) = false := by simpa using hz
      clear hz
      go_wp2_with fail
      clear hzb cb
      refine (rFit_any M3.out HLO.out HBG.out).mono ?_
      obtain ⟨n, hn⟩ : ∃ n, n = cnt sz := ⟨_, rfl⟩
      have HN := hid hn
      have HN64 := hid (show n ≤ 64 by rw [hn]; exact cnt_le HBG.out)
      rintro e u4 ⟨rfl, F4, m4, k4, f4⟩
      simp only at m4
      rw [← hn, show fitL bk0.L n = List.replicate n pZ by simp [fitL, bk0]] at m4
      clear hn
      have M4 := hid m4
      have FF4 := hid (show ∀ b ∈ F4, m ≤ b from fun b hb => by
        rcases f4 b hb with h | h
        · simp at h; omega
        · have := (M3.out.lt m (by simp)); omega)
      have E4 := hid (E3.out.later k4 HBM.out (by have := HPM.out; omega))
      have K4 := hid (K3.out.trans' k4 (fun i hi hm => by simp at hm; have := HM.out; omega))
      clear m4 k4 f4
      go_wp2_with fail
      go_loopw [4] (fun iv wr => ∃ (k : Nat) (L : List Pt) (st2 : PSt) (F : List Nat), k ≤ n ∧ iv = .int .i64 k ∧ Hid (RkAt wr m F ⟨sz, L⟩) ∧ Hid (∀ b ∈ F, m ≤ b) ∧ Hid (L.length = n) ∧ Hid (REyL wr B p st2) ∧ Hid (Keeps [p] w wr) ∧ Hid (RdI s1 n k L st2)) (fun iv _ => n - (intOf iv).toNat)
      case atStart => exact ⟨0, _, s1, F4, Nat.zero_le _, rfl, M4, FF4, hid (by simp), E4, K4, hid ⟨fun _ => ⟨[], rfl, by simp⟩, fun h => absurd HZ.out h⟩⟩
      case round =>
        obtain ⟨k, L, st2, F, hk, rfl, MR, FR, LN, ER, KR, RD⟩ := hrel
        obtain ⟨a, c, hbm, hrow, _, _⟩ := MR.out.cells
        obtain ⟨c0, c1, f0, f1⟩ := two_cells hbm
        rw [LN.out] at c1
        obtain ⟨cb, cf⟩ := ER.out.cells
        clear c0 f0 f1 hbm hrow cf
        by_cases hlt : k < n
        · have hk64 : k < 64 := by have := HN64.out; omega
          by_cases hz2 : st2.2 = 0
          · have HZ2 := hid hz2
            have hz2b : (st2.2 == 0) = true := by simpa using hz2
            have NX0 := RD.out.step hz2 hlt
            clear hz2
            obtain ⟨x, s3, hp⟩ : ∃ x s, getP st2 = (x, s) := ⟨_, _, rfl⟩
            have G := rGetPtr_any wr B p st2 ER.out (by have := HB.out; have := KR.out.size; omega)
            rw [hp] at G NX0
            have NX := hid NX0
            clear hp NX0
            go_wp2_with (first | go_big_skip | fail)
            clear cb c1 hz2b
            refine G.mono ?_
            rintro e w4 ⟨rfl, h4, k4⟩
            have HZ4 := hid k4.size
            have ka : Keeps [] w4 (w4.alloc (.cells x.cells.toArray 47)) := (Keeps.refl [] w4).alloc _
            have RA := hid (range_new w4 x.cells 47)
            have H4 := hid (h4.more ka)
            have KA := hid (k4.trans (ka.mono (by simp)))
            have K4' := hid (KR.out.trans KA.out)
            have M4' := hid (MR.out.keep KA.out (fun b hb => by have := FR.out b hb; have := HPM.out; simp; omega))
            have HS4 := hid (show w4.heap.size < (w4.alloc (.cells x.cells.toArray 47)).heap.size by simp)
            obtain ⟨cb, cf⟩ := H4.out.cells
            clear G h4 k4 ka cf
            by_cases hz3 : s3.2 = 0
            · have HZ3 := hid hz3
              have hz3b : (s3.2 == 0) = true := by simpa using hz3
              clear hz3
              go_wp2_with (first | (refine wpList_is rfl _ _ (exec_alloc 47 pZ.cells.toArray iPtr2 rfl) ?_) | (refine wpList_noval rfl _ (exec_storeNew 47 _ _ rfl w4 pZ.cells.toArray x.cells.toArray rfl rfl rfl iPtr2 rfl (cells_one x)) ?_) | (refine wpList_isW rfl _ _ (exec_load _ _ _ _ rfl rfl (loadPt_run _ w4.heap.size 0 x RA.out)) ?_) | fail)
              clear cb hz3b
              refine (rMayPtr_any _ x).mono ?_
              rintro e w5 ⟨rfl, k5⟩
              have H5 := hid (H4.out.more k5)
              have KA5 := hid (KA.out.trans (k5.mono (by simp)))
              have M5 := hid (M4'.out.later k5)
              have RA5 := hid (range_keep RA.out k5 (by simp))
              have K5 := hid (K4'.out.trans (k5.mono (by simp)))
              have HS5 := hid (show w4.heap.size < w5.heap.size by have := HS4.out; have := k5.size; omega)
              clear k5
              go_wp2_with fail
              refine (rForm_any H5.out (!mayP x)).mono ?_
              obtain ⟨s4, hs4⟩ : ∃ s, s = formW s3 (!mayP x) := ⟨_, rfl⟩
              rw [← hs4] at NX ⊢
              clear hs4
              rintro e w6 ⟨rfl, h6, k6⟩
              have H6 := hid h6
              have K6 := hid (K5.out.trans k6)
              have M6 := hid (M5.out.keep k6 (fun b hb => by have := FR.out b hb; have := HPM.out; simp; omega))
              have RA6 := hid (range_keep RA5.out k6 (by have := HZ4.out; have := KR.out.size; have := HP.out; simp; omega))
              have HS6 := hid (show w4.heap.size < w6.heap.size by have := HS5.out; have := k6.size; omega)
              clear h6 k6
              obtain ⟨g, cap, cur, hbm, hgb, hfit, hgF, hgq, _⟩ := rk_point (w' := w6) M6.out k (by rw [LN.out]; exact hlt) x
              obtain ⟨c0, c1, f0, f1⟩ := two_cells hbm
              rw [LN.out] at c1
              clear c0 f0 f1
              go_wp2_with fail
              refine wp_region_any (by kernel_rfl) (wpAny_of_late (late := [7]) (S := KpS [] w6.heap.size w6.drew) _ _ _ _ ?_)
              change wpAnyT _ _ _ _ _ _ _ _ _ w6.drew
              have cQ : ∀ W1, KpS [] w6.heap.size w6.drew W1 → W1.cell? ⟨m, 1, none⟩ = some (.slice (some ⟨g, 0, none⟩) n cap) := fun W1 h => h.cell (by rw [World.cell?_drew]; exact c1) (lt_of_block hbm) (by simp)
              have cX : ∀ W1, KpS [] w6.heap.size w6.drew W1 → W1.rangeAt w4.heap.size 0 x.cells := fun W1 h j v hv => h.cell (by rw [World.cell?_drew]; exact RA6.out j v hv) HS6.out (by simp)
              refine late_take (i := 0) (v := .pointer (some ⟨m, 0, none⟩)) rfl (by kernel_rfl) (by kernel_rfl) (by kernel_rfl) (by kernel_rfl) (by kernel_rfl) (fun _ _ _ h => h) rfl (fun W1 hW1 => rfl) (KpS.refl _ _ _) ?_
              simp only [Act.put, List.setIfInBounds_toArray, List.set_cons_zero, List.set_cons_succ]
              refine late_take (i := 1) (v := .pointer (some ⟨m, 0, none⟩)) rfl (by kernel_rfl) (by kernel_rfl) (by kernel_rfl) (by kernel_rfl) (by kernel_rfl) (fun _ _ _ h => h) rfl (fun W1 hW1 => by go_simp) (KpS.refl _ _ _) ?_
              simp only [Act.put, List.setIfInBounds_toArray, List.set_cons_zero, List.set_cons_succ]
              refine late_take (i := 2) (v := .pointer (some ⟨m, 1, none⟩)) rfl (by kernel_rfl) (by kernel_rfl) (by kernel_rfl) (by kernel_rfl) (by kernel_rfl) (fun _ _ _ h => h) rfl (fun W1 hW1 => by go_simp) (KpS.refl _ _ _) ?_
              simp only [Act.put, List.setIfInBounds_toArray, List.set_cons_zero, List.set_cons_succ]
              refine late_take (i := 3) (v := .slice (some ⟨g, 0, none⟩) n cap) rfl (by kernel_rfl) (by kernel_rfl) (by kernel_rfl) (by kernel_rfl) (by kernel_rfl) (fun _ _ _ h => h) rfl (fun W1 hW1 => exec_load _ _ _ _ rfl rfl (run_loadCell W1 _ _ _ (cQ W1 hW1) (agg_no _ (by kernel_rfl)))) (KpS.refl _ _ _) ?_
              simp only [Act.put, List.setIfInBounds_toArray, List.set_cons_zero, List.set_cons_succ]
              refine late_take (i := 4) (v := .int .i64 (k : Int)) rfl (by kernel_rfl) (by kernel_rfl) (by kernel_rfl) (by kernel_rfl) (by kernel_rfl) (fun _ _ _ h => h) rfl (fun W1 hW1 => rfl) (KpS.refl _ _ _) ?_
              simp only [Act.put, List.setIfInBounds_toArray, List.set_cons_zero, List.set_cons_succ]
              refine late_take (i := 5) (v := ptV x) rfl (by kernel_rfl) (by kernel_rfl) (by kernel_rfl) (by kernel_rfl) (by kernel_rfl) (fun _ _ _ h => h) rfl (fun W1 hW1 => exec_load _ _ _ _ rfl rfl (loadPt_run W1 w4.heap.size 0 x (cX W1 hW1))) (KpS.refl _ _ _) ?_
              simp only [Act.put, List.setIfInBounds_toArray, List.set_cons_zero, List.set_cons_succ]
              refine late_take (i := 6) (v := .pointer (some ⟨g, k * 5, none⟩)) rfl (by kernel_rfl) (by kernel_rfl) (by kernel_rfl) (by kernel_rfl) (by kernel_rfl) (fun _ _ _ h => h) rfl (fun W1 hW1 => by go_simp) (KpS.refl _ _ _) ?_
              simp only [Act.put, List.setIfInBounds_toArray, List.set_cons_zero, List.set_cons_succ]
              have hbD : w6.drew.heap[g]? = some (.cells cur 47 (0, 0)) := hgb
              obtain ⟨s1', s2'⟩ := setRow_keepsP (cs := (cur.toList.take (k * 5) ++ x.cells ++ cur.toList.drop (k * 5 + 5)).toArray) hbD
              refine late_do (i := 7) (by kernel_rfl) rfl rfl (wp_stored (exec_storePtAt _ _ rfl g (k * 5) rfl cur hbD hfit x rfl) ⟨Or.inl rfl, ?_⟩)
              simp only [Act.put]
              refine wpAnyT_done (by kernel_rfl) ?_ _
              obtain ⟨g', cap', cur', hb4', hgb', hfit', hgF', hgq', hset⟩ := rk_point (w' := w6.drew.setRow g (cur.toList.take (k * 5) ++ x.cells ++ cur.toList.drop (k * 5 + 5)).toArray) M6.out k (by rw [LN.out]; exact hlt) x
              rw [hbm] at hb4'
              injection hb4' with e
              injection e with e _ _
              have e' := congrArg (fun z : Array Value => z[1]?) e
              simp at e'
              obtain ⟨rfl, _⟩ := e'
              rw [hgb] at hgb'
              injection hgb' with e
              injection e with e _ _
              subst e
              have R7 := hid (hset s1' (((Keeps.refl [g] w6).drew).trans s2'))
              have GM := FR.out g hgF
              have K7 := hid ((K6.out.trans ((Keeps.refl [] w6).drew.mono (by simp))).trans' s2' (fun i hi hm => by simp at hm; have := HM.out; omega))
              have H7 := hid ((H6.out.more ((Keeps.refl [] w6).drew)).later s2' (by have := HBM.out; omega) (by have := HPM.out; omega))
              clear cQ cX hbD s1' s2' hset hbm hgb hfit hgF hgq c1 e
              generalize w6.drew.setRow g (cur.toList.take (k * 5) ++ x.cells ++ cur.toList.drop (k * 5 + 5)).toArray = w8 at R7 K7 H7 ⊢
              go_wp2_with fail
              go_roundw
              case rel => exact ⟨k + 1, _, s4, F, by omega, by go_num, R7, FR, hid (by rw [List.length_set]; exact LN.out), H7, K7, NX⟩
              case measure => simp [intOf]; omega
            · have hz3b : (s3.2 == 0) = false := by simpa using hz3
              have NX := hid (show RdI s1 n (k + 1) (L.set k x) s3 by have := NX.out; unfold formW at this; rw [if_neg (fun h => hz3 h.2)] at this; exact this)
              clear hz3
              generalize hW5 : w4.alloc (.cells x.cells.toArray 47) = w5 at RA H4 KA K4' M4' HS4 cb
              have W5 := hid hW5
              clear hW5
              obtain ⟨g, cap, cur, hbm, hgb, hfit, hgF, hgq, _⟩ := rk_point (w' := w5) M4'.out k (by rw [LN.out]; exact hlt) x
              obtain ⟨c0, c1, f0, f1⟩ := two_cells hbm
              rw [LN.out] at c1
              clear c0 f0 f1
              go_wp2_with (first | (refine wpList_is rfl _ _ (exec_alloc 47 pZ.cells.toArray iPtr2 rfl) ?_) | (refine wpList_noval rfl _ (exec_storeNew 47 _ _ rfl w4 pZ.cells.toArray x.cells.toArray rfl rfl rfl iPtr2 rfl (cells_one x)) ?_; rw [W5.out]) | fail)
              refine wp_region_any (by kernel_rfl) (wpAny_of_late (late := [7]) (S := KpS [] w5.heap.size w5.drew) _ _ _ _ ?_)
              change wpAnyT _ _ _ _ _ _ _ _ _ w5.drew
              have cQ : ∀ W1, KpS [] w5.heap.size w5.drew W1 → W1.cell? ⟨m, 1, none⟩ = some (.slice (some ⟨g, 0, none⟩) n cap) := fun W1 h => h.cell (by rw [World.cell?_drew]; exact c1) (lt_of_block hbm) (by simp)
              have cX : ∀ W1, KpS [] w5.heap.size w5.drew W1 → W1.rangeAt w4.heap.size 0 x.cells := fun W1 h j v hv => h.cell (by rw [World.cell?_drew]; exact RA.out j v hv) HS4.out (by simp)
              refine late_take (i := 0) (v := .pointer (some ⟨m, 0, none⟩)) rfl (by kernel_rfl) (by kernel_rfl) (by kernel_rfl) (by kernel_rfl) (by kernel_rfl) (fun _ _ _ h => h) rfl (fun W1 hW1 => rfl) (KpS.refl _ _ _) ?_
              simp only [Act.put, List.setIfInBounds_toArray, List.set_cons_zero, List.set_cons_succ]
              refine late_take (i := 1) (v := .pointer (some ⟨m, 0, none⟩)) rfl (by kernel_rfl) (by kernel_rfl) (by kernel_rfl) (by kernel_rfl) (by kernel_rfl) (fun _ _ _ h => h) rfl (fun W1 hW1 => by go_simp) (KpS.refl _ _ _) ?_
              simp only [Act.put, List.setIfInBounds_toArray, List.set_cons_zero, List.set_cons_succ]
              refine late_take (i := 2) (v := .pointer (some ⟨m, 1, none⟩)) rfl (by kernel_rfl) (by kernel_rfl) (by kernel_rfl) (by kernel_rfl) (by kernel_rfl) (fun _ _ _ h => h) rfl (fun W1 hW1 => by go_simp) (KpS.refl _ _ _) ?_
              simp only [Act.put, List.setIfInBounds_toArray, List.set_cons_zero, List.set_cons_succ]
              refine late_take (i := 3) (v := .slice (some ⟨g, 0, none⟩) n cap) rfl (by kernel_rfl) (by kernel_rfl) (by kernel_rfl) (by kernel_rfl) (by kernel_rfl) (fun _ _ _ h => h) rfl (fun W1 hW1 => exec_load _ _ _ _ rfl rfl (run_loadCell W1 _ _ _ (cQ W1 hW1) (agg_no _ (by kernel_rfl)))) (KpS.refl _ _ _) ?_
              simp only [Act.put, List.setIfInBounds_toArray, List.set_cons_zero, List.set_cons_succ]
              refine late_take (i := 4) (v := .int .i64 (k : Int)) rfl (by kernel_rfl) (by kernel_rfl) (by kernel_rfl) (by kernel_rfl) (by kernel_rfl) (fun _ _ _ h => h) rfl (fun W1 hW1 => rfl) (KpS.refl _ _ _) ?_
              simp only [Act.put, List.setIfInBounds_toArray, List.set_cons_zero, List.set_cons_succ]
              refine late_take (i := 5) (v := ptV x) rfl (by kernel_rfl) (by kernel_rfl) (by kernel_rfl) (by kernel_rfl) (by kernel_rfl) (fun _ _ _ h => h) rfl (fun W1 hW1 => exec_load _ _ _ _ rfl rfl (loadPt_run W1 w4.heap.size 0 x (cX W1 hW1))) (KpS.refl _ _ _) ?_
              simp only [Act.put, List.setIfInBounds_toArray, List.set_cons_zero, List.set_cons_succ]
              refine late_take (i := 6) (v := .pointer (some ⟨g, k * 5, none⟩)) rfl (by kernel_rfl) (by kernel_rfl) (by kernel_rfl) (by kernel_rfl) (by kernel_rfl) (fun _ _ _ h => h) rfl (fun W1 hW1 => by go_simp) (KpS.refl _ _ _) ?_
              simp only [Act.put, List.setIfInBounds_toArray, List.set_cons_zero, List.set_cons_succ]
              have hbD : w5.drew.heap[g]? = some (.cells cur 47 (0, 0)) := hgb
              obtain ⟨s1', s2'⟩ := setRow_keepsP (cs := (cur.toList.take (k * 5) ++ x.cells ++ cur.toList.drop (k * 5 + 5)).toArray) hbD
              refine late_do (i := 7) (by kernel_rfl) rfl rfl (wp_stored (exec_storePtAt _ _ rfl g (k * 5) rfl cur hbD hfit x rfl) ⟨Or.inl rfl, ?_⟩)
              simp only [Act.put]
              refine wpAnyT_done (by kernel_rfl) ?_ _
              obtain ⟨g', cap', cur', hb4', hgb', hfit', hgF', hgq', hset⟩ := rk_point (w' := w5.drew.setRow g (cur.toList.take (k * 5) ++ x.cells ++ cur.toList.drop (k * 5 + 5)).toArray) M4'.out k (by rw [LN.out]; exact hlt) x
              rw [hbm] at hb4'
              injection hb4' with e
              injection e with e _ _
              have e' := congrArg (fun z : Array Value => z[1]?) e
              simp at e'
              obtain ⟨rfl, _⟩ := e'
              rw [hgb] at hgb'
              injection hgb' with e
              injection e with e _ _
              subst e
              have R7 := hid (hset s1' (((Keeps.refl [g] w5).drew).trans s2'))
              have GM := FR.out g hgF
              have K7 := hid ((K4'.out.trans ((Keeps.refl [] w5).drew.mono (by simp))).trans' s2' (fun i hi hm => by simp at hm; have := HM.out; omega))
              have H7 := hid ((H4.out.more ((Keeps.refl [] w5).drew)).later s2' (by have := HBM.out; omega) (by have := HPM.out; omega))
              clear cQ cX hbD s1' s2' hset hbm hgb hfit hgF hgq c1 e
              generalize w5.drew.setRow g (cur.toList.take (k * 5) ++ x.cells ++ cur.toList.drop (k * 5 + 5)).toArray = w8 at R7 K7 H7 ⊢
              go_wp2_with fail
              go_roundw
              case rel => exact ⟨k + 1, _, s3, F, by omega, by go_num, R7, FR, hid (by rw [List.length_set]; exact LN.out), H7, K7, NX⟩
              case measure => simp [intOf]; omega
          · have HZ2 := hid hz2
            have hz2b : (st2.2 == 0) = false := by simpa using hz2
            clear hz2
            go_wp2_with (first | go_big_skip | fail)
            go_ret
            refine ⟨_, rfl, HM.out, KR.out, ?_⟩
            have e := rdI_stay (RD.out.2 HZ2.out) hk
            rw [HN.out] at e
            rw [RM.out, if_neg (by simp [HZ.out]), if_pos HBG.out, e]
            exact ⟨HZ2.out, st2.1, ER.out⟩
        · obtain rfl : k = n := by omega
          go_wp2_with (first | go_big_skip | fail)
          go_ret
          refine ⟨_, rfl, HM.out, KR.out, ?_⟩
          by_cases hz2 : st2.2 = 0
          · obtain ⟨l, e, eL⟩ := RD.out.1 hz2
            have hL : L = l := by rw [eL]; simp
            subst hL
            rw [HN.out] at e
            rw [RM.out, if_neg (by simp [HZ.out]), if_pos HBG.out, e]
            exact ⟨hz2, ER.out, F, MR.out, fun b hb => Nat.le_trans HM.out (FR.out b hb)⟩
          · have e := RD.out.2 hz2
            rw [HN.out] at e
            rw [RM.out, if_neg (by simp [HZ.out]), if_pos HBG.out, e]
            exact ⟨hz2, st2.1, ER.out⟩
    · have HBAD := hid hz
      have hzb : (s1.2 != 0) = true := by simpa using hz
      clear hz
      go_wp2_with fail
      go_ret
      refine ⟨_, rfl, by have := HM.out; have := K3.out.size; omega, K3.out.trans (((Keeps.refl [] _).alloc _).mono (by simp)), ?_⟩
      rw [RM.out, if_pos HBAD.out]
      exact ⟨HBAD.out, _, E3.out.more ((Keeps.refl [] _).alloc _)⟩
  end Go.Proofs.Ytamcllcjondcpaa


/- blocks: numbers and pointers as bytes, plainly; a good map's bytes are read as that map. -/
namespace Go.Proofs.Ytamcllcjondcpaa
open Go.RowKit Go.Shelf
set_option maxRecDepth 100000
set_option linter.unusedSimpArgs false

/-- A number that so many bytes hold. -/
def FitN (x : Int) (n : Nat) : Prop := 1 ≤ n ∧ n ≤ 7 ∧ 0 ≤ x ∧ x < 256 ^ n
theorem pow256 (n : Nat) : (256 : Int) ^ n = 2 ^ (8 * n) := by rw [show (256 : Int) = 2 ^ 8 from rfl, ← Int.pow_mul]
theorem penNum_fit {x : Int} {n : Nat} (m : Int) (hm : m = (n : Int)) (h : FitN x n) {s : List Int} (hl : s.length + n ≤ 65536) : penNum x m (s, 0) = (s ++ be x n, 0) ∧ refNum x m (s, 0) = (s ++ be x n, 0) := by
  subst hm
  obtain ⟨h1, h7, h0, hx⟩ := h
  have hlen := be_length x n
  have hx' : x < 2 ^ (8 * (n : Int).toNat) := by rw [Int.toNat_natCast, ← pow256]; exact hx
  have hd : x / 2 ^ (8 * (n : Int).toNat) = 0 := Int.ediv_eq_zero_of_lt h0 hx'
  constructor
  · unfold penNum penAdd
    rw [if_pos ⟨by omega, by omega, h0, hd⟩, if_neg (by simp), Int.toNat_natCast, if_neg (by rw [hlen]; simp; omega)]
  · unfold refNum refAdd
    rw [if_pos rfl, if_pos ⟨by omega, by omega, h0, hx'⟩, if_pos rfl, Int.toNat_natCast, if_neg (by rw [hlen]; simp; omega)]
/-- What is written is read. -/
theorem numE_be {x : Int} {n : Nat} (m : Int) (hm : m = (n : Int)) (h : FitN x n) (r : List Int) : numE m (be x n ++ r, 0) = (x, (r, 0)) := by
  subst hm
  obtain ⟨h1, h7, h0, hx⟩ := h
  unfold numE after rdNum
  rw [if_neg (by simp), if_neg (by omega), Int.toNat_natCast, if_neg (by rw [List.length_append, be_length]; omega)]
  simp only
  rw [show (be x n ++ r).take n = be x n by rw [List.take_append_of_le_length (by rw [be_length]; exact Nat.le_refl _), List.take_of_length_le (by rw [be_length]; exact Nat.le_refl _)], val_be n x h0 hx, show (be x n ++ r).drop n = r by rw [List.drop_append_of_le_length (by rw [be_length]; exact Nat.le_refl _), List.drop_of_length_le (by rw [be_length]; exact Nat.le_refl _), List.nil_append]]
  rfl
/-- Too few bytes: the eye gives up. -/
theorem numE_short {n : Nat} (m : Int) (hm : m = (n : Int)) (h1 : 1 ≤ n) (h7 : n ≤ 7) {zs : List Int} (hl : zs.length < n) : numE m (zs, 0) = (0, (zs, 2)) := by
  subst hm
  unfold numE after rdNum
  rw [if_neg (by simp), if_neg (by omega), Int.toNat_natCast, if_pos hl]
  rfl
/-- An eye that has given up stays so. -/
theorem numE_stay (n : Int) {st : PSt} (h : st.2 ≠ 0) : numE n st = (0, st) := by
  obtain ⟨zs, b⟩ := st
  unfold numE after
  rw [if_pos h]
  rfl
theorem be_val : ∀ (n : Nat) (zs : List Int), zs.length = n → (∀ z ∈ zs, 0 ≤ z ∧ z ≤ 255) → be (val zs) n = zs
  | 0, zs, h, _ => by rw [List.eq_nil_of_length_eq_zero h]; rfl
  | n + 1, zs, h, hb => by
    obtain ⟨ys, y, rfl⟩ : ∃ ys y, zs = ys ++ [y] := by
      have hne : zs ≠ [] := by intro e; rw [e] at h; simp at h
      exact ⟨zs.dropLast, zs.getLast hne, (List.dropLast_concat_getLast hne).symm⟩
    have hy := hb y (by simp)
    have ih := be_val n ys (by simpa using h) (fun z hz => hb z (by simp [hz]))
    rw [val_snoc, be_succ, show (val ys * 256 + y) / 256 = val ys by omega, ih, show (val ys * 256 + y) % 256 = y by omega]
/-- What is read was written. -/
theorem numE_ok {n : Nat} (m : Int) (hm : m = (n : Int)) (h1 : 1 ≤ n) (h7 : n ≤ 7) {zs : List Int} (hb : ∀ z ∈ zs, 0 ≤ z ∧ z ≤ 255) (hz : (numE m (zs, 0)).2.2 = 0) :
    zs = be (numE m (zs, 0)).1 n ++ (numE m (zs, 0)).2.1 ∧ FitN (numE m (zs, 0)).1 n := by
  subst hm
  rcases Nat.lt_or_ge zs.length n with hl | hl
  · rw [numE_short _ rfl h1 h7 hl] at hz; cases hz
  · have e : numE n (zs, 0) = (val (zs.take n), (zs.drop n, 0)) := by
      unfold numE after rdNum
      rw [if_neg (by simp), if_neg (by omega), Int.toNat_natCast, if_neg (by simp only; omega)]
      rfl
    have ht : (zs.take n).length = n := by rw [List.length_take]; omega
    have hbt : ∀ z ∈ zs.take n, 0 ≤ z ∧ z ≤ 255 := fun z hz => hb z (List.mem_of_mem_take hz)
    rw [e]
    refine ⟨?_, h1, h7, val_bound n _ ht hbt⟩
    simp only
    rw [be_val n _ ht hbt, List.take_append_drop]
theorem numE_bytes (n : Int) {st : PSt} (h : ∀ z ∈ st.1, 0 ≤ z ∧ z ≤ 255) : ∀ z ∈ (numE n st).2.1, 0 ≤ z ∧ z ≤ 255 := by
  unfold numE after rdNum
  split
  · exact h
  · split
    · exact h
    · rename_i heq
      split at heq
      · cases heq
      · split at heq
        · cases heq
        · injection heq with heq
          injection heq with e1 e2
          simp only
          rw [← e2]
          exact fun z hz => h z (List.mem_of_mem_drop hz)
theorem numE_bad {n : Nat} (m : Int) (hm : m = (n : Int)) (h1 : 1 ≤ n) (h7 : n ≤ 7) (st : PSt) : (numE m st).2.2 = 0 ∨ (numE m st).2.2 = (if st.2 = 0 then 2 else st.2) := by
  subst hm
  obtain ⟨zs, b⟩ := st
  by_cases hb : b = 0
  · subst hb
    rcases Nat.lt_or_ge zs.length n with hl | hl
    · rw [numE_short _ rfl h1 h7 hl]; right; rfl
    · left
      unfold numE after rdNum
      rw [if_neg (by simp), if_neg (by omega), Int.toNat_natCast, if_neg (by simp only; omega)]
  · right
    rw [numE_stay n hb, if_neg hb]
theorem numE_was {n : Int} {st : PSt} (h : (numE n st).2.2 = 0) : st.2 = 0 := by
  by_cases hb : st.2 = 0
  · exact hb
  · rw [numE_stay n hb] at h; exact absurd h hb

/-- A pointer's bytes. -/
def bytesP (x : Pt) : List Int := be x.c 1 ++ be x.l 3 ++ be x.n 4 ++ be x.a 2 ++ be x.k 1
structure FitP (x : Pt) : Prop where
  c : FitN x.c 1
  l : FitN x.l 3
  n : FitN x.n 4
  a : FitN x.a 2
  k : FitN x.k 1
theorem mayP_fit {x : Pt} (h : mayP x = true) : (0 ≤ x.c ∧ x.c < 256) ∧ (0 ≤ x.l ∧ x.l < 16777216) ∧ (0 ≤ x.n ∧ x.n < 4294967296) ∧ (0 ≤ x.a ∧ x.a < 65536) ∧ (0 ≤ x.k ∧ x.k < 256) := by
  unfold mayP at h
  rcases Bool.or_eq_true _ _ ▸ h with h | h
  · unfold zB at h
    have e := of_decide_eq_true h
    subst e
    decide
  · simp only [Bool.and_eq_true, btw, decide_eq_true_eq] at h
    omega
theorem fitP_of {x : Pt} (h : mayP x = true) : FitP x := by
  obtain ⟨⟨a1, a2⟩, ⟨b1, b2⟩, ⟨c1, c2⟩, ⟨d1, d2⟩, ⟨f1, f2⟩⟩ := mayP_fit h
  exact ⟨⟨by decide, by decide, a1, by show x.c < 256; exact a2⟩, ⟨by decide, by decide, b1, by show x.l < 16777216; exact b2⟩, ⟨by decide, by decide, c1, by show x.n < 4294967296; exact c2⟩, ⟨by decide, by decide, d1, by show x.a < 65536; exact d2⟩, ⟨by decide, by decide, f1, by show x.k < 256; exact f2⟩⟩
theorem bytesP_len (x : Pt) : (bytesP x).length = 11 := by simp [bytesP, be_length]
theorem putP_is {x : Pt} (h : FitP x) {s : List Int} (hl : s.length + 11 ≤ 65536) : putP x (s, 0) = (s ++ bytesP x, 0) ∧ rputP x (s, 0) = (s ++ bytesP x, 0) := by
  have e1 := penNum_fit (n := 1) 1 rfl h.c (s := s) (by omega)
  have e2 := penNum_fit (n := 3) 3 rfl h.l (s := s ++ be x.c 1) (by simp [be_length]; omega)
  have e3 := penNum_fit (n := 4) 4 rfl h.n (s := s ++ be x.c 1 ++ be x.l 3) (by simp [be_length]; omega)
  have e4 := penNum_fit (n := 2) 2 rfl h.a (s := s ++ be x.c 1 ++ be x.l 3 ++ be x.n 4) (by simp [be_length]; omega)
  have e5 := penNum_fit (n := 1) 1 rfl h.k (s := s ++ be x.c 1 ++ be x.l 3 ++ be x.n 4 ++ be x.a 2) (by simp [be_length]; omega)
  constructor
  · unfold putP bytesP
    rw [e1.1, e2.1, e3.1, e4.1, e5.1]
    simp only [List.append_assoc]
  · unfold rputP bytesP
    rw [e1.2, e2.2, e3.2, e4.2, e5.2]
    simp only [List.append_assoc]
theorem getP_be {x : Pt} (h : FitP x) (r : List Int) : getP (bytesP x ++ r, 0) = (x, (r, 0)) := by
  have e1 := numE_be (n := 1) 1 rfl h.c (be x.l 3 ++ (be x.n 4 ++ (be x.a 2 ++ (be x.k 1 ++ r))))
  have e2 := numE_be (n := 3) 3 rfl h.l (be x.n 4 ++ (be x.a 2 ++ (be x.k 1 ++ r)))
  have e3 := numE_be (n := 4) 4 rfl h.n (be x.a 2 ++ (be x.k 1 ++ r))
  have e4 := numE_be (n := 2) 2 rfl h.a (be x.k 1 ++ r)
  have e5 := numE_be (n := 1) 1 rfl h.k r
  unfold getP bytesP
  simp only [List.append_assoc]
  rw [e1]; simp only
  rw [e2]; simp only
  rw [e3]; simp only
  rw [e4]; simp only
  rw [e5]
def flatP (ps : List Pt) : List Int := ps.flatMap bytesP
theorem flatP_cons (x : Pt) (ps : List Pt) : flatP (x :: ps) = bytesP x ++ flatP ps := by simp [flatP]
theorem put_allP : ∀ (ps : List Pt) (s : List Int), (∀ x ∈ ps, mayP x = true) → s.length + ps.length * 11 ≤ 65536 → ps.foldl (fun t x => putP x t) (s, 0) = (s ++ flatP ps, 0)
  | [], s, _, _ => by simp [flatP]
  | x :: ps, s, hm, hl => by
    simp only [List.length_cons] at hl
    obtain ⟨e1, _⟩ := putP_is (fitP_of (hm x (by simp))) (s := s) (by omega)
    have i1 := put_allP ps (s ++ bytesP x) (fun y hy => hm y (by simp [hy])) (by rw [List.length_append, bytesP_len]; omega)
    rw [List.foldl_cons, e1, i1, flatP_cons, List.append_assoc]
theorem wrB_is {s : Bk} (h : GoodB s) : wrB s ([], 0) = (be s.sz 2 ++ flatP s.L, 0) := by
  have h1 := h.lo
  have h2 := h.hi
  have h3 := h.few
  obtain ⟨e1, _⟩ := penNum_fit (n := 2) 2 rfl (x := s.sz) ⟨by decide, by decide, h1, by show s.sz < 65536; omega⟩ (s := []) (by simp)
  unfold wrB wrK
  rw [List.take_length, e1, List.nil_append]
  exact put_allP s.L _ h.may (by rw [be_length]; omega)
theorem rd_flat {ps : List Pt} (hm : ∀ x ∈ ps, mayP x = true) (r : List Int) : ∀ k, k ≤ ps.length → rdI (flatP ps ++ r, 0) k = (.ok (ps.take k), (flatP (ps.drop k) ++ r, 0))
  | 0, _ => by simp [rdI]
  | k + 1, h => by
    have ih := rd_flat hm r k (by omega)
    show rdS (rdI _ k) = _
    have hd : ps.drop k = ps[k] :: ps.drop (k + 1) := (List.drop_eq_getElem_cons (by omega))
    have hk := hm ps[k] (List.getElem_mem (by omega))
    have e := getP_be (fitP_of hk) (flatP (ps.drop (k + 1)) ++ r)
    rw [ih, hd, flatP_cons, List.append_assoc]
    unfold rdS
    simp only
    rw [e]
    simp only
    rw [if_neg (by simp), if_pos hk, List.take_succ_eq_append_getElem (by omega)]
/-- What a good map writes is read as that map. -/
theorem read_bytes {s : Bk} (h : GoodB s) : readM (bytesB s, 0) = (.ok s, ([], 0)) := by
  have h1 := h.lo
  have h2 := h.hi
  have e0 : bytesB s = be s.sz 2 ++ flatP s.L := by unfold bytesB; rw [wrB_is h]; rfl
  have e1 := numE_be (n := 2) 2 rfl (x := s.sz) ⟨by decide, by decide, h1, by show s.sz < 65536; omega⟩ (flatP s.L)
  have f := rd_flat h.may [] s.L.length (Nat.le_refl _)
  rw [List.append_nil, List.take_length, List.drop_length] at f
  unfold readM
  rw [e0, e1]
  simp only
  rw [if_neg (by simp), if_pos h2, ← h.len, f]
  rfl
theorem getP_ne {st : PSt} (h : (getP st).2.1 ≠ []) : st.1 ≠ [] := numE_ne (numE_ne (numE_ne (numE_ne (numE_ne h))))
theorem rdI_ne {st : PSt} : ∀ k, (rdI st k).2.1 ≠ [] → st.1 ≠ []
  | 0, h => h
  | k + 1, h => by
    have h' : (rdS (rdI st k)).2.1 ≠ [] := h
    refine rdI_ne k ?_
    unfold rdS at h'
    split at h'
    · exact h'
    · split at h'
      · exact getP_ne h'
      · split at h'
        · exact getP_ne h'
        · exact getP_ne h'
theorem readM_ne {st : PSt} (h : (readM st).2.1 ≠ []) : st.1 ≠ [] := by
  unfold readM at h
  split at h
  · exact numE_ne h
  · split at h
    · split at h
      · exact numE_ne (rdI_ne _ h)
      · exact numE_ne (rdI_ne _ h)
    · exact numE_ne h
end Go.Proofs.Ytamcllcjondcpaa
