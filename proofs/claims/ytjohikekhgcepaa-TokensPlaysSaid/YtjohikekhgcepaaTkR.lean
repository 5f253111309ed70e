/- tokens: a row is read, by the code. -/
import Derived.Test.YtjohikekhgcepaaTkI
import Derived.Test.YtjohikekhgcepaaREyeL
import Derived.Test.YtjohikekhgcepaaRefG
namespace Go.Proofs.Ytjohikekhgcepaa
open Go.RowKit Go.Shelf
set_option maxRecDepth 100000
set_option linter.unusedSimpArgs false

/-- What a read of a bool answers, and what is left behind it. -/
def boolE (st : PSt) : Bool × PSt := (((after st.1 st.2 (rdBool st.1)).1).getD false, (after st.1 st.2 (rdBool st.1)).2)
theorem boolE_ne {st : PSt} (h : (boolE st).2.1 ≠ []) : st.1 ≠ [] := by
  intro e
  apply h
  unfold boolE after rdBool
  rw [e]
  by_cases h1 : st.2 ≠ 0
  · rw [if_pos h1]
  · rw [if_neg h1]
    rfl
theorem EyL.bool {w wr : World} {B p : Nat} {v : Value} {st : PSt} (h : EyL w wr B p v st) :
    Calls Try.prog 142 #[.pointer (some ⟨p, 0, none⟩)] wr fun e w' => e = .returned (.bool (boolE st).1) ∧ EyL w w' B p v (boolE st).2 ∧ Keeps [p] wr w' := by
  obtain ⟨v2, he, hs, ho⟩ := h
  exact (eyeBool_any wr B p v2 st.1 st.2 he).mono fun e w' ⟨⟨v3, h3, hs3⟩, k, m⟩ => by
    refine ⟨?_, ⟨v3, h3, hs.trans hs3, ho.same hs3 boolE_ne⟩, k⟩
    unfold boolE
    cases hr : (after st.1 st.2 (rdBool st.1)).1 with
    | none => rw [hr] at m; exact m
    | some x => rw [hr] at m; exact m
theorem REyL.bool {wr : World} {B p : Nat} {st : PSt} (h : REyL wr B p st) :
    Calls Try.prog 106 #[.pointer (some ⟨p, 0, none⟩)] wr fun e w' => e = .returned (.bool (boolE st).1) ∧ REyL w' B p (boolE st).2 ∧ Keeps [p] wr w' := by
  obtain ⟨v2, he⟩ := h
  exact (rebool_any wr B p v2 st.1 st.2 he).mono fun e w' ⟨h1, k, m⟩ => by
    refine ⟨?_, h1, k⟩
    unfold boolE
    cases hr : (after st.1 st.2 (rdBool st.1)).1 with
    | none => rw [hr] at m; exact m
    | some x => rw [hr] at m; exact m
/-- What a row's read answers. -/
def rdRow (st : PSt) : Rk × PSt :=
  let a := numE 1 st; let b := numE 1 a.2; let c := numE 2 b.2; let d := boolE c.2
  (⟨a.1, b.1, c.1, d.1⟩, d.2)
theorem rk_of {w : World} {b : Nat} {x : Rk} {T : TypeId} (h : w.heap[b]? = some (.cells x.cells.toArray T (0, 0))) : w.rangeAt b 0 x.cells := fun j u hu => by
  rw [Nat.zero_add, cell_of_row _ _ _ _ _ _ h, ← Array.getElem?_toList]
  simpa using hu
theorem rk_whole (x : Rk) : (rZ.cells.toArray.toList.take 0 ++ x.cells ++ rZ.cells.toArray.toList.drop (0 + 4)).toArray = x.cells.toArray := by simp [Rk.cells, rZ]
set_option maxHeartbeats 12800000 in
theorem readRow_any {w0 : World} (w : World) (B p : Nat) (v : Value) (st : PSt) (h : EyL w0 w B p v st) (hw0 : w0.heap.size ≤ w.heap.size) :
    Calls Try.prog 85 #[.pointer (some ⟨p, 0, none⟩)] w fun e w' => e = .returned (rkV (rdRow st).1) ∧ EyL w0 w' B p v (rdRow st).2 ∧ Keeps [p] w w' := by
  have HW0 := hid hw0
  have hpw := h.lt
  have k1 : Keeps [] w (w.alloc (.cells rZ.cells.toArray 59)) := (Keeps.refl [] w).alloc _
  have k2 : Keeps [] w ((w.alloc (.cells rZ.cells.toArray 59)).alloc (.cells rZ.cells.toArray 59)) := k1.alloc _
  have E0 := hid (h.more k2)
  have D0 : Hid (((w.alloc (.cells rZ.cells.toArray 59)).alloc (.cells rZ.cells.toArray 59)).heap[w.heap.size]? = some (.cells rZ.cells.toArray 59 (0, 0))) := hid (((Keeps.refl [] (w.alloc (.cells rZ.cells.toArray 59))).alloc _).block _ (by simp) (by simp) |>.trans (heap_alloc_new w _))
  have b3 := heap_alloc_new (w.alloc (.cells rZ.cells.toArray 59)) (.cells rZ.cells.toArray 59)
  rw [World.size_alloc] at b3
  have J0 := hid b3
  have K0 := hid k2
  have HP := hid hpw
  have HS0 := hid (show w.heap.size + 1 < ((w.alloc (.cells rZ.cells.toArray 59)).alloc (.cells rZ.cells.toArray 59)).heap.size by simp)
  obtain ⟨x1, s1, e1⟩ : ∃ x s, numE 1 st = (x, s) := ⟨_, _, rfl⟩
  obtain ⟨x2, s2, e2⟩ : ∃ x s, numE 1 s1 = (x, s) := ⟨_, _, rfl⟩
  obtain ⟨x3, s3, e3⟩ : ∃ x s, numE 2 s2 = (x, s) := ⟨_, _, rfl⟩
  obtain ⟨x4, s4, e4⟩ : ∃ x s, boolE s3 = (x, s) := ⟨_, _, rfl⟩
  have EG : Hid (rdRow st = (⟨x1, x2, x3, x4⟩, s4)) := hid (by unfold rdRow; rw [e1]; simp only; rw [e2]; simp only; rw [e3]; simp only; rw [e4])
  have N1 := hid e1
  have N2 := hid e2
  have N3 := hid e3
  have N4 := hid e4
  clear h hw0 k1 k2 b3 hpw e1 e2 e3 e4
  go_enter Try.func85, Try.ntmps85
  go_wp2_with (first | (refine wpList_allocRk cRk rfl rfl ?_) | fail)
  have A0 := E0.out.num 1
  rw [N1.out] at A0
  refine A0.mono ?_
  rintro e u0 ⟨rfl, ey, kk⟩
  have F0 := hid ((kk.block (w.heap.size + 1) (by have := HS0.out; omega) (by have := HP.out; simp; omega)).trans J0.out)
  have G0 := hid ((kk.block w.heap.size (by have := HS0.out; omega) (by have := HP.out; simp; omega)).trans D0.out)
  have T0 := hid ey
  have KU0 := hid ((K0.out.mono (S' := [p]) (by simp)).trans kk)
  have HU0 := hid (show w.heap.size + 1 < u0.heap.size by have := HS0.out; have := kk.size; omega)
  obtain ⟨cc, ff⟩ := five_cells F0.out 0
  change u0.cell? ⟨w.heap.size + 1, 0, none⟩ = some (.int .i64 0) at cc
  clear A0 ey kk
  have J1 := hid (set_five (i := 0) F0.out (.int .i64 x1))
  have sk0 : Keeps [w.heap.size + 1] u0 (u0.setCell ⟨w.heap.size + 1, 0, none⟩ (.int .i64 x1)) := set_keep
  have D1 := hid ((sk0.block w.heap.size (by have := HU0.out; omega) (by simp)).trans G0.out)
  have E1 := hid (T0.out.later sk0 (by have := HW0.out; omega) (by have := HP.out; omega))
  have K1 := hid (KU0.out.trans' sk0 (fun i hi hm => by simp at hm; omega))
  have HS1 := hid (Nat.lt_of_lt_of_le HU0.out sk0.size)
  clear sk0
  go_wp2_with fail
  have A1 := E1.out.num 1
  rw [N2.out] at A1
  refine A1.mono ?_
  rintro e u1 ⟨rfl, ey, kk⟩
  have F1 := hid ((kk.block (w.heap.size + 1) (by have := HS1.out; omega) (by have := HP.out; simp; omega)).trans J1.out)
  have G1 := hid ((kk.block w.heap.size (by have := HS1.out; omega) (by have := HP.out; simp; omega)).trans D1.out)
  have T1 := hid ey
  have KU1 := hid ((K1.out.mono (S' := [p]) (by simp)).trans kk)
  have HU1 := hid (show w.heap.size + 1 < u1.heap.size by have := HS1.out; have := kk.size; omega)
  obtain ⟨cc, ff⟩ := five_cells F1.out 1
  change u1.cell? ⟨w.heap.size + 1, 1, none⟩ = some (.int .i64 0) at cc
  clear A1 ey kk
  have J2 := hid (set_five (i := 1) F1.out (.int .i64 x2))
  have sk1 : Keeps [w.heap.size + 1] u1 (u1.setCell ⟨w.heap.size + 1, 1, none⟩ (.int .i64 x2)) := set_keep
  have D2 := hid ((sk1.block w.heap.size (by have := HU1.out; omega) (by simp)).trans G1.out)
  have E2 := hid (T1.out.later sk1 (by have := HW0.out; omega) (by have := HP.out; omega))
  have K2 := hid (KU1.out.trans' sk1 (fun i hi hm => by simp at hm; omega))
  have HS2 := hid (Nat.lt_of_lt_of_le HU1.out sk1.size)
  clear sk1
  go_wp2_with fail
  have A2 := E2.out.num 2
  rw [N3.out] at A2
  refine A2.mono ?_
  rintro e u2 ⟨rfl, ey, kk⟩
  have F2 := hid ((kk.block (w.heap.size + 1) (by have := HS2.out; omega) (by have := HP.out; simp; omega)).trans J2.out)
  have G2 := hid ((kk.block w.heap.size (by have := HS2.out; omega) (by have := HP.out; simp; omega)).trans D2.out)
  have T2 := hid ey
  have KU2 := hid ((K2.out.mono (S' := [p]) (by simp)).trans kk)
  have HU2 := hid (show w.heap.size + 1 < u2.heap.size by have := HS2.out; have := kk.size; omega)
  obtain ⟨cc, ff⟩ := five_cells F2.out 2
  change u2.cell? ⟨w.heap.size + 1, 2, none⟩ = some (.int .i64 0) at cc
  clear A2 ey kk
  have J3 := hid (set_five (i := 2) F2.out (.int .i64 x3))
  have sk2 : Keeps [w.heap.size + 1] u2 (u2.setCell ⟨w.heap.size + 1, 2, none⟩ (.int .i64 x3)) := set_keep
  have D3 := hid ((sk2.block w.heap.size (by have := HU2.out; omega) (by simp)).trans G2.out)
  have E3 := hid (T2.out.later sk2 (by have := HW0.out; omega) (by have := HP.out; omega))
  have K3 := hid (KU2.out.trans' sk2 (fun i hi hm => by simp at hm; omega))
  have HS3 := hid (Nat.lt_of_lt_of_le HU2.out sk2.size)
  clear sk2
  go_wp2_with fail
  have A3 := E3.out.bool
  rw [N4.out] at A3
  refine A3.mono ?_
  rintro e u3 ⟨rfl, ey, kk⟩
  have F3 := hid ((kk.block (w.heap.size + 1) (by have := HS3.out; omega) (by have := HP.out; simp; omega)).trans J3.out)
  have G3 := hid ((kk.block w.heap.size (by have := HS3.out; omega) (by have := HP.out; simp; omega)).trans D3.out)
  have T3 := hid ey
  have KU3 := hid ((K3.out.mono (S' := [p]) (by simp)).trans kk)
  have HU3 := hid (show w.heap.size + 1 < u3.heap.size by have := HS3.out; have := kk.size; omega)
  obtain ⟨cc, ff⟩ := five_cells F3.out 3
  change u3.cell? ⟨w.heap.size + 1, 3, none⟩ = some (.bool false) at cc
  clear A3 ey kk
  have J4 := hid (set_five (i := 3) F3.out (.bool x4))
  have sk3 : Keeps [w.heap.size + 1] u3 (u3.setCell ⟨w.heap.size + 1, 3, none⟩ (.bool x4)) := set_keep
  have D4 := hid ((sk3.block w.heap.size (by have := HU3.out; omega) (by simp)).trans G3.out)
  have E4 := hid (T3.out.later sk3 (by have := HW0.out; omega) (by have := HP.out; omega))
  have K4 := hid (KU3.out.trans' sk3 (fun i hi hm => by simp at hm; omega))
  have HS4 := hid (Nat.lt_of_lt_of_le HU3.out sk3.size)
  clear sk3
  have R4 : Hid ((u3.setCell ⟨w.heap.size + 1, 3, none⟩ (.bool x4)).rangeAt (w.heap.size + 1) 0 (⟨x1, x2, x3, x4⟩ : Rk).cells) := hid (rk_of (x := ⟨x1, x2, x3, x4⟩) J4.out)
  go_wp2_with (first | (refine wpList_loadRk cRk rfl _ rfl (w.heap.size + 1) 0 rfl ⟨x1, x2, x3, x4⟩ R4.out ?_) | (refine wpList_storeRkAt rfl _ _ rfl w.heap.size 0 rfl rZ.cells.toArray D4.out (by decide) ⟨x1, x2, x3, x4⟩ rfl ?_; intro w6 q1 q2) | fail)
  refine bodyPost_ret (rk_ret (x := ⟨x1, x2, x3, x4⟩) rfl rfl ?_) rfl ?_
  · have := q1.out
    rw [rk_whole] at this
    exact rk_of this
  · rw [EG.out]
    have K6 : Keeps [p] w w6 := K4.out.trans' q2.out (fun i hi hm => by simp at hm; omega)
    exact ⟨rfl, E4.out.later q2.out (by have := HW0.out; omega) (by have := HP.out; omega), K6⟩
end Go.Proofs.Ytjohikekhgcepaa
