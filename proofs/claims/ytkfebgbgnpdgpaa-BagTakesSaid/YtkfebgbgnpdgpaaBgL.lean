/- bag: the walks of Drop and All. -/
import Derived.Test.YtkfebgbgnpdgpaaBgK
namespace Go.Proofs.Ytkfebgbgnpdgpaa
open Go.RowKit Go.Shelf
set_option maxRecDepth 100000

set_option maxHeartbeats 800000 in
theorem bAll_any (w : World) (p : Nat) (X : List Nat) (v : Value) (most : Int) (ms : List Mg) (H : BagAt 75 33 w p X v most ms) : Calls Try.prog 16 #[.pointer (some ⟨p, 0, none⟩)] w (CopiedPost w ms) := by
  have c1 := H.c1
  have fits := H.fits
  have m2 := H.m2
  have M := hid (bMade_any w p X v most ms H)
  have HA := hid H.own.at
  obtain ⟨a, c, rfl⟩ := H.own.shape
  clear H
  go_enter Try.func16, Try.ntmps16
  go_wp2_with (first | (go_at_call 35; refine M.out.mono ?_; rintro e w' ⟨rfl, rfl⟩) | fail)
  refine (bCopied_any w X _ ms HA.out (by omega)).mono ?_
  rintro e w' ⟨a', c', g, ms', rfl, h⟩
  have HH := hid h
  clear h
  go_wp2_with fail
  go_ret
  exact ⟨a', c', g, ms', rfl, HH.out⟩

def DropPost7 (T E : TypeId) (w : World) (p : Nat) (X : List Nat) (v : Value) (most : Int) (ms : List Mg) (to : Int) (e : Ending) (w' : World) : Prop :=
  e = .returned (.int .i64 ((ms.length : Int) - (ms.filter (keepTo to)).length)) ∧
    ∃ X' v', BagAt T E w' p X' v' most (ms.filter (keepTo to)) ∧ Keeps (bfoot p X v) w w' ∧ Fr w (bfoot p X v) (bfoot p X' v')

set_option maxHeartbeats 3200000 in
theorem bDrop_any (w : World) (p : Nat) (X : List Nat) (v : Value) (most : Int) (ms : List Mg) (H : BagAt 75 33 w p X v most ms) (to : Int) :
    Calls Try.prog 17 #[.pointer (some ⟨p, 0, none⟩), .int .i64 to] w (DropPost7 75 33 w p X v most ms to) := by
  have fits := H.fits
  have m2 := H.m2
  have m1 := H.m1
  have LT := hid H.lt
  have fle := filter_le to ms
  have KA := hid ((Keeps.refl [] w).alloc (.cells #[.int .i64 to] 3))
  have B1 := hid (heap_alloc_new w (.cells #[.int .i64 to] 3))
  have ZA := hid (show (w.alloc (.cells #[.int .i64 to] 3)).heap.size = w.heap.size + 1 by simp)
  have HA := hid (H.later KA.out)
  obtain ⟨a0, cp, hv⟩ := H.own.shape
  subst hv
  clear H
  go_enter Try.func17, Try.ntmps17
  go_wp2_with fail
  generalize w.alloc (.cells #[.int .i64 to] 3) = wA at KA B1 HA ZA ⊢
  refine (bMade_any wA p X _ most ms HA.out).mono ?_
  rintro e _ ⟨rfl, rfl⟩
  go_wp2_with fail
  refine (bLen_any wA p X _ most ms HA.out).mono ?_
  rintro e _ ⟨rfl, rfl⟩
  have c1 := HA.out.c1
  go_wp2_with fail
  refine (bClone_any wA X HA.out.own.lt a0 ms.length cp ms HA.out.own.at (by omega)).mono ?_
  rintro e wB ⟨a1, c2, rfl, o1, k1⟩
  have O1 := hid o1
  have K1 := hid k1
  have hcB : wB.cell? ⟨w.heap.size, 0, none⟩ = some (.int .i64 to) := by
    have := (k1.block _ (lt_of_block B1.out) (by simp)).trans B1.out
    simp [World.cell?, this]
  have HCB := hid hcB
  clear o1 k1 hcB c1
  go_wp2_with fail
  refine (bDelF_any wB X wA.heap.size (.slice a1 ms.length c2) ms O1.out (by omega) w.heap.size to HCB.out (fun e => by have := (O1.out.blk _ e).1; have := ZA.out; omega)).mono ?_
  rintro e wC ⟨a3, c3, rfl, o3, k3, e3⟩
  have O3 := hid o3
  have K3 : Hid (Keeps [] wA wC) := hid (K1.out.trans' k3 (fun j hj hm => by
    have := O1.out.blk j (by simpa using hm)
    omega))
  have HC := hid (HA.out.later K3.out)
  have cd := HC.out.c1
  have fd := HC.out.f1
  clear o3 k3 e3
  go_wp2_with fail
  have hkA := KA.out.size
  have R := hid (bag_stored HC.out (KA.out.trans K3.out) LT.out (O3.out.base (fun b hb => by have := (O3.out.blk b hb).1; omega)) (X' := X) (fun b hb => Or.inl hb) (by omega))
  generalize wC.setCell ⟨p, 1, none⟩ (.slice a3 (ms.filter (keepTo to)).length c3) = wD at R ⊢
  clear cd fd
  refine (bLen_any wD p X _ most _ R.out.1).mono ?_
  rintro e _ ⟨rfl, rfl⟩
  go_wp2_with fail
  go_ret
  exact ⟨rfl, X, _, R.out.1, R.out.2.1, R.out.2.2⟩
end Go.Proofs.Ytkfebgbgnpdgpaa
