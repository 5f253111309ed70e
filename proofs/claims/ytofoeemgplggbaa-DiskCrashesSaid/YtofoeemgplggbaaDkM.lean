/- The laws' Sector and awake. -/
import Derived.Test.YtofoeemgplggbaaDkL
import Derived.Test.YtofoeemgplggbaaSame
import Derived.Deep.OwnRows
namespace Go.Proofs.Ytofoeemgplggbaa
open Go.RowKit

def secL (c : Int) : List Int := List.replicate 64 c
theorem secL_len (c : Int) : (secL c).length = 64 := by simp [secL]
theorem secL_byte {c : Int} (h : 0 ≤ c ∧ c ≤ 255) : ∀ z ∈ secL c, 0 ≤ z ∧ z ≤ 255 := by
  intro z hz
  obtain rfl := (List.mem_replicate.1 hz).2
  exact h

def secCur (c : Int) (k : Nat) : List Int := List.replicate k c ++ List.replicate (64 - k) 0

theorem secCur_set (c : Int) (k : Nat) (h : k < 64) : ((secCur c k).map (Value.int .u8)).set k (.int .u8 c) = (secCur c (k + 1)).map (Value.int .u8) := by
  have e : ((Value.int .u8) c) = .int .u8 c := rfl
  rw [← e, ← List.map_set]
  congr 1
  unfold secCur
  rw [List.set_append_right _ _ (by simp)]
  have : 64 - k = (64 - (k + 1)) + 1 := by omega
  rw [this, List.replicate_succ]
  simp [List.replicate_succ', List.append_assoc]

set_option maxRecDepth 100000 in
set_option maxHeartbeats 2000000 in
theorem sector_any (c : Int) (h0 : 0 ≤ c) (h1 : c ≤ 255) (w : World) :
    Calls Try.prog 17 #[.int .u8 c] w fun e w' => ∃ v, e = .returned v ∧ RowAt w' v (secL c) ∧ NewV w v ∧ (∃ a n m, v = .slice a n m) ∧ Keeps [] w w' := by
  have hcur : madeCells #[.int .u8 0] 64 = ((secCur c 0).map (Value.int .u8)).toArray := by
    apply Array.ext'
    rw [toList_madeCells_one]
    simp [secCur]
  have hmk : ∀ w, (Instr.makeSlice 34 (.int .i64 64) (.int .i64 64)).run Try.prog w = .ok (.slice (some ⟨w.heap.size, 0, none⟩) 64 64) (w.alloc (.cells ((secCur c 0).map (Value.int .u8)).toArray 5)) := fun w => by
    have := run_make_row' (P := Try.prog) 34 5 (.int .u8 0) 1 Try.underlying34 info5 rfl .i64 .i64 64 (by omega) (by omega) w
    rw [hcur] at this
    exact this
  go_enter Try.func17, Try.ntmps17
  go_wp2_with fail
  go_loopw [4] (fun v wr => ∃ k : Nat, k ≤ 64 ∧ v = .int .i64 k ∧ wr.heap[w.heap.size]? = some (.cells ((secCur c k).map (Value.int .u8)).toArray 5 (0, 0)) ∧ Keeps [] w wr)
    (fun v _ => 64 - (intOf v).toNat)
  case atStart => exact ⟨0, by omega, rfl, heap_alloc_new w _, (Keeps.refl _ _).alloc _⟩
  case round =>
    obtain ⟨k, hk, rfl, hb, kp⟩ := hrel
    have HB := hid hb
    have HK := hid kp
    by_cases hlt : k < 64
    · have hl : ((secCur c k).map (Value.int .u8)).length = 64 := by simp [secCur]; omega
      have cc : wr.cell? ⟨w.heap.size, k, none⟩ = some (((secCur c k).map (Value.int .u8))[k]'(by omega)) := by
        rw [cell_of_row wr _ k _ _ (0, 0) hb]
        simp
      have ff : wr.frozen? ⟨w.heap.size, k, none⟩ = false := by simp [World.frozen?, hb]
      generalize ((secCur c k).map (Value.int .u8))[k] = old at cc
      clear hb kp
      go_wp2_with fail
      go_roundw
      case rel =>
        refine ⟨k + 1, by omega, by simp, ?_, HK.out.setCell (Or.inr (Nat.le_refl _)) _⟩
        rw [heap_setCell_same _ _ _ _ _ _ HB.out]
        simp only [List.setIfInBounds_toArray, secCur_set c k hlt]
      case measure => simp [intOf]; omega
    · have : k = 64 := by omega
      subst this
      clear hb kp
      go_wp2_with fail
      go_ret
      refine ⟨.slice (some ⟨w.heap.size, 0, none⟩) 64 64, rfl, ⟨some ⟨w.heap.size, 0, none⟩, 64, by rw [secL_len], by rw [secL_len]; omega, by unfold maxLen; omega, by simp, secL_byte ⟨h0, h1⟩, ?_⟩, ?_, ⟨_, _, _, rfl⟩, HK.out⟩
      · intro ad had j u hu
        injection had with had
        subst had
        rw [Addr.add_mid, Nat.zero_add, cell_of_row _ _ j _ _ (0, 0) HB.out]
        simpa [secCur, secL] using hu
      · intro b hb
        injection hb with hb
        simp at hb
        omega

def secR (c : Int) (h : 0 ≤ c ∧ c ≤ 255) : Row := ⟨secL c, secL_len c, secL_byte h⟩


/-! What becomes of a disk, said by hand. -/

theorem mkRow_sec {c : Int} (h : 0 ≤ c ∧ c ≤ 255) : (mkRow (secL c)).1 = secL c := mkRow_is (secL_len c) (secL_byte h)

theorem same_rows (w : World) (u v : Value) (xs ys : List Int) (hx : RowAt w u xs) (hy : RowAt w v ys) (hl : xs.length ≤ 1000000) (hl2 : ys.length ≤ 1000000) :
    Calls Try.prog 12 #[u, v] w fun e w' => e = .returned (.bool (decide (xs = ys))) ∧ Keeps [] w w' :=
  (same_any w u v xs ys hx hy (by omega) (by omega)).mono fun e w' ⟨he, n, hw⟩ => ⟨he, by subst hw; exact (Keeps.refl _ _).drewN n⟩

theorem RowAt.keepNew {w0 w w' : World} {v : Value} {zs : List Int} {S : List Nat} (h : RowAt w v zs) (hv : NewV w0 v) (k : Keeps S w w') (hS : ∀ b ∈ S, b < w0.heap.size) : RowAt w' v zs :=
  h.keep k (by
    intro ad n c e _ hm
    have := hv ad.block (by rw [e]; rfl)
    have := hS _ hm
    omega)

def R1 : Row := mkRow (secL 1)
def R2 : Row := mkRow (secL 2)
def aw1 : DS := ⟨2, upd (fun _ => zrow) 0 R1, fun _ => zrow, [(0, R1)], -1, 1, false⟩
def aw2 : DS := ⟨2, upd (fun _ => zrow) 0 R1, upd (fun _ => zrow) 0 R1, [], -1, 2, false⟩
def aw3 : DS := ⟨2, upd (upd (fun _ => zrow) 0 R1) 1 R2, upd (fun _ => zrow) 0 R1, [(1, R2)], -1, 3, false⟩

theorem aw1_is : writeS (blankS 2) 0 (secL 1) = aw1 := by
  have ht : (blankS 2).takes 0 (secL 1).length := by simp [DS.takes, blankS, secL_len]
  simp only [writeS, if_pos ht]
  rfl
theorem aw2_is : syncS aw1 = aw2 := rfl
theorem aw3_is : writeS aw2 1 (secL 2) = aw3 := by
  have ht : aw2.takes 1 (secL 2).length := by simp [DS.takes, aw2, secL_len]
  simp only [writeS, if_pos ht]
  rfl
theorem aw_a : readB (aw3.crashed [0]) 0 = secL 1 := by
  have : readB (aw3.crashed [0]) 0 = R1.1 := rfl
  rw [this]
  exact mkRow_sec (by omega)
theorem aw_b : readB (aw3.crashed [0]) 1 = secL 0 := rfl
theorem aw_c : readB (aw3.crashed []) 1 = secL 2 := by
  have : readB (aw3.crashed []) 1 = R2.1 := rfl
  rw [this]
  exact mkRow_sec (by omega)

end Go.Proofs.Ytofoeemgplggbaa
