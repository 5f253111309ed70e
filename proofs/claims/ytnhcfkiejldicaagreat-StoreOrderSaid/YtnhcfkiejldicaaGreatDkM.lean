/- The laws' Sector and awake. -/
import Derived.Test.YtnhcfkiejldicaaGreatDkL
import Derived.Test.YtnhcfkiejldicaaGreatSame
import Derived.Deep.OwnRows
namespace Go.Proofs.YtnhcfkiejldicaaGreat
open Go.RowKit

def secL (c : Int) : List Int := List.replicate 64 c
theorem secL_len (c : Int) : (secL c).length = 64 := by simp [secL]
theorem secL_byte {c : Int} (h : 0 ≤ c ∧ c ≤ 255) : ∀ z ∈ secL c, 0 ≤ z ∧ z ≤ 255 := by
  intro z hz
  obtain rfl := (List.mem_replicate.1 hz).2
  exact h

def secCur (c : Int) (k : Nat) : List Int := List.replicate k c ++ List.replicate (64 - k) 0

theorem secCur_set (c : Int) (k : Nat) (h : k < 64) : ((secCur c k).map (Value.int .u8)).set k (.int .u8 c) = (secCur c (k + 1)).map (Value.int .u8) := by
  have e : ((Value.int .u8) c) = .int .u8 c := rfl
  rw [← e, ← List.map_set]
  congr 1
  unfold secCur
  rw [List.set_append_right _ _ (by simp)]
  have : 64 - k = (64 - (k + 1)) + 1 := by omega
  rw [this, List.replicate_succ]
  simp [List.replicate_succ', List.append_assoc]

def secR (c : Int) (h : 0 ≤ c ∧ c ≤ 255) : Row := ⟨secL c, secL_len c, secL_byte h⟩


/-! What becomes of a disk, said by hand. -/

theorem mkRow_sec {c : Int} (h : 0 ≤ c ∧ c ≤ 255) : (mkRow (secL c)).1 = secL c := mkRow_is (secL_len c) (secL_byte h)

theorem same_rows (w : World) (u v : Value) (xs ys : List Int) (hx : RowAt w u xs) (hy : RowAt w v ys) (hl : xs.length ≤ 1000000) (hl2 : ys.length ≤ 1000000) :
    Calls Tryz.prog 17 #[u, v] w fun e w' => e = .returned (.bool (decide (xs = ys))) ∧ Keeps [] w w' :=
  (same_any w u v xs ys hx hy (by omega) (by omega)).mono fun e w' ⟨he, n, hw⟩ => ⟨he, by subst hw; exact (Keeps.refl _ _).drewN n⟩

theorem RowAt.keepNew {w0 w w' : World} {v : Value} {zs : List Int} {S : List Nat} (h : RowAt w v zs) (hv : NewV w0 v) (k : Keeps S w w') (hS : ∀ b ∈ S, b < w0.heap.size) : RowAt w' v zs :=
  h.keep k (by
    intro ad n c e _ hm
    have := hv ad.block (by rw [e]; rfl)
    have := hS _ hm
    omega)

def R1 : Row := mkRow (secL 1)
def R2 : Row := mkRow (secL 2)
def aw1 : DS := ⟨2, upd (fun _ => zrow) 0 R1, fun _ => zrow, [(0, R1)], -1, 1, false⟩
def aw2 : DS := ⟨2, upd (fun _ => zrow) 0 R1, upd (fun _ => zrow) 0 R1, [], -1, 2, false⟩
def aw3 : DS := ⟨2, upd (upd (fun _ => zrow) 0 R1) 1 R2, upd (fun _ => zrow) 0 R1, [(1, R2)], -1, 3, false⟩

theorem aw1_is : writeS (blankS 2) 0 (secL 1) = aw1 := by
  have ht : (blankS 2).takes 0 (secL 1).length := by simp [DS.takes, blankS, secL_len]
  simp only [writeS, if_pos ht]
  rfl
theorem aw2_is : syncS aw1 = aw2 := rfl
theorem aw3_is : writeS aw2 1 (secL 2) = aw3 := by
  have ht : aw2.takes 1 (secL 2).length := by simp [DS.takes, aw2, secL_len]
  simp only [writeS, if_pos ht]
  rfl
theorem aw_a : readB (aw3.crashed [0]) 0 = secL 1 := by
  have : readB (aw3.crashed [0]) 0 = R1.1 := rfl
  rw [this]
  exact mkRow_sec (by omega)
theorem aw_b : readB (aw3.crashed [0]) 1 = secL 0 := rfl
theorem aw_c : readB (aw3.crashed []) 1 = secL 2 := by
  have : readB (aw3.crashed []) 1 = R2.1 := rfl
  rw [this]
  exact mkRow_sec (by omega)

end Go.Proofs.YtnhcfkiejldicaaGreat
