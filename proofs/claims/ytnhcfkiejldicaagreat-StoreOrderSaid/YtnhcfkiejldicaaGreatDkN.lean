/- The laws' awake. -/
import Derived.Test.YtnhcfkiejldicaaGreatDkM
namespace Go.Proofs.YtnhcfkiejldicaaGreat
open Go.RowKit

theorem same_true (w : World) (u v : Value) (xs : List Int) (hx : RowAt w u xs) (hy : RowAt w v xs) (hl : xs.length ≤ 1000000) :
    Calls Tryz.prog 17 #[u, v] w fun e w' => e = .returned (.bool true) ∧ Keeps [] w w' :=
  (same_rows w u v xs xs hx hy hl hl).mono fun e w' ⟨he, k⟩ => ⟨by rw [he]; simp, k⟩

theorem secL_le (c : Int) : (secL c).length ≤ 1000000 := by rw [secL_len]; omega

end Go.Proofs.YtnhcfkiejldicaaGreat
