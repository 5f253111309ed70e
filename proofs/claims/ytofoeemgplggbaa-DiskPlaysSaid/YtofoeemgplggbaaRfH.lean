/- The reference's disk: Write. -/
import Derived.Test.YtofoeemgplggbaaRfG
namespace Go.Proofs.Ytofoeemgplggbaa
open Go.RowKit

theorem rwrite_no (w : World) (q : Nat) (s : DS) (vf : Nat → Value) (uf : Nat → List Value) (h : RefIn w q s.ref vf uf) (k : Int) (bv : Value) (zs : List Int) (hb : RowAt w bv zs) (ht : ¬ s.takes k zs.length) :
    Calls Try.prog 22 #[.pointer (some ⟨q, 0, none⟩), .int .i64 k, bv] w fun e w' => e = .returned (.int .i64 (writeE s k zs.length)) ∧ w = w' := by
  have c0 := h.c0
  have c6 : w.cell? ⟨q, 6, none⟩ = some (.bool s.dead) := h.c6
  have hlen : (uf 0).length = s.cnt := by rw [h.now.len]; simp
  obtain ⟨a, c, e0⟩ := ownsRow_slice h.now.own; rw [e0] at c0
  clear h
  obtain ⟨ba, bc, rfl, _⟩ := hb
  by_cases hd : s.dead = true
  · have e1 : writeE s k zs.length = 14 := by simp only [writeE, if_neg ht, hd]; rfl
    rw [e1]
    rw [hd] at c6
    go_enter Try.func22, Try.ntmps22
    go_wp2_with fail
    go_ret
    exact ⟨rfl, rfl⟩
  · have hd' : s.dead = false := by simpa using hd
    have e1 : writeE s k zs.length = 1 := by simp only [writeE, if_neg ht, hd']; rfl
    rw [e1]
    rw [hd'] at c6
    have ht' : 0 ≤ k → k < s.cnt → zs.length ≠ 64 := fun h1 h2 h3 => ht ⟨hd', h1, h2, h3⟩
    clear ht
    by_cases hk0 : 0 ≤ k
    · by_cases hk1 : k < ((uf 0).length : Int)
      · have hz2 : ¬ zs.length = 64 := ht' hk0 (by omega)
        have hz3 : ¬ (zs.length : Int) = 64 := by omega
        have hz : ((zs.length : Int) != 64) = true := bne_iff_ne.2 hz3
        have HT := hid ht'
        clear ht'
        go_enter Try.func22, Try.ntmps22
        go_wp2_with fail
        go_ret
        exact ⟨rfl, rfl⟩
      · have HT := hid ht'
        clear ht'
        go_enter Try.func22, Try.ntmps22
        go_wp2_with fail
        go_ret
        exact ⟨rfl, rfl⟩
    · have HT := hid ht'
      clear ht'
      go_enter Try.func22, Try.ntmps22
      go_wp2_with fail
      go_ret
      exact ⟨rfl, rfl⟩

end Go.Proofs.Ytofoeemgplggbaa
