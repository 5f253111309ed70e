/- The reference's disk: Image. -/
import Derived.Test.YtofoeemgplggbaaRfB
namespace Go.Proofs.Ytofoeemgplggbaa
open Go.RowKit

theorem imageL_succ (f : Nat → Row) (n : Nat) : imageL f (n + 1) = imageL f n ++ (f n).1 := by
  unfold imageL
  rw [List.range_succ, List.flatMap_append]
  simp

set_option maxHeartbeats 1600000 in
theorem rimage_any (w : World) (q : Nat) (s : DS) (vf : Nat → Value) (uf : Nat → List Value) (h : RefIn w q s.ref vf uf) (hc : s.cnt ≤ 4160) :
    Calls Try.prog 14 #[.pointer (some ⟨q, 0, none⟩)] w fun e w' => ∃ v, e = .returned v ∧ RowAt w' v (imageL s.now s.cnt) ∧ Keeps [] w w' := by
  have c0 := h.c0
  have hlen : (uf 0).length = s.cnt := by rw [h.now.len]; simp
  have NOW := hid h.now
  clear h
  obtain ⟨vna, vnc, e0⟩ := ownsRow_slice NOW.out.own; rw [e0] at c0 NOW
  obtain ⟨i0, hi, hz0, hz1, hz2⟩ := info_parts info5
  have C0 := hid c0
  clear c0
  go_enter Try.func14, Try.ntmps14
  go_wp2_with fail
  go_loopw [3, 4] (fun b i wr => ∃ (k : Nat) (a' : Option Addr) (c : Nat), k ≤ s.cnt ∧ i = .int .i64 k ∧ b = .slice a' (k * 64) c ∧
      wr.ownsRow w.heap.size 5 1 (.slice a' (k * 64) c) (k * 64) ((imageL s.now k).map (Value.int .u8)) ∧ Keeps [] w wr) (fun _ i _ => s.cnt - (intOf i).toNat)
  case atStart => exact ⟨0, none, 0, by omega, rfl, rfl, World.ownsRow_nil _ _ _ _, Keeps.refl _ _⟩
  case round =>
    obtain ⟨k, a', c, hk, rfl, rfl, q1, q2⟩ := hrel
    have Q1 := hid q1
    have Q2 := hid q2
    have cq := keeps_cell4 q2 C0.out (by simp)
    clear q1 q2
    by_cases hlt : k < s.cnt
    · have hlt' : (k : Int) < ((uf 0).length : Int) := by omega
      obtain ⟨g, cc, e1, _, hcs⟩ := NOW.out.open (by omega)
      injection e1 with e1 e2 e3
      subst e1
      have hci := keeps_cell4 Q2.out (hcs k (by omega)) (by simp)
      have hri := NOW.out.rows k (by omega)
      have hg : (List.map (fun i => (s.now i).1) (List.range s.cnt)).getD k [] = (s.now k).1 := by
        rw [List.getD_eq_getElem?_getD, List.getElem?_map, List.getElem?_range hlt]; rfl
      rw [hg] at hri
      have HRI := hid (hri.keep Q2.out (by intro _ _ _ _ _; simp))
      clear hcs hri hg e3
      generalize (uf 0)[k] = ui at hci HRI
      have hsz : w.heap.size ≤ wr.heap.size := Q2.out.size
      have h64 := (s.now k).2.1
      go_wp2_with (at_builtin; refine wpList_append_row rfl _ _ 34 rfl w.heap.size 5 i0 (.int .u8 0) Try.underlying34 hi hz0 hz1 hz2 rfl (.slice a' (k * 64) c) (k * 64) ((imageL s.now k).map (Value.int .u8)) rfl Q1.out ui (s.now k).1 rfl HRI.out (by rw [h64]; omega) hsz ?_; intro a2 c2 w1 k1 k2 k3; rw [h64] at k1 k3 ⊢)
      go_roundw
      case rel =>
        have e64 : k * 64 + 64 = (k + 1) * 64 := by omega
        rw [e64] at k1 ⊢
        refine ⟨k + 1, a2, c2, by omega, by go_num, rfl, ?_, ?_⟩
        · rw [imageL_succ, List.map_append]
          exact k1.out
        · have hg2 := k2.out
          refine Q2.out.trans' (S' := (Value.slice a' (k * 64) c).ownBlock.toList) ⟨hg2.os, hg2.tape, hg2.output, hg2.size, fun j hj hm => hg2.block j hj (fun e => hm (by rw [← e]; simp))⟩ (fun j hj hm => ?_)
          have := (Q1.out.lt j (by simpa using hm)).1
          omega
      case measure => simp [intOf]; omega
    · have : k = s.cnt := by omega
      subst this
      have hlt' : ¬ (s.cnt : Int) < ((uf 0).length : Int) := by omega
      go_wp2_with fail
      go_ret
      have hl := imageL_len s.now s.cnt
      exact ⟨_, rfl, row_of_own (zs := imageL s.now s.cnt) (by rw [hl]; exact Q1.out) (imageL_byte _ _), Q2.out⟩

end Go.Proofs.Ytofoeemgplggbaa
