/- The walk of the reference's Copy. (For every layer without the texts of disk and wire.) -/
import Derived.Test.YtkfebgbgnpdgpaaKitA
import Derived.Test.YtkfebgbgnpdgpaaApp
import Derived.Test.YtkfebgbgnpdgpaaCore
import Derived.OwnWalk
namespace Go.Proofs.Ytkfebgbgnpdgpaa
open Go.RowKit

theorem row_oneK {w : World} (z : Int) (T : TypeId) (hz : 0 ≤ z ∧ z ≤ 255) : RowAt (w.alloc (.cells #[.int .u8 z] T)) (.slice (some ⟨w.heap.size, 0, none⟩) 1 1) [z] := by
  refine ⟨some ⟨w.heap.size, 0, none⟩, 1, rfl, by simp, by unfold maxLen; omega, by simp, by simpa using hz, fun ad had j u hu => ?_⟩
  obtain rfl := Option.some.inj had
  rw [Addr.add_lit, Nat.zero_add, cell_of_row _ _ j _ _ (0, 0) (heap_alloc_new w _)]
  simpa using hu

/-- A row of the call's own, in new memory. -/
def OwnPostK (w : World) (zs : List Int) (e : Ending) (w' : World) : Prop :=
  ∃ a c, e = .returned (.slice a zs.length c) ∧ w'.ownsRow w.heap.size 5 1 (.slice a zs.length c) zs.length (zs.map (Value.int .u8)) ∧ Keeps [] w w'

set_option maxHeartbeats 800000 in
theorem copyK_any (w : World) (v : Value) (zs : List Int) (h : RowAt w v zs) (hl : zs.length ≤ 35184372088832) :
    Calls Try.prog 48 #[v] w (OwnPostK w zs) := by
  have HR := hid h
  obtain ⟨a, cap, rfl, z⟩ := h
  clear z
  obtain ⟨i0, hi, hz0, hz1, hz2⟩ := info_parts info5
  go_enter Try.func48, Try.ntmps48
  go_wp2_with fail
  go_loopw [3, 4] (fun b i wr => ∃ (k : Nat) (a' : Option Addr) (c : Nat), k ≤ zs.length ∧ i = .int .i64 k ∧ b = .slice a' k c ∧
      wr.ownsRow w.heap.size 5 1 (.slice a' k c) k ((zs.take k).map (Value.int .u8)) ∧ Keeps [] w wr) (fun _ i _ => zs.length - (intOf i).toNat)
  case atStart => exact ⟨0, none, 0, by omega, rfl, rfl, World.ownsRow_nil _ _ _ _, Keeps.refl _ _⟩
  case round =>
    obtain ⟨k, a', c, hk, rfl, rfl, q1, q2⟩ := hrel
    have Q1 := hid q1
    have Q2 := hid q2
    clear q1 q2
    by_cases hlt : k < zs.length
    · obtain ⟨g, off, cp, e1, _, hc⟩ := HR.out.open (by omega)
      injection e1 with e1 e2 e3
      subst e1
      have hck : wr.cell? ⟨g, off + k, none⟩ = some (.int .u8 (zs.getD k 0)) := Q2.out.cell' (hc k hlt) (by simp)
      have hz : 0 ≤ zs.getD k 0 ∧ zs.getD k 0 ≤ 255 := HR.out.bytes _ (by rw [List.getD_eq_getElem?_getD, List.getElem?_eq_getElem hlt]; exact List.getElem_mem _)
      have HE := hid (take_snoc zs k hlt)
      clear hc e2 e3
      generalize zs.getD k 0 = b at *
      have HO := hid (Q1.out.alloc (.cells #[.int .u8 b] 5))
      have HR1 := hid (row_oneK (w := wr) b 5 hz)
      have hsz : w.heap.size ≤ wr.heap.size := Q2.out.size
      clear hz
      go_wp2_with (at_builtin; refine wpList_append_row rfl _ _ 29 rfl w.heap.size 5 i0 (.int .u8 0) Try.underlying29 hi hz0 hz1 hz2 rfl (.slice a' k c) k ((zs.take k).map (Value.int .u8)) rfl HO.out _ [b] rfl HR1.out (by rw [List.length_singleton]; omega) (by rw [World.size_alloc]; omega) ?_; intro a2 c2 w1 k1 k2 k3; simp only [List.length_singleton] at k1 k3 ⊢)
      go_roundw
      case rel =>
        refine ⟨k + 1, a2, c2, by omega, by go_num, rfl, ?_, ?_⟩
        · rw [HE.out, List.map_append]
          exact k1.out
        · exact (Q2.out.alloc _).grown k2.out (fun j hj => Or.inr ((Q1.out.lt j (by simpa [Value.ownBlock] using hj)).1))
      case measure => simp [intOf]; omega
    · have : k = zs.length := by omega
      subst this
      go_wp2_with fail
      go_ret
      refine ⟨a', c, rfl, ?_, Q2.out⟩
      have := Q1.out
      rw [List.take_length] at this
      exact this
end Go.Proofs.Ytkfebgbgnpdgpaa
