/- The walk of parity's mix. -/
import Derived.Test.YtoglcohdanpciaaCore
import Derived.Test.YtoglcohdanpciaaPyMath
import Derived.RegionTactic
import Derived.ChangeAlike
import Derived.Laws.OwnMore
namespace Go.Proofs.Ytoglcohdanpciaa
open Go.RowKit

/-- A row that the call owns: its block is g. -/
abbrev Owned (w : World) (B : Nat) (g n cap : Nat) (xs : List Int) : Prop := w.ownsRow B 5 1 (.slice (some ⟨g, 0, none⟩) n cap) n (xs.map (Value.int .u8))

theorem Owned.cell {w : World} {B g n cap : Nat} {xs : List Int} (h : Owned w B g n cap xs) {j : Nat} (hj : j < n) : w.cell? ⟨g, j, none⟩ = some (.int .u8 (xs.getD j 0)) := by
  have hl : xs.length = n := by simpa using h.1
  rw [World.ownsRow.cellAt h j (by omega), List.getElem?_map, List.getElem?_eq_getElem (by omega), List.getD_eq_getElem?_getD, List.getElem?_eq_getElem (by omega)]
  rfl
theorem Owned.length {w : World} {B g n cap : Nat} {xs : List Int} (h : Owned w B g n cap xs) : xs.length = n := by simpa using h.1
theorem Owned.set {w : World} {B g n cap : Nat} {xs : List Int} (h : Owned w B g n cap xs) (j : Nat) (z : Int) : Owned (w.setCell ⟨g, j, none⟩ (.int .u8 z)) B g n cap (xs.set j z) := by
  have := (World.ownsRow.stored h j (.int .u8 z)).1
  rwa [← List.map_set] at this

set_option maxHeartbeats 1000000 in
theorem mix_any (w : World) (B g n cap : Nat) (xs r : List Int) (u : Value) (hown : Owned w B g n cap xs) (hx : ∀ z ∈ xs, byteB z) (hr : RowAt w u r) (hoff : Off [g] u r) (hn : n ≤ 140737488351232) (hrl : r.length ≤ 140737488351232) :
    Calls Try.prog 156 #[.slice (some ⟨g, 0, none⟩) n cap, u] w fun e w' => e = .returned (.slice (some ⟨g, 0, none⟩) n cap) ∧ Owned w' B g n cap (mixL xs r) ∧ Keeps [g] w w' := by
  have HL := hid hown.length
  have HO := hid hown
  have HR := hid hr
  have HX := hid hx
  have HF := hid hoff
  obtain ⟨a, cr, rfl, z⟩ := id hr
  clear hown hr hx hoff z
  go_enter Try.func156, Try.ntmps156
  go_wp2_with fail
  all_goals
    go_loopw [11] (fun i wr => ∃ k : Nat, i = .int .i64 k ∧ k ≤ n ∧ k ≤ r.length ∧ Owned wr B g n cap (mixK xs r k) ∧ Keeps [g] w wr) (fun i _ => n - (intOf i).toNat)
    case atStart => exact ⟨0, rfl, by omega, by omega, by rw [mixK_zero]; exact HO.out, Keeps.refl _ _⟩
    case round =>
      obtain ⟨k, rfl, hk1, hk2, ho, hkk⟩ := hrel
      have HO2 := hid ho
      have HK := hid hkk
      clear ho hkk
      by_cases hlt : k < n ∧ k < r.length
      · obtain ⟨h1, h2⟩ := hlt
        obtain ⟨g2, o2, c2, e1, _, hc⟩ := (HR.out.keep HK.out HF.out).open (by omega)
        injection e1 with e1 _ e3
        subst e1; subst e3
        have cs := HO2.out.cell h1
        have fs := World.ownsRow.frozenAt HO2.out k
        have cr' := hc k h2
        have HB := hid (bx_is (getD_byte HX.out k) (getD_byte HR.out.bytes k))
        have HM := hid (mixK_getD xs r k k (by have := HL.out; omega))
        rw [HM.out, if_neg (Nat.lt_irrefl k)] at cs
        have HS := hid (mixK_set xs r k)
        clear hc
        clear HM
        generalize xs.getD k 0 = b1 at *
        generalize r.getD k 0 = b2 at *
        go_wp2_with fail
        go_region
        all_goals
          go_wp2_with fail
          go_roundw
          case rel =>
            refine ⟨k + 1, by go_num, by omega, by omega, ?_, ?_⟩
            · rw [HB.out, ← HS.out]
              exact Owned.set (show Owned _ B g n cap (mixK xs r k) from HO2.out) k _
            · exact (HK.out.setCell (p := ⟨g, k, none⟩) (Or.inl (by simp)) _).drew
          case measure => simp [intOf]; omega
      · have hm : mixK xs r k = mixL xs r := mixK_all xs r k HX.out (by have := HL.out; omega)
        rw [hm] at HO2
        clear hm
        first
        | (have : k = n := by omega
           subst this)
        | (have : k = r.length := by omega
           subst this)
        go_wp2_with fail
        go_ret
        exact ⟨rfl, HO2.out, HK.out⟩
end Go.Proofs.Ytoglcohdanpciaa
