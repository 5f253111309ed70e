/- The code's tree: Inos. -/
import Derived.Test.YtnmiffkflnlanaaTrN
namespace Go.Proofs.Ytnmiffkflnlanaa
open Go.RowKit
set_option maxRecDepth 100000

def upto (T : TL) (k : Nat) : List Nat := (List.range k).filter (hasT T)
theorem upto_no {T : TL} {k : Nat} (h : hasT T k = false) : upto T (k + 1) = upto T k := by simp [upto, range_snoc, h]
theorem upto_yes {T : TL} {k : Nat} (h : hasT T k = true) : upto T (k + 1) = upto T k ++ [k] := by simp [upto, range_snoc, h]
theorem upto_le (T : TL) (k : Nat) : (upto T k).length ≤ k := by
  have := List.length_filter_le (hasT T) (List.range k)
  simpa [upto] using this
def nums (l : List Nat) : List Value := l.map numN
def InosPost (T : TL) (w : World) (e : Ending) (w' : World) : Prop :=
  ∃ a c, e = .returned (.slice a (inosT T).length c) ∧ w'.ownsRow w.heap.size 3 1 (.slice a (inosT T).length c) (inosT T).length (nums (inosT T)) ∧ Keeps [] w w'

set_option maxHeartbeats 3200000 in
theorem inos_in (w : World) (q c : Nat) (T : TL) (G : Nat → Nat) (TI : TreeIn w q T G c) :
    Calls Try.prog 17 #[.pointer (some ⟨q, 0, none⟩)] w (InosPost T w) := by
  obtain ⟨i0, hi, hz0, hz1, hz2⟩ := infoIntT
  have HI := hid TI
  clear TI
  have SL := run_sliceThings q
  go_enter Try.func17, Try.ntmps17
  go_wp2_with fail
  refine HI.out.made.mono ?_
  rintro e w' ⟨rfl, rfl⟩
  go_wp2_with fail
  go_loopw [3, 14] (fun lv iv wr => ∃ (k : Nat) (a : Option Addr) (c : Nat), k ≤ 129 ∧ iv = .int .i64 k ∧ lv = .slice a (upto T k).length c ∧ Hid (wr.ownsRow w.heap.size 3 1 (.slice a (upto T k).length c) (upto T k).length (nums (upto T k))) ∧ Hid (Keeps [] w wr)) (fun _ iv _ => 129 - (intOf iv).toNat)
  case atStart => exact ⟨0, none, 0, by omega, rfl, rfl, World.ownsRow_nil _ _ _ _, Keeps.refl _ _⟩
  case round =>
    obtain ⟨k, a, cc, hk, rfl, rfl, hown, hkp⟩ := hrel
    have hul := upto_le T k
    by_cases hlt : k < 129
    · have hni : ((k : Int) < 129) := by omega
      have hni0 : (0 : Int) ≤ k := by omega
      have HIr := hid (HI.out.keep0 hkp.out)
      have HL := hid (HIr.out.2.cells k hlt)
      have gA := heap_alloc_new wr (.cells (tgC (xT T k) (G k)).toArray 65)
      have cA : (wr.alloc (.cells (tgC (xT T k) (G k)).toArray 65)).cell? ⟨wr.heap.size, 0, none⟩ = some (.bool (hasT T k)) := by rw [cell_of_row _ _ 0 _ _ (0, 0) gA]; rfl
      clear gA
      cases hb : hasT T k with
      | false =>
        rw [hb] at cA
        have HB := hid hb
        clear hb
        go_wp2_with (first | (refine wpList_loadTg rfl _ rfl q (k * 4) rfl (xT T k) (G k) HL.out ?_) | (refine wpList_is rfl _ _ (exec_alloc 65 tgZ iThing rfl) ?_) | (refine wpList_noval rfl _ (exec_storeNew 65 _ _ rfl wr tgZ (tgC (xT T k) (G k)).toArray rfl rfl rfl iThing rfl (tgC_one _ _)) ?_) | fail)
        go_roundw
        case rel =>
          refine ⟨k + 1, a, cc, by omega, by go_num, ?_, ?_, hid (hkp.out.alloc _)⟩
          · rw [upto_no HB.out]
          · rw [upto_no HB.out]
            exact hid (hown.out.alloc _)
        case measure => simp [intOf]; omega
      | true =>
        rw [hb] at cA
        have HB := hid hb
        clear hb
        go_wp2_with (first | (refine wpList_loadTg rfl _ rfl q (k * 4) rfl (xT T k) (G k) HL.out ?_) | (refine wpList_is rfl _ _ (exec_alloc 65 tgZ iThing rfl) ?_) | (refine wpList_noval rfl _ (exec_storeNew 65 _ _ rfl wr tgZ (tgC (xT T k) (G k)).toArray rfl rfl rfl iThing rfl (tgC_one _ _)) ?_) | (at_builtin; refine wpList_append_own _ rfl _ _ 44 rfl w.heap.size 3 i0 (.int .i64 0) 1 8 Try.underlying44 hi hz0 hz1 hz2 rfl (by decide) _ _ _ rfl ((hown.out.alloc _).alloc _) ⟨_, 0, none⟩ 1 1 [numN k] rfl rfl ?c1 ?c2 ?c3 ?c4 ?c5 ?_))
        case c1 =>
          intro j u hj
          cases j with
          | zero => simp at hj; subst hj; simp [Addr.add]
          | succ j => simp at hj
        case c2 => intro u hu; simp at hu; subst hu; rfl
        case c3 => unfold maxLen; omega
        case c4 => omega
        case c5 => have := hkp.out.size; simp; omega
        intro v' w2 hown' hg _
        have HK2 := hid (keeps_own ((hkp.out.alloc _).alloc _) ((hown.out.alloc _).alloc _) (Nat.le_refl _) hg)
        obtain ⟨a2, c2, rfl⟩ := ownsRow_slice hown'
        have HO2 : Hid (w2.ownsRow w.heap.size 3 1 (.slice a2 (upto T (k + 1)).length c2) (upto T (k + 1)).length (nums (upto T (k + 1)))) := hid (by
          rw [upto_yes HB.out, List.length_append]
          have e : nums (upto T k ++ [k]) = nums (upto T k) ++ [numN k] := by simp [nums]
          rw [e]
          exact hown')
        clear hg hown'
        go_wp2_with fail
        go_roundw
        case rel => exact ⟨k + 1, a2, c2, by omega, by go_num, by rw [upto_yes HB.out, List.length_append]; rfl, HO2, HK2⟩
        case measure => simp [intOf]; omega
    · have : k = 129 := by omega
      subst this
      go_wp2_with fail
      go_ret
      exact ⟨a, cc, rfl, hown.out, hkp.out⟩
theorem inos_any10 {w : World} {q c : Nat} {T : TL} {F : List Nat} (A : TreeAt w q T F c) : Calls Try.prog 17 #[.pointer (some ⟨q, 0, none⟩)] w (InosPost T w) := by
  obtain ⟨G, TI, rfl⟩ := A
  exact inos_in w q c T G TI
end Go.Proofs.Ytnmiffkflnlanaa
