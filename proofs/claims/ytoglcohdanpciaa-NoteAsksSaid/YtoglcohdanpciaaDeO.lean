/- delta: whether two lists are the same, by the code and by the reference. -/
import Derived.Test.YtoglcohdanpciaaDeM
import Derived.Test.YtoglcohdanpciaaDeI
namespace Go.Proofs.Ytoglcohdanpciaa
open Go.RowKit Go.Shelf
set_option maxRecDepth 100000
set_option linter.unusedSimpArgs false

def eqDL (xs ys : List Dl) : Bool := xs.length == ys.length && (List.range xs.length).all fun j => eqD (xs.getD j dZ) (ys.getD j dZ)
theorem getD_at {xs : List Dl} {j : Nat} (h : j < xs.length) : xs.getD j dZ = xs[j] := by rw [List.getD_eq_getElem?_getD, List.getElem?_eq_getElem h]; rfl
theorem eqDL_is {xs ys : List Dl} : eqDL xs ys = true ↔ xs = ys := by
  unfold eqDL
  simp only [Bool.and_eq_true, beq_iff_eq, List.all_eq_true, List.mem_range]
  constructor
  · rintro ⟨h1, h2⟩
    refine List.ext_getElem h1 fun j j1 j2 => ?_
    have := h2 j j1
    rw [getD_at j1, getD_at j2] at this
    exact eqD_is.1 this
  · rintro rfl
    exact ⟨rfl, fun j hj => eqD_is.2 rfl⟩
theorem eqDL_no {xs ys : List Dl} {k : Nat} (h1 : k < xs.length) (h2 : k < ys.length) (h : eqD xs[k] ys[k] = false) : eqDL xs ys = false := by
  cases hq : eqDL xs ys with
  | false => rfl
  | true =>
    have := eqDL_is.1 hq
    subst this
    rw [eqD_is.2 rfl] at h
    cases h

set_option maxHeartbeats 6400000 in
theorem rdSame_any (w : World) (v u : Value) (xs ys : List Dl) (hx : DlsAt w v xs) (hy : DlsAt w u ys) :
    Calls Try.prog 100 #[v, u] w (MayPost w (eqDL xs ys)) := by
  have HF := hx.few
  have HF2 := hy.few
  unfold maxLen at HF HF2
  obtain ⟨a, c, rfl⟩ := hx.shape
  obtain ⟨b, d, rfl⟩ := hy.shape
  have HX := hid hx
  have HY := hid hy
  clear hx hy
  by_cases hn : xs.length = ys.length
  · have hn' : ((xs.length : Int) != ys.length) = false := by simp [hn]
    have HN := hid hn
    clear hn
    go_enter Try.func100, Try.ntmps100
    go_wp2_with fail
    clear hn'
    go_loopw [5] (fun kv wr => ∃ k : Nat, kv = .int .i64 k ∧ k ≤ xs.length ∧ Hid (∀ j (h1 : j < xs.length) (h2 : j < ys.length), j < k → xs[j] = ys[j]) ∧ Hid (Keeps [] w wr)) (fun kv _ => xs.length - (intOf kv).toNat)
    case atStart => exact ⟨0, rfl, Nat.zero_le _, hid (fun j _ _ h => absurd h (Nat.not_lt_zero _)), hid (Keeps.refl _ _)⟩
    case round =>
      obtain ⟨k, rfl, hk, HALL, HK⟩ := hrel
      by_cases hlt : k < xs.length
      · have hlt2 : k < ys.length := by have := HN.out; omega
        obtain ⟨g, off, rfl, hg, R1⟩ := (HX.out.keep HK.out).at k hlt
        obtain ⟨g2, off2, rfl, hg2, R2⟩ := (HY.out.keep HK.out).at k hlt2
        obtain ⟨x, hxe⟩ : ∃ x, x = xs[k] := ⟨_, rfl⟩
        obtain ⟨y, hye⟩ : ∃ y, y = ys[k] := ⟨_, rfl⟩
        rw [← hxe] at R1
        rw [← hye] at R2
        have HR1 := hid R1
        have HR2 := hid R2
        have HXE := hid hxe
        have HYE := hid hye
        have HG := hid (And.intro hg hg2)
        clear R1 R2 hxe hye hg hg2
        cases he : eqD x y with
        | true =>
          have HE := hid he
          clear he
          go_wp2_with fail
          refine wp_region_any (by kernel_rfl) (wpAny_of_held (S := KpS [] wr.heap.size wr.drew) _ _ _ _ ?_)
          change wpAnyH _ _ _ _ _ _ _ _ wr.drew
          have cX : ∀ W1, KpS [] wr.heap.size wr.drew W1 → W1.rangeAt g (off + k * 14) x.cells := fun W1 h j v hv => h.cell (by rw [World.cell?_drew]; exact HR1.out j v hv) HG.out.1 (by simp)
          have cY : ∀ W1, KpS [] wr.heap.size wr.drew W1 → W1.rangeAt g2 (off2 + k * 14) y.cells := fun W1 h j v hv => h.cell (by rw [World.cell?_drew]; exact HR2.out j v hv) HG.out.2 (by simp)
          refine held_take (i := 0) (v := .slice (some ⟨g, off, none⟩) xs.length c) rfl (by kernel_rfl) (by kernel_rfl) (by kernel_rfl) (fun _ _ _ h => h) rfl (fun W1 hW1 => rfl) (KpS.refl _ _ _) ?_
          simp only [Act.put, List.setIfInBounds_toArray, List.set_cons_zero, List.set_cons_succ]
          refine held_take (i := 1) (v := .int .i64 (k : Int)) rfl (by kernel_rfl) (by kernel_rfl) (by kernel_rfl) (fun _ _ _ h => h) rfl (fun W1 hW1 => rfl) (KpS.refl _ _ _) ?_
          simp only [Act.put, List.setIfInBounds_toArray, List.set_cons_zero, List.set_cons_succ]
          refine held_take (i := 2) (v := .pointer (some ⟨g, off + k * 14, none⟩)) rfl (by kernel_rfl) (by kernel_rfl) (by kernel_rfl) (fun _ _ _ h => h) rfl (fun W1 hW1 => by go_simp) (KpS.refl _ _ _) ?_
          simp only [Act.put, List.setIfInBounds_toArray, List.set_cons_zero, List.set_cons_succ]
          refine held_take (i := 3) (v := dlV x) rfl (by kernel_rfl) (by kernel_rfl) (by kernel_rfl) (fun _ _ _ h => h) rfl (fun W1 hW1 => exec_load _ _ _ _ rfl rfl (loadDl_run W1 g (off + k * 14) x (cX W1 hW1))) (KpS.refl _ _ _) ?_
          simp only [Act.put, List.setIfInBounds_toArray, List.set_cons_zero, List.set_cons_succ]
          refine held_take (i := 4) (v := .slice (some ⟨g2, off2, none⟩) ys.length d) rfl (by kernel_rfl) (by kernel_rfl) (by kernel_rfl) (fun _ _ _ h => h) rfl (fun W1 hW1 => rfl) (KpS.refl _ _ _) ?_
          simp only [Act.put, List.setIfInBounds_toArray, List.set_cons_zero, List.set_cons_succ]
          refine held_take (i := 5) (v := .int .i64 (k : Int)) rfl (by kernel_rfl) (by kernel_rfl) (by kernel_rfl) (fun _ _ _ h => h) rfl (fun W1 hW1 => rfl) (KpS.refl _ _ _) ?_
          simp only [Act.put, List.setIfInBounds_toArray, List.set_cons_zero, List.set_cons_succ]
          refine held_take (i := 6) (v := .pointer (some ⟨g2, off2 + k * 14, none⟩)) rfl (by kernel_rfl) (by kernel_rfl) (by kernel_rfl) (fun _ _ _ h => h) rfl (fun W1 hW1 => by go_simp) (KpS.refl _ _ _) ?_
          simp only [Act.put, List.setIfInBounds_toArray, List.set_cons_zero, List.set_cons_succ]
          refine held_take (i := 7) (v := dlV y) rfl (by kernel_rfl) (by kernel_rfl) (by kernel_rfl) (fun _ _ _ h => h) rfl (fun W1 hW1 => exec_load _ _ _ _ rfl rfl (loadDl_run W1 g2 (off2 + k * 14) y (cY W1 hW1))) (KpS.refl _ _ _) ?_
          simp only [Act.put, List.setIfInBounds_toArray, List.set_cons_zero, List.set_cons_succ]
          refine held_take (i := 8) (v := .bool false) rfl (by kernel_rfl) (by kernel_rfl) (by kernel_rfl) (fun _ _ _ h => h) rfl (fun W1 hW1 => (exec_neqDl _ _ _ x y rfl rfl rfl).trans (by rw [HE.out]; rfl)) (KpS.refl _ _ _) ?_
          simp only [Act.put, List.setIfInBounds_toArray, List.set_cons_zero, List.set_cons_succ]
          refine wpAnyH_done (by kernel_rfl) ?_ _
          clear cX cY
          go_wp2_with fail
          go_roundw
          case rel =>
            refine ⟨k + 1, by go_num, by omega, hid (fun j h1 h2 hj => ?_), hid HK.out.drew⟩
            by_cases e : j = k
            · subst e
              rw [← HXE.out, ← HYE.out]; exact eqD_is.1 HE.out
            · exact HALL.out j h1 h2 (by omega)
          case measure => simp [intOf]; omega
        | false =>
          have HE := hid he
          clear he
          go_wp2_with fail
          refine wp_region_any (by kernel_rfl) (wpAny_of_held (S := KpS [] wr.heap.size wr.drew) _ _ _ _ ?_)
          change wpAnyH _ _ _ _ _ _ _ _ wr.drew
          have cX : ∀ W1, KpS [] wr.heap.size wr.drew W1 → W1.rangeAt g (off + k * 14) x.cells := fun W1 h j v hv => h.cell (by rw [World.cell?_drew]; exact HR1.out j v hv) HG.out.1 (by simp)
          have cY : ∀ W1, KpS [] wr.heap.size wr.drew W1 → W1.rangeAt g2 (off2 + k * 14) y.cells := fun W1 h j v hv => h.cell (by rw [World.cell?_drew]; exact HR2.out j v hv) HG.out.2 (by simp)
          refine held_take (i := 0) (v := .slice (some ⟨g, off, none⟩) xs.length c) rfl (by kernel_rfl) (by kernel_rfl) (by kernel_rfl) (fun _ _ _ h => h) rfl (fun W1 hW1 => rfl) (KpS.refl _ _ _) ?_
          simp only [Act.put, List.setIfInBounds_toArray, List.set_cons_zero, List.set_cons_succ]
          refine held_take (i := 1) (v := .int .i64 (k : Int)) rfl (by kernel_rfl) (by kernel_rfl) (by kernel_rfl) (fun _ _ _ h => h) rfl (fun W1 hW1 => rfl) (KpS.refl _ _ _) ?_
          simp only [Act.put, List.setIfInBounds_toArray, List.set_cons_zero, List.set_cons_succ]
          refine held_take (i := 2) (v := .pointer (some ⟨g, off + k * 14, none⟩)) rfl (by kernel_rfl) (by kernel_rfl) (by kernel_rfl) (fun _ _ _ h => h) rfl (fun W1 hW1 => by go_simp) (KpS.refl _ _ _) ?_
          simp only [Act.put, List.setIfInBounds_toArray, List.set_cons_zero, List.set_cons_succ]
          refine held_take (i := 3) (v := dlV x) rfl (by kernel_rfl) (by kernel_rfl) (by kernel_rfl) (fun _ _ _ h => h) rfl (fun W1 hW1 => exec_load _ _ _ _ rfl rfl (loadDl_run W1 g (off + k * 14) x (cX W1 hW1))) (KpS.refl _ _ _) ?_
          simp only [Act.put, List.setIfInBounds_toArray, List.set_cons_zero, List.set_cons_succ]
          refine held_take (i := 4) (v := .slice (some ⟨g2, off2, none⟩) ys.length d) rfl (by kernel_rfl) (by kernel_rfl) (by kernel_rfl) (fun _ _ _ h => h) rfl (fun W1 hW1 => rfl) (KpS.refl _ _ _) ?_
          simp only [Act.put, List.setIfInBounds_toArray, List.set_cons_zero, List.set_cons_succ]
          refine held_take (i := 5) (v := .int .i64 (k : Int)) rfl (by kernel_rfl) (by kernel_rfl) (by kernel_rfl) (fun _ _ _ h => h) rfl (fun W1 hW1 => rfl) (KpS.refl _ _ _) ?_
          simp only [Act.put, List.setIfInBounds_toArray, List.set_cons_zero, List.set_cons_succ]
          refine held_take (i := 6) (v := .pointer (some ⟨g2, off2 + k * 14, none⟩)) rfl (by kernel_rfl) (by kernel_rfl) (by kernel_rfl) (fun _ _ _ h => h) rfl (fun W1 hW1 => by go_simp) (KpS.refl _ _ _) ?_
          simp only [Act.put, List.setIfInBounds_toArray, List.set_cons_zero, List.set_cons_succ]
          refine held_take (i := 7) (v := dlV y) rfl (by kernel_rfl) (by kernel_rfl) (by kernel_rfl) (fun _ _ _ h => h) rfl (fun W1 hW1 => exec_load _ _ _ _ rfl rfl (loadDl_run W1 g2 (off2 + k * 14) y (cY W1 hW1))) (KpS.refl _ _ _) ?_
          simp only [Act.put, List.setIfInBounds_toArray, List.set_cons_zero, List.set_cons_succ]
          refine held_take (i := 8) (v := .bool true) rfl (by kernel_rfl) (by kernel_rfl) (by kernel_rfl) (fun _ _ _ h => h) rfl (fun W1 hW1 => (exec_neqDl _ _ _ x y rfl rfl rfl).trans (by rw [HE.out]; rfl)) (KpS.refl _ _ _) ?_
          simp only [Act.put, List.setIfInBounds_toArray, List.set_cons_zero, List.set_cons_succ]
          refine wpAnyH_done (by kernel_rfl) ?_ _
          clear cX cY
          go_wp2_with fail
          go_ret
          exact retD (eqDL_no hlt hlt2 (by rw [← HXE.out, ← HYE.out]; exact HE.out)).symm HK.out.drew
      · obtain rfl : k = xs.length := by omega
        go_wp2_with fail
        go_ret
        exact retD (eqDL_is.2 (List.ext_getElem HN.out fun j h1 h2 => HALL.out j h1 h2 h1)).symm HK.out
  · have hn' : ((xs.length : Int) != ys.length) = true := by simp; omega
    have HN := hid hn
    clear hn
    go_enter Try.func100, Try.ntmps100
    go_wp2_with fail
    go_ret
    exact retD (by unfold eqDL; rw [show (xs.length == ys.length) = false by simpa using HN.out]; rfl) (Keeps.refl _ _)

end Go.Proofs.Ytoglcohdanpciaa
