/- blocks: the laws' own comparison of pointers, and whether one is among some. -/
import Derived.Test.YtamcllcjondcpaaBkK
namespace Go.Proofs.Ytamcllcjondcpaa
open Go.RowKit Go.Shelf
set_option maxRecDepth 100000
set_option linter.unusedSimpArgs false

def eqL (xs ys : List Pt) : Bool := decide (xs = ys)
theorem list_eq_at {xs ys : List Pt} (h : xs.length = ys.length) (hj : ∀ j (h1 : j < xs.length) (h2 : j < ys.length), xs[j] = ys[j]) : xs = ys := List.ext_getElem h hj
set_option maxHeartbeats 3200000 in
theorem lPtrs_any (w : World) (M N : List Nat) (v u : Value) (xs ys : List Pt) (hx : PtsAt w M v xs) (hy : PtsAt w N u ys) (hl : xs.length ≤ 100000) (hl2 : ys.length ≤ 100000) :
    Calls Try.prog 44 #[v, u] w fun e w' => e = .returned (.bool (eqL xs ys)) ∧ Keeps [] w w' := by
  have HX := hid hx
  have HY := hid hy
  obtain ⟨a, c, rfl⟩ := hx.shape
  obtain ⟨b, d, rfl⟩ := hy.shape
  clear hx hy
  by_cases hn : xs.length = ys.length
  · have hn' : ((xs.length : Int) != ys.length) = false := by simp [hn]
    have HN := hid hn
    clear hn
    go_enter Try.func44, Try.ntmps44
    go_wp2_with fail
    clear hn'
    go_loopw [5] (fun kv wr => ∃ k : Nat, kv = .int .i64 k ∧ k ≤ xs.length ∧ (∀ j (h1 : j < xs.length) (h2 : j < ys.length), j < k → xs[j] = ys[j]) ∧ Keeps [] w wr) (fun kv _ => xs.length - (intOf kv).toNat)
    case atStart => exact ⟨0, rfl, Nat.zero_le _, fun j _ _ h => absurd h (Nat.not_lt_zero _), Keeps.refl _ _⟩
    case round =>
      obtain ⟨k, rfl, hk, hall, hkp⟩ := hrel
      have HALL := hid hall
      have HK := hid hkp
      clear hall hkp
      by_cases hlt : k < xs.length
      · have hlt2 : k < ys.length := by have := HN.out; omega
        obtain ⟨g, off, rfl, _, hcap, hg, hgM, hr⟩ := (HX.out.later HK.out).open (by omega)
        obtain ⟨g2, off2, rfl, _, hcap2, hg2, hgM2, hr2⟩ := (HY.out.later HK.out).open (by omega)
        have R1 := range_pt hr k hlt
        have R2 := range_pt hr2 k hlt2
        obtain ⟨x, hxe⟩ : ∃ x, x = xs[k] := ⟨_, rfl⟩
        obtain ⟨y, hye⟩ : ∃ y, y = ys[k] := ⟨_, rfl⟩
        rw [← hxe] at R1
        rw [← hye] at R2
        have HR1 := hid R1
        have HR2 := hid R2
        have HXE := hid hxe
        have HYE := hid hye
        have HG := hid (And.intro hg hg2)
        clear hr hr2 R1 R2 hxe hye hcap hcap2 hg hg2 hgM hgM2
        cases he : eqP x y with
        | true =>
          have HE := hid he
          clear he
          go_wp2_with fail
          refine wp_region_any (by kernel_rfl) (wpAny_of_held (S := KpS [] wr.heap.size wr.drew) _ _ _ _ ?_)
          change wpAnyH _ _ _ _ _ _ _ _ wr.drew
          have cX : ∀ W1, KpS [] wr.heap.size wr.drew W1 → W1.rangeAt g (off + k * 5) x.cells := fun W1 h j v hv => h.cell (by rw [World.cell?_drew]; exact HR1.out j v hv) HG.out.1 (by simp)
          have cY : ∀ W1, KpS [] wr.heap.size wr.drew W1 → W1.rangeAt g2 (off2 + k * 5) y.cells := fun W1 h j v hv => h.cell (by rw [World.cell?_drew]; exact HR2.out j v hv) HG.out.2 (by simp)
          refine held_take (i := 0) (v := .slice (some ⟨g, off, none⟩) xs.length c) rfl (by kernel_rfl) (by kernel_rfl) (by kernel_rfl) (fun _ _ _ h => h) rfl (fun W1 hW1 => rfl) (KpS.refl _ _ _) ?_
          simp only [Act.put, List.setIfInBounds_toArray, List.set_cons_zero, List.set_cons_succ]
          refine held_take (i := 1) (v := .int .i64 (k : Int)) rfl (by kernel_rfl) (by kernel_rfl) (by kernel_rfl) (fun _ _ _ h => h) rfl (fun W1 hW1 => rfl) (KpS.refl _ _ _) ?_
          simp only [Act.put, List.setIfInBounds_toArray, List.set_cons_zero, List.set_cons_succ]
          refine held_take (i := 2) (v := .pointer (some ⟨g, off + k * 5, none⟩)) rfl (by kernel_rfl) (by kernel_rfl) (by kernel_rfl) (fun _ _ _ h => h) rfl (fun W1 hW1 => by go_simp) (KpS.refl _ _ _) ?_
          simp only [Act.put, List.setIfInBounds_toArray, List.set_cons_zero, List.set_cons_succ]
          refine held_take (i := 3) (v := ptV x) rfl (by kernel_rfl) (by kernel_rfl) (by kernel_rfl) (fun _ _ _ h => h) rfl (fun W1 hW1 => exec_load _ _ _ _ rfl rfl (loadPt_run W1 g (off + k * 5) x (cX W1 hW1))) (KpS.refl _ _ _) ?_
          simp only [Act.put, List.setIfInBounds_toArray, List.set_cons_zero, List.set_cons_succ]
          refine held_take (i := 4) (v := .slice (some ⟨g2, off2, none⟩) ys.length d) rfl (by kernel_rfl) (by kernel_rfl) (by kernel_rfl) (fun _ _ _ h => h) rfl (fun W1 hW1 => rfl) (KpS.refl _ _ _) ?_
          simp only [Act.put, List.setIfInBounds_toArray, List.set_cons_zero, List.set_cons_succ]
          refine held_take (i := 5) (v := .int .i64 (k : Int)) rfl (by kernel_rfl) (by kernel_rfl) (by kernel_rfl) (fun _ _ _ h => h) rfl (fun W1 hW1 => rfl) (KpS.refl _ _ _) ?_
          simp only [Act.put, List.setIfInBounds_toArray, List.set_cons_zero, List.set_cons_succ]
          refine held_take (i := 6) (v := .pointer (some ⟨g2, off2 + k * 5, none⟩)) rfl (by kernel_rfl) (by kernel_rfl) (by kernel_rfl) (fun _ _ _ h => h) rfl (fun W1 hW1 => by go_simp) (KpS.refl _ _ _) ?_
          simp only [Act.put, List.setIfInBounds_toArray, List.set_cons_zero, List.set_cons_succ]
          refine held_take (i := 7) (v := ptV y) rfl (by kernel_rfl) (by kernel_rfl) (by kernel_rfl) (fun _ _ _ h => h) rfl (fun W1 hW1 => exec_load _ _ _ _ rfl rfl (loadPt_run W1 g2 (off2 + k * 5) y (cY W1 hW1))) (KpS.refl _ _ _) ?_
          simp only [Act.put, List.setIfInBounds_toArray, List.set_cons_zero, List.set_cons_succ]
          refine held_take (i := 8) (v := .bool false) rfl (by kernel_rfl) (by kernel_rfl) (by kernel_rfl) (fun _ _ _ h => h) rfl (fun W1 hW1 => (exec_neqPts _ _ _ x y rfl rfl rfl).trans (by rw [HE.out]; rfl)) (KpS.refl _ _ _) ?_
          simp only [Act.put, List.setIfInBounds_toArray, List.set_cons_zero, List.set_cons_succ]
          refine wpAnyH_done (by kernel_rfl) ?_ _
          clear cX cY
          go_wp2_with fail
          go_roundw
          case rel =>
            refine ⟨k + 1, by go_num, by omega, fun j h1 h2 hj => ?_, HK.out.drew⟩
            by_cases e : j = k
            · subst e
              rw [← HXE.out, ← HYE.out]; exact eqP_is.1 HE.out
            · exact HALL.out j h1 h2 (by omega)
          case measure => simp [intOf]; omega
        | false =>
          have HE := hid he
          clear he
          go_wp2_with fail
          refine wp_region_any (by kernel_rfl) (wpAny_of_held (S := KpS [] wr.heap.size wr.drew) _ _ _ _ ?_)
          change wpAnyH _ _ _ _ _ _ _ _ wr.drew
          have cX : ∀ W1, KpS [] wr.heap.size wr.drew W1 → W1.rangeAt g (off + k * 5) x.cells := fun W1 h j v hv => h.cell (by rw [World.cell?_drew]; exact HR1.out j v hv) HG.out.1 (by simp)
          have cY : ∀ W1, KpS [] wr.heap.size wr.drew W1 → W1.rangeAt g2 (off2 + k * 5) y.cells := fun W1 h j v hv => h.cell (by rw [World.cell?_drew]; exact HR2.out j v hv) HG.out.2 (by simp)
          refine held_take (i := 0) (v := .slice (some ⟨g, off, none⟩) xs.length c) rfl (by kernel_rfl) (by kernel_rfl) (by kernel_rfl) (fun _ _ _ h => h) rfl (fun W1 hW1 => rfl) (KpS.refl _ _ _) ?_
          simp only [Act.put, List.setIfInBounds_toArray, List.set_cons_zero, List.set_cons_succ]
          refine held_take (i := 1) (v := .int .i64 (k : Int)) rfl (by kernel_rfl) (by kernel_rfl) (by kernel_rfl) (fun _ _ _ h => h) rfl (fun W1 hW1 => rfl) (KpS.refl _ _ _) ?_
          simp only [Act.put, List.setIfInBounds_toArray, List.set_cons_zero, List.set_cons_succ]
          refine held_take (i := 2) (v := .pointer (some ⟨g, off + k * 5, none⟩)) rfl (by kernel_rfl) (by kernel_rfl) (by kernel_rfl) (fun _ _ _ h => h) rfl (fun W1 hW1 => by go_simp) (KpS.refl _ _ _) ?_
          simp only [Act.put, List.setIfInBounds_toArray, List.set_cons_zero, List.set_cons_succ]
          refine held_take (i := 3) (v := ptV x) rfl (by kernel_rfl) (by kernel_rfl) (by kernel_rfl) (fun _ _ _ h => h) rfl (fun W1 hW1 => exec_load _ _ _ _ rfl rfl (loadPt_run W1 g (off + k * 5) x (cX W1 hW1))) (KpS.refl _ _ _) ?_
          simp only [Act.put, List.setIfInBounds_toArray, List.set_cons_zero, List.set_cons_succ]
          refine held_take (i := 4) (v := .slice (some ⟨g2, off2, none⟩) ys.length d) rfl (by kernel_rfl) (by kernel_rfl) (by kernel_rfl) (fun _ _ _ h => h) rfl (fun W1 hW1 => rfl) (KpS.refl _ _ _) ?_
          simp only [Act.put, List.setIfInBounds_toArray, List.set_cons_zero, List.set_cons_succ]
          refine held_take (i := 5) (v := .int .i64 (k : Int)) rfl (by kernel_rfl) (by kernel_rfl) (by kernel_rfl) (fun _ _ _ h => h) rfl (fun W1 hW1 => rfl) (KpS.refl _ _ _) ?_
          simp only [Act.put, List.setIfInBounds_toArray, List.set_cons_zero, List.set_cons_succ]
          refine held_take (i := 6) (v := .pointer (some ⟨g2, off2 + k * 5, none⟩)) rfl (by kernel_rfl) (by kernel_rfl) (by kernel_rfl) (fun _ _ _ h => h) rfl (fun W1 hW1 => by go_simp) (KpS.refl _ _ _) ?_
          simp only [Act.put, List.setIfInBounds_toArray, List.set_cons_zero, List.set_cons_succ]
          refine held_take (i := 7) (v := ptV y) rfl (by kernel_rfl) (by kernel_rfl) (by kernel_rfl) (fun _ _ _ h => h) rfl (fun W1 hW1 => exec_load _ _ _ _ rfl rfl (loadPt_run W1 g2 (off2 + k * 5) y (cY W1 hW1))) (KpS.refl _ _ _) ?_
          simp only [Act.put, List.setIfInBounds_toArray, List.set_cons_zero, List.set_cons_succ]
          refine held_take (i := 8) (v := .bool true) rfl (by kernel_rfl) (by kernel_rfl) (by kernel_rfl) (fun _ _ _ h => h) rfl (fun W1 hW1 => (exec_neqPts _ _ _ x y rfl rfl rfl).trans (by rw [HE.out]; rfl)) (KpS.refl _ _ _) ?_
          simp only [Act.put, List.setIfInBounds_toArray, List.set_cons_zero, List.set_cons_succ]
          refine wpAnyH_done (by kernel_rfl) ?_ _
          clear cX cY
          go_wp2_with fail
          go_ret
          refine ⟨?_, HK.out.drew⟩
          have : eqL xs ys = false := by
            unfold eqL
            refine decide_eq_false fun e => ?_
            have h1 := HXE.out
            have h2 := HYE.out
            subst e
            rw [← h2] at h1
            have h3 := HE.out
            rw [h1] at h3
            have := eqP_is.2 (rfl : y = y)
            rw [this] at h3
            cases h3
          rw [this]
          rfl
      · obtain rfl : k = xs.length := by omega
        go_wp2_with fail
        go_ret
        have : eqL xs ys = true := decide_eq_true (list_eq_at HN.out (fun j h1 h2 => HALL.out j h1 h2 h1))
        rw [this]
        exact ⟨rfl, HK.out⟩
  · have hn' : ((xs.length : Int) != ys.length) = true := by simp; omega
    have : eqL xs ys = false := decide_eq_false (fun e => hn (by rw [e]))
    have HE := hid this
    clear hn this
    go_enter Try.func44, Try.ntmps44
    go_wp2_with fail
    go_ret
    rw [HE.out]
    exact ⟨rfl, Keeps.refl _ _⟩

end Go.Proofs.Ytamcllcjondcpaa
