/- blocks: the walk of the law BlocksGone. -/
import Derived.Test.YtdfhoanilbfkiaaBkO
namespace Go.Proofs.Ytdfhoanilbfkiaa
open Go.RowKit Go.Shelf
set_option maxRecDepth 100000
set_option linter.unusedSimpArgs false

theorem goneS_mem {has l : List Pt} {x y : Pt} : y ∈ goneS has l x ↔ y ∈ l ∨ (y = x ∧ zB x = false ∧ x ∉ has) := by
  unfold goneS
  cases hz : zB x with
  | true => simp
  | false =>
    cases hh : hasP has x with
    | true =>
      have := hasP_is.1 hh
      simp [this]
    | false =>
      have hn : x ∉ has := fun h => by rw [hasP_is.2 h] at hh; cases hh
      cases hl : hasP l x with
      | true =>
        have := hasP_is.1 hl
        simp only [Bool.not_false, Bool.and_self, Bool.not_true, Bool.and_false, Bool.false_eq_true, if_false]
        constructor
        · exact Or.inl
        · rintro (h | ⟨rfl, _⟩)
          · exact h
          · exact this
      | false =>
        simp only [Bool.not_false, Bool.and_self, if_true, List.mem_append, List.mem_singleton]
        constructor
        · rintro (h | h)
          · exact Or.inl h
          · exact Or.inr ⟨h, trivial, hn⟩
        · rintro (h | ⟨h, _⟩)
          · exact Or.inl h
          · exact Or.inr h
theorem mem_goneL {had has : List Pt} {y : Pt} : y ∈ goneL had has ↔ y ∈ had ∧ zB y = false ∧ y ∉ has := by
  have : ∀ (xs l : List Pt), y ∈ xs.foldl (goneS has) l ↔ y ∈ l ∨ (y ∈ xs ∧ zB y = false ∧ y ∉ has) := by
    intro xs
    induction xs with
    | nil => intro l; simp
    | cons x xs ih =>
      intro l
      rw [List.foldl_cons, ih, goneS_mem]
      simp only [List.mem_cons]
      constructor
      · rintro ((h | ⟨rfl, h1, h2⟩) | ⟨h, h1, h2⟩)
        · exact Or.inl h
        · exact Or.inr ⟨Or.inl rfl, h1, h2⟩
        · exact Or.inr ⟨Or.inr h, h1, h2⟩
      · rintro (h | ⟨rfl | h, h1, h2⟩)
        · exact Or.inl (Or.inl h)
        · exact Or.inl (Or.inr ⟨rfl, h1, h2⟩)
        · exact Or.inr ⟨h, h1, h2⟩
  simpa [goneL] using this had []
theorem goneL_nodup (had has : List Pt) : (goneL had has).Nodup := by
  have : ∀ (xs l : List Pt), l.Nodup → (xs.foldl (goneS has) l).Nodup := by
    intro xs
    induction xs with
    | nil => intro l h; simpa using h
    | cons x xs ih =>
      intro l h
      rw [List.foldl_cons]
      refine ih _ ?_
      unfold goneS
      split
      · rename_i hc
        simp only [Bool.and_eq_true, Bool.not_eq_true'] at hc
        have hx : x ∉ l := fun hm => by rw [hasP_is.2 hm] at hc; exact absurd hc.2 (by simp)
        rw [List.nodup_append]
        refine ⟨h, by simp, fun a ha b hb => ?_⟩
        simp only [List.mem_singleton] at hb
        subst hb
        intro e
        subst e
        exact hx ha
      · exact h
  exact this had [] List.nodup_nil
theorem mem_keep {L : List Pt} {x : Pt} : x ∈ L.filter keepZ ↔ x ∈ L ∧ zB x = false := by
  rw [List.mem_filter]
  unfold keepZ
  cases zB x <;> simp
theorem hasP_not {l : List Pt} {x : Pt} (h : x ∉ l) : hasP l x = false := by
  cases hq : hasP l x with
  | false => rfl
  | true => exact absurd (hasP_is.1 hq) h
/-- Of each pointer that was there: it is there still, or it is told to be gone. -/
theorem gone_was (s : Bk) (d : Dl) {x : Pt} (h : x ∈ s.L.filter keepZ) : hasP (goneD s d) x = !hasP ((stepD s d).L.filter keepZ) x := by
  obtain ⟨h1, h2⟩ := mem_keep.1 h
  unfold goneD stepD
  cases hm : mayD s d with
  | false =>
    rw [if_neg (by simp), if_neg (by simp), hasP_is.2 h]
    rfl
  | true =>
    rw [if_pos rfl, if_pos rfl]
    by_cases hx : x ∈ (doD s d).L
    · rw [hasP_is.2 (mem_keep.2 ⟨hx, h2⟩), hasP_not (fun hg => (mem_goneL.1 hg).2.2 hx)]
      rfl
    · rw [hasP_not (fun hk => hx (mem_keep.1 hk).1), hasP_is.2 (mem_goneL.2 ⟨h1, h2, hx⟩)]
      rfl
theorem gone_in (s : Bk) (d : Dl) {x : Pt} (h : x ∈ goneD s d) : x ∈ s.L.filter keepZ := by
  unfold goneD at h
  split at h
  · exact mem_keep.2 ⟨(mem_goneL.1 h).1, (mem_goneL.1 h).2.1⟩
  · simp at h
theorem gone_once (s : Bk) (d : Dl) : (goneD s d).Nodup := by
  unfold goneD
  split
  · exact goneL_nodup _ _
  · exact List.nodup_nil
theorem goneD_le (s : Bk) (d : Dl) (h : GoodB s) : (goneD s d).length ≤ 64 := by
  unfold goneD
  split
  · exact Nat.le_trans (goneL_le _ _) h.few
  · simp
theorem not_take {l : List Pt} (h : l.Nodup) (k : Nat) (hk : k < l.length) : l[k] ∉ l.take k := by
  intro hm
  obtain ⟨j, hj, e⟩ := List.mem_iff_getElem.1 hm
  rw [List.length_take] at hj
  rw [List.getElem_take] at e
  exact List.pairwise_iff_getElem.1 h j k (by omega) hk (by omega) e
theorem PtsAt.take {w : World} {M : List Nat} {a : Option Addr} {n c : Nat} {ps : List Pt} (h : PtsAt w M (.slice a n c) ps) (k : Nat) (hk : k ≤ ps.length) : PtsAt w M (.slice a k c) (ps.take k) := by
  obtain ⟨a', cap, hv, h1, h2, h0, h4⟩ := h
  injection hv with e1 e2 e3
  subst e1; subst e2; subst e3
  have hlen : (ps.take k).length = k := by rw [List.length_take]; omega
  refine ⟨a, c, by rw [hlen], by rw [hlen]; omega, h2, h0, fun ad had => ?_⟩
  obtain ⟨g, off, rfl, hg, hM, hr⟩ := h4 ad had
  refine ⟨g, off, rfl, hg, hM, fun j u hu => hr j u ?_⟩
  rw [pcells_take, List.getElem?_take] at hu
  split at hu
  · exact hu
  · cases hu
theorem filterK_le (s : Bk) (h : GoodB s) : (s.L.filter keepZ).length ≤ 64 := Nat.le_trans (filterZ_le _) h.few

set_option maxHeartbeats 12800000 in
theorem m11Gone_any (w : World) (v : Value) (ds : List Dl) (hv : DlsAt w v ds) : Calls Try.prog 7 #[v] w fun e w' => e = .returned (.bool true) ∧ Keeps [] w w' := by
  have HV := hid hv
  obtain ⟨a, c, rfl⟩ := hv.shape
  clear hv
  by_cases hl : 100 < ds.length
  · have hl' : decide ((100 : Int) < ds.length) = true := by simp; omega
    go_enter Try.func7, Try.ntmps7
    go_wp2_with fail
    refine (bkAwake_any w).mono ?_
    rintro e w1 ⟨rfl, k1⟩
    have K1 := hid k1
    clear k1
    go_wp2_with fail
    go_ret
    exact ⟨rfl, K1.out⟩
  have hl' : decide ((100 : Int) < ds.length) = false := by simp; omega
  have HL := hid hl
  clear hl
  go_enter Try.func7, Try.ntmps7
  go_wp2_with fail
  refine (bkAwake_any w).mono ?_
  rintro e w1 ⟨rfl, k1⟩
  have K1 := hid k1
  clear k1
  have B0 := hid (bk_new w1 [])
  have K0 : Hid (Keeps [] w1 (w1.alloc (.cells #[.bool true, .int .i64 0, .slice none 0 0] 66))) := hid ((Keeps.refl [] w1).alloc _)
  have N := hid (zNew_any w1)
  go_wp2_with fail
  clear hl'
  refine N.out.mono ?_
  rintro e w2 ⟨rfl, hw⟩
  rw [← hw] at B0 K0
  clear hw N
  obtain ⟨m, hm⟩ : ∃ m, m = w1.heap.size := ⟨_, rfl⟩
  have K2 := hid (K1.out.trans K0.out)
  have HWM := hid (show w.heap.size ≤ m by rw [hm]; exact K1.out.size)
  rw [← hm] at B0 ⊢
  clear hm K0 K1
  go_wp2_with fail
  go_loopw [4] (fun iv wr => ∃ (k : Nat) (s : Bk), iv = .int .i64 k ∧ k ≤ ds.length ∧ BkAt wr [m] m s ∧ Keeps [] w wr) (fun iv _ => ds.length - (intOf iv).toNat)
  case atStart => exact ⟨0, bk0, rfl, Nat.zero_le _, B0.out, K2.out⟩
  case round =>
    obtain ⟨k, s, rfl, hk, hb, hkp⟩ := hrel
    have B := hid hb
    have K := hid hkp
    clear hb hkp
    by_cases hlt : k < ds.length
    · have hk100 : k < 100 := by have := HL.out; omega
      obtain ⟨x, hx⟩ : ∃ x, x = ds[k] := ⟨_, rfl⟩
      have HX := hid hx
      clear hx
      go_wp2_with fail
      refine (zPtrs_any B.out (fun b hb => by simp at hb; rw [hb]; exact B.out.lt)).mono ?_
      rintro e wa ⟨a1, c1, rfl, o1, ka⟩
      obtain ⟨was, hwas⟩ : ∃ l, l = s.L.filter keepZ := ⟨_, rfl⟩
      rw [← hwas] at o1 ⊢
      have WAS := hid hwas
      have O1 := hid o1.at
      have BA := hid (B.out.later ka)
      have KA := hid (K.out.trans ka)
      obtain ⟨g, off, rfl, hg, hr⟩ := (HV.out.keep KA.out).at k hlt
      rw [← HX.out] at hr
      have R := hid hr
      clear o1 ka hg hr hwas
      go_wp2_with (first | (refine wpList_isW rfl _ _ (exec_load _ _ _ _ rfl rfl (loadDl_run _ g (off + k * 14) x R.out)) ?_) | fail)
      have A1 := apply_new (w := w) KA.out BA.out (fun b hb => by simp at hb; rw [hb]; exact BA.out.lt) HWM.out x
      refine A1.mono ?_
      rintro e wb ⟨a2, c2, rfl, o2, b2, k2, z2, q2⟩
      obtain ⟨gone, hgone⟩ : ∃ l, l = goneD s x := ⟨_, rfl⟩
      rw [← hgone] at o2 ⊢
      have GONE := hid hgone
      have BB := hid b2
      have KB := hid k2
      have O1b := hid (O1.out.keep q2 (by simp))
      have O2 := hid o2.at
      clear A1 o2 b2 k2 z2 q2 hgone
      go_wp2_with fail
      refine (zPtrs_any BB.out (fun b hb => by simp at hb; rw [hb]; exact BB.out.lt)).mono ?_
      rintro e wc ⟨a3, c3, rfl, o3, kc⟩
      obtain ⟨now, hnow⟩ : ∃ l, l = (stepD s x).L.filter keepZ := ⟨_, rfl⟩
      rw [← hnow] at o3 ⊢
      have NOW := hid hnow
      have O3 := hid o3.at
      have BC := hid (BB.out.later kc)
      have KC := hid (KB.out.trans kc)
      have O1c := hid (O1b.out.later kc)
      have O2c := hid (O2.out.later kc)
      have L1 := hid (show was.length ≤ 64 by rw [WAS.out]; exact filterK_le _ B.out.good)
      have L2 := hid (show gone.length ≤ 64 by rw [GONE.out]; exact goneD_le _ _ B.out.good)
      have L3 := hid (show now.length ≤ 64 by rw [NOW.out]; exact filterK_le _ BB.out.good)
      have HGW := hid (show ∀ y ∈ was, hasP gone y = !hasP now y by rw [WAS.out, GONE.out, NOW.out]; exact fun y hy => gone_was s x hy)
      have HGI := hid (show ∀ y ∈ gone, y ∈ was by rw [WAS.out, GONE.out]; exact fun y hy => gone_in s x hy)
      have HGO := hid (show gone.Nodup by rw [GONE.out]; exact gone_once s x)
      have HNO := hid (show mayD s x = false → gone.length = 0 ∧ was = now by
        intro h
        rw [WAS.out, NOW.out, GONE.out]
        unfold goneD stepD
        rw [h]
        exact ⟨rfl, rfl⟩)
      clear o3 kc hnow O1 O1b O2 BB KB R BA KA
      have AFTER : Hid (Keeps [] wc wc) := hid (Keeps.refl _ _)
      cases hm : mayD s x with
      | true =>
        clear hm
        go_wp2_with fail
        have KD := AFTER
        go_loopw [9] (fun jv wr => ∃ j : Nat, jv = .int .i64 j ∧ j ≤ was.length ∧ Keeps [] wc wr) (fun jv _ => was.length - (intOf jv).toNat)
        case atStart => exact ⟨0, rfl, Nat.zero_le _, KD.out⟩
        case round =>
          obtain ⟨j, rfl, hj, hkj⟩ := hrel
          have KJ := hid hkj
          clear hkj
          by_cases hjl : j < was.length
          · have hj64 : j < 64 := by have := L1.out; omega
            obtain ⟨y, hy⟩ : ∃ y, y = was[j] := ⟨_, rfl⟩
            have HGY := hid (HGW.out y (by rw [hy]; exact List.getElem_mem _))
            obtain ⟨g1, off1, e1, _, hcap1, hg1, hgM1, hr1⟩ := (O1c.out.later KJ.out).open (by omega)
            have R0 := range_pt hr1 j hjl
            rw [← hy] at R0
            have RJ := hid R0
            have HG1 := hid hg1
            subst e1
            clear hr1 R0 hy hcap1 hg1 hgM1
            cases hb : hasP now y with
            | true =>
              rw [hb] at HGY
              have HB := hid hb
              clear hb
              go_wp2_with fail
              refine wp_region_any (by kernel_rfl) (wpAny_of_held (S := KpS [] wr.heap.size wr.drew) _ _ _ _ ?_)
              change wpAnyH _ _ _ _ _ _ _ _ wr.drew
              have s0 : KpS [] wr.heap.size wr.drew wr.drew := KpS.refl _ _ _
              have cX : ∀ W1, KpS [] wr.heap.size wr.drew W1 → W1.rangeAt g1 (off1 + j * 5) y.cells := fun W1 h i v hv => h.cell (by rw [World.cell?_drew]; exact RJ.out i v hv) HG1.out (by simp)
              refine held_take (i := 0) (v := .slice a3 now.length c3) rfl (by kernel_rfl) (by kernel_rfl) (by kernel_rfl) (fun _ _ _ h => h) rfl (fun W1 hW1 => rfl) (KpS.refl _ _ _) ?_
              simp only [Act.put, List.setIfInBounds_toArray, List.set_cons_zero, List.set_cons_succ]
              refine held_take (i := 1) (v := .slice (some ⟨g1, off1, none⟩) was.length c1) rfl (by kernel_rfl) (by kernel_rfl) (by kernel_rfl) (fun _ _ _ h => h) rfl (fun W1 hW1 => rfl) (KpS.refl _ _ _) ?_
              simp only [Act.put, List.setIfInBounds_toArray, List.set_cons_zero, List.set_cons_succ]
              refine held_take (i := 2) (v := .int .i64 (j : Int)) rfl (by kernel_rfl) (by kernel_rfl) (by kernel_rfl) (fun _ _ _ h => h) rfl (fun W1 hW1 => rfl) (KpS.refl _ _ _) ?_
              simp only [Act.put, List.setIfInBounds_toArray, List.set_cons_zero, List.set_cons_succ]
              refine held_take (i := 3) (v := .pointer (some ⟨g1, off1 + j * 5, none⟩)) rfl (by kernel_rfl) (by kernel_rfl) (by kernel_rfl) (fun _ _ _ h => h) rfl (fun W1 hW1 => by go_simp) (KpS.refl _ _ _) ?_
              simp only [Act.put, List.setIfInBounds_toArray, List.set_cons_zero, List.set_cons_succ]
              refine held_take (i := 4) (v := ptV y) rfl (by kernel_rfl) (by kernel_rfl) (by kernel_rfl) (fun _ _ _ h => h) rfl (fun W1 hW1 => exec_load _ _ _ _ rfl rfl (loadPt_run W1 g1 (off1 + j * 5) y (cX W1 hW1))) (KpS.refl _ _ _) ?_
              simp only [Act.put, List.setIfInBounds_toArray, List.set_cons_zero, List.set_cons_succ]
              refine held_take (i := 6) (v := .slice a2 gone.length c2) rfl (by kernel_rfl) (by kernel_rfl) (by kernel_rfl) (fun _ _ _ h => h) rfl (fun W1 hW1 => rfl) (KpS.refl _ _ _) ?_
              simp only [Act.put, List.setIfInBounds_toArray, List.set_cons_zero, List.set_cons_succ]
              refine held_take (i := 7) (v := .slice (some ⟨g1, off1, none⟩) was.length c1) rfl (by kernel_rfl) (by kernel_rfl) (by kernel_rfl) (fun _ _ _ h => h) rfl (fun W1 hW1 => rfl) (KpS.refl _ _ _) ?_
              simp only [Act.put, List.setIfInBounds_toArray, List.set_cons_zero, List.set_cons_succ]
              refine held_take (i := 8) (v := .int .i64 (j : Int)) rfl (by kernel_rfl) (by kernel_rfl) (by kernel_rfl) (fun _ _ _ h => h) rfl (fun W1 hW1 => rfl) (KpS.refl _ _ _) ?_
              simp only [Act.put, List.setIfInBounds_toArray, List.set_cons_zero, List.set_cons_succ]
              refine held_take (i := 9) (v := .pointer (some ⟨g1, off1 + j * 5, none⟩)) rfl (by kernel_rfl) (by kernel_rfl) (by kernel_rfl) (fun _ _ _ h => h) rfl (fun W1 hW1 => by go_simp) (KpS.refl _ _ _) ?_
              simp only [Act.put, List.setIfInBounds_toArray, List.set_cons_zero, List.set_cons_succ]
              refine held_take (i := 10) (v := ptV y) rfl (by kernel_rfl) (by kernel_rfl) (by kernel_rfl) (fun _ _ _ h => h) rfl (fun W1 hW1 => exec_load _ _ _ _ rfl rfl (loadPt_run W1 g1 (off1 + j * 5) y (cX W1 hW1))) (KpS.refl _ _ _) ?_
              simp only [Act.put, List.setIfInBounds_toArray, List.set_cons_zero, List.set_cons_succ]
              refine held_do (i := 5) (by kernel_rfl) rfl rfl (wp_enter (f := 30) (args := #[.slice a3 now.length c3, ptV y]) (by go_simp) (lIn_any wr.drew [m] _ now (O3.out.later KJ.out.drew) (by have := L3.out; omega) y) ?_)
              rintro e wx ⟨rfl, kx⟩
              have s1 : KpS [] wr.heap.size wr.drew wx := s0.keeps kx s0.size (by simp)
              rw [HB.out]
              refine ⟨_, rfl, s1, ?_⟩
              simp only [Act.put, List.setIfInBounds_toArray, List.set_cons_zero, List.set_cons_succ]
              refine held_do (i := 11) (by kernel_rfl) rfl rfl (wp_enter (f := 30) (args := #[.slice a2 gone.length c2, ptV y]) (by go_simp) (lIn_any wx [m] _ gone (O2c.out.later (KJ.out.drew.trans kx)) (by have := L2.out; omega) y) ?_)
              rintro e wy ⟨rfl, ky⟩
              have s2 : KpS [] wr.heap.size wr.drew wy := s1.keeps ky s1.size (by simp)
              rw [HGY.out]
              refine ⟨_, rfl, s2, ?_⟩
              simp only [Act.put, List.setIfInBounds_toArray, List.set_cons_zero, List.set_cons_succ]
              refine held_take (i := 12) (v := .bool false) rfl (by kernel_rfl) (by kernel_rfl) (by kernel_rfl) (fun _ _ _ h => h) rfl (fun W1 hW1 => by go_simp) (s2) ?_
              simp only [Act.put, List.setIfInBounds_toArray, List.set_cons_zero, List.set_cons_succ]
              refine wpAnyH_done (by kernel_rfl) ?_ _
              have KY := hid ((KJ.out.drew.trans kx).trans ky)
              clear cX s0 s1 s2 kx ky
              go_wp2_with fail
              go_roundw
              case rel => exact ⟨j + 1, by go_num, by omega, KY.out⟩
              case measure => simp [intOf]; omega
            | false =>
              rw [hb] at HGY
              have HB := hid hb
              clear hb
              go_wp2_with fail
              refine wp_region_any (by kernel_rfl) (wpAny_of_held (S := KpS [] wr.heap.size wr.drew) _ _ _ _ ?_)
              change wpAnyH _ _ _ _ _ _ _ _ wr.drew
              have s0 : KpS [] wr.heap.size wr.drew wr.drew := KpS.refl _ _ _
              have cX : ∀ W1, KpS [] wr.heap.size wr.drew W1 → W1.rangeAt g1 (off1 + j * 5) y.cells := fun W1 h i v hv => h.cell (by rw [World.cell?_drew]; exact RJ.out i v hv) HG1.out (by simp)
              refine held_take (i := 0) (v := .slice a3 now.length c3) rfl (by kernel_rfl) (by kernel_rfl) (by kernel_rfl) (fun _ _ _ h => h) rfl (fun W1 hW1 => rfl) (KpS.refl _ _ _) ?_
              simp only [Act.put, List.setIfInBounds_toArray, List.set_cons_zero, List.set_cons_succ]
              refine held_take (i := 1) (v := .slice (some ⟨g1, off1, none⟩) was.length c1) rfl (by kernel_rfl) (by kernel_rfl) (by kernel_rfl) (fun _ _ _ h => h) rfl (fun W1 hW1 => rfl) (KpS.refl _ _ _) ?_
              simp only [Act.put, List.setIfInBounds_toArray, List.set_cons_zero, List.set_cons_succ]
              refine held_take (i := 2) (v := .int .i64 (j : Int)) rfl (by kernel_rfl) (by kernel_rfl) (by kernel_rfl) (fun _ _ _ h => h) rfl (fun W1 hW1 => rfl) (KpS.refl _ _ _) ?_
              simp only [Act.put, List.setIfInBounds_toArray, List.set_cons_zero, List.set_cons_succ]
              refine held_take (i := 3) (v := .pointer (some ⟨g1, off1 + j * 5, none⟩)) rfl (by kernel_rfl) (by kernel_rfl) (by kernel_rfl) (fun _ _ _ h => h) rfl (fun W1 hW1 => by go_simp) (KpS.refl _ _ _) ?_
              simp only [Act.put, List.setIfInBounds_toArray, List.set_cons_zero, List.set_cons_succ]
              refine held_take (i := 4) (v := ptV y) rfl (by kernel_rfl) (by kernel_rfl) (by kernel_rfl) (fun _ _ _ h => h) rfl (fun W1 hW1 => exec_load _ _ _ _ rfl rfl (loadPt_run W1 g1 (off1 + j * 5) y (cX W1 hW1))) (KpS.refl _ _ _) ?_
              simp only [Act.put, List.setIfInBounds_toArray, List.set_cons_zero, List.set_cons_succ]
              refine held_take (i := 6) (v := .slice a2 gone.length c2) rfl (by kernel_rfl) (by kernel_rfl) (by kernel_rfl) (fun _ _ _ h => h) rfl (fun W1 hW1 => rfl) (KpS.refl _ _ _) ?_
              simp only [Act.put, List.setIfInBounds_toArray, List.set_cons_zero, List.set_cons_succ]
              refine held_take (i := 7) (v := .slice (some ⟨g1, off1, none⟩) was.length c1) rfl (by kernel_rfl) (by kernel_rfl) (by kernel_rfl) (fun _ _ _ h => h) rfl (fun W1 hW1 => rfl) (KpS.refl _ _ _) ?_
              simp only [Act.put, List.setIfInBounds_toArray, List.set_cons_zero, List.set_cons_succ]
              refine held_take (i := 8) (v := .int .i64 (j : Int)) rfl (by kernel_rfl) (by kernel_rfl) (by kernel_rfl) (fun _ _ _ h => h) rfl (fun W1 hW1 => rfl) (KpS.refl _ _ _) ?_
              simp only [Act.put, List.setIfInBounds_toArray, List.set_cons_zero, List.set_cons_succ]
              refine held_take (i := 9) (v := .pointer (some ⟨g1, off1 + j * 5, none⟩)) rfl (by kernel_rfl) (by kernel_rfl) (by kernel_rfl) (fun _ _ _ h => h) rfl (fun W1 hW1 => by go_simp) (KpS.refl _ _ _) ?_
              simp only [Act.put, List.setIfInBounds_toArray, List.set_cons_zero, List.set_cons_succ]
              refine held_take (i := 10) (v := ptV y) rfl (by kernel_rfl) (by kernel_rfl) (by kernel_rfl) (fun _ _ _ h => h) rfl (fun W1 hW1 => exec_load _ _ _ _ rfl rfl (loadPt_run W1 g1 (off1 + j * 5) y (cX W1 hW1))) (KpS.refl _ _ _) ?_
              simp only [Act.put, List.setIfInBounds_toArray, List.set_cons_zero, List.set_cons_succ]
              refine held_do (i := 5) (by kernel_rfl) rfl rfl (wp_enter (f := 30) (args := #[.slice a3 now.length c3, ptV y]) (by go_simp) (lIn_any wr.drew [m] _ now (O3.out.later KJ.out.drew) (by have := L3.out; omega) y) ?_)
              rintro e wx ⟨rfl, kx⟩
              have s1 : KpS [] wr.heap.size wr.drew wx := s0.keeps kx s0.size (by simp)
              rw [HB.out]
              refine ⟨_, rfl, s1, ?_⟩
              simp only [Act.put, List.setIfInBounds_toArray, List.set_cons_zero, List.set_cons_succ]
              refine held_do (i := 11) (by kernel_rfl) rfl rfl (wp_enter (f := 30) (args := #[.slice a2 gone.length c2, ptV y]) (by go_simp) (lIn_any wx [m] _ gone (O2c.out.later (KJ.out.drew.trans kx)) (by have := L2.out; omega) y) ?_)
              rintro e wy ⟨rfl, ky⟩
              have s2 : KpS [] wr.heap.size wr.drew wy := s1.keeps ky s1.size (by simp)
              rw [HGY.out]
              refine ⟨_, rfl, s2, ?_⟩
              simp only [Act.put, List.setIfInBounds_toArray, List.set_cons_zero, List.set_cons_succ]
              refine held_take (i := 12) (v := .bool false) rfl (by kernel_rfl) (by kernel_rfl) (by kernel_rfl) (fun _ _ _ h => h) rfl (fun W1 hW1 => by go_simp) (s2) ?_
              simp only [Act.put, List.setIfInBounds_toArray, List.set_cons_zero, List.set_cons_succ]
              refine wpAnyH_done (by kernel_rfl) ?_ _
              have KY := hid ((KJ.out.drew.trans kx).trans ky)
              clear cX s0 s1 s2 kx ky
              go_wp2_with fail
              go_roundw
              case rel => exact ⟨j + 1, by go_num, by omega, KY.out⟩
              case measure => simp [intOf]; omega
          · obtain rfl : j = was.length := by omega
            clear hjl hj
            go_wp2_with fail
            go_loopw [10] (fun jv wr => ∃ j : Nat, jv = .int .i64 j ∧ j ≤ gone.length ∧ Keeps [] wc wr) (fun jv _ => gone.length - (intOf jv).toNat)
            case atStart => exact ⟨0, rfl, Nat.zero_le _, KJ.out⟩
            case round =>
              obtain ⟨j, rfl, hj, hkj⟩ := hrel
              have KI := hid hkj
              clear hkj
              by_cases hjl : j < gone.length
              · have hj64 : j < 64 := by have := L2.out; omega
                obtain ⟨y, hy⟩ : ∃ y, y = gone[j] := ⟨_, rfl⟩
                have H1 := hid (show hasP was y = true from hasP_is.2 (HGI.out y (by rw [hy]; exact List.getElem_mem _)))
                have H2 := hid (show hasP (gone.take j) y = false from hasP_not (by rw [hy]; exact not_take HGO.out j hjl))
                obtain ⟨g1, off1, e1, _, hcap1, hg1, hgM1, hr1⟩ := (O2c.out.later KI.out).open (by omega)
                have R0 := range_pt hr1 j hjl
                rw [← hy] at R0
                have RJ := hid R0
                have HG1 := hid hg1
                subst e1
                have CUT := hid (fun W => ptrs_hi (some ⟨g1, off1, none⟩) gone.length c2 j (by omega) W)
                clear hr1 R0 hy hcap1 hg1 hgM1
                go_wp2_with fail
                refine wp_region_any (by kernel_rfl) (wpAny_of_held (S := KpS [] wr.heap.size wr.drew) _ _ _ _ ?_)
                change wpAnyH _ _ _ _ _ _ _ _ wr.drew
                have s0 : KpS [] wr.heap.size wr.drew wr.drew := KpS.refl _ _ _
                have cX : ∀ W1, KpS [] wr.heap.size wr.drew W1 → W1.rangeAt g1 (off1 + j * 5) y.cells := fun W1 h i v hv => h.cell (by rw [World.cell?_drew]; exact RJ.out i v hv) HG1.out (by simp)
                refine held_take (i := 0) (v := .slice a1 was.length c1) rfl (by kernel_rfl) (by kernel_rfl) (by kernel_rfl) (fun _ _ _ h => h) rfl (fun W1 hW1 => rfl) (KpS.refl _ _ _) ?_
                simp only [Act.put, List.setIfInBounds_toArray, List.set_cons_zero, List.set_cons_succ]
                refine held_take (i := 1) (v := .slice (some ⟨g1, off1, none⟩) gone.length c2) rfl (by kernel_rfl) (by kernel_rfl) (by kernel_rfl) (fun _ _ _ h => h) rfl (fun W1 hW1 => rfl) (KpS.refl _ _ _) ?_
                simp only [Act.put, List.setIfInBounds_toArray, List.set_cons_zero, List.set_cons_succ]
                refine held_take (i := 2) (v := .int .i64 (j : Int)) rfl (by kernel_rfl) (by kernel_rfl) (by kernel_rfl) (fun _ _ _ h => h) rfl (fun W1 hW1 => rfl) (KpS.refl _ _ _) ?_
                simp only [Act.put, List.setIfInBounds_toArray, List.set_cons_zero, List.set_cons_succ]
                refine held_take (i := 3) (v := .pointer (some ⟨g1, off1 + j * 5, none⟩)) rfl (by kernel_rfl) (by kernel_rfl) (by kernel_rfl) (fun _ _ _ h => h) rfl (fun W1 hW1 => by go_simp) (KpS.refl _ _ _) ?_
                simp only [Act.put, List.setIfInBounds_toArray, List.set_cons_zero, List.set_cons_succ]
                refine held_take (i := 4) (v := ptV y) rfl (by kernel_rfl) (by kernel_rfl) (by kernel_rfl) (fun _ _ _ h => h) rfl (fun W1 hW1 => exec_load _ _ _ _ rfl rfl (loadPt_run W1 g1 (off1 + j * 5) y (cX W1 hW1))) (KpS.refl _ _ _) ?_
                simp only [Act.put, List.setIfInBounds_toArray, List.set_cons_zero, List.set_cons_succ]
                refine held_do (i := 5) (by kernel_rfl) rfl rfl (wp_enter (f := 30) (args := #[.slice a1 was.length c1, ptV y]) (by go_simp) (lIn_any wr.drew [m] _ was (O1c.out.later KI.out.drew) (by have := L1.out; omega) y) ?_)
                rintro e wx ⟨rfl, kx⟩
                have s1 : KpS [] wr.heap.size wr.drew wx := s0.keeps kx s0.size (by simp)
                rw [H1.out]
                refine ⟨_, rfl, s1, ?_⟩
                simp only [Act.put, List.setIfInBounds_toArray, List.set_cons_zero, List.set_cons_succ]
                refine held_take (i := 6) (v := .bool false) rfl (by kernel_rfl) (by kernel_rfl) (by kernel_rfl) (fun _ _ _ h => h) rfl (fun W1 hW1 => by go_simp) (s1) ?_
                simp only [Act.put, List.setIfInBounds_toArray, List.set_cons_zero, List.set_cons_succ]
                refine held_take (i := 7) (v := .bool false) rfl (by kernel_rfl) (by kernel_rfl) (by kernel_rfl) (fun _ _ _ h => h) rfl (fun W1 hW1 => rfl) (s1) ?_
                simp only [Act.put, List.setIfInBounds_toArray, List.set_cons_zero, List.set_cons_succ]
                refine held_takeW (i := 8) (v := .slice (some ⟨g1, off1, none⟩) gone.length c2) rfl (by kernel_rfl) (by kernel_rfl) (by kernel_rfl) (fun _ _ _ h => h) rfl (fun W1 hW1 => rfl) (s1) ?_
                simp only [Act.put, List.setIfInBounds_toArray, List.set_cons_zero, List.set_cons_succ]
                refine held_takeW (i := 9) (v := .int .i64 (j : Int)) rfl (by kernel_rfl) (by kernel_rfl) (by kernel_rfl) (fun _ _ _ h => h) rfl (fun W1 hW1 => rfl) (s1) ?_
                simp only [Act.put, List.setIfInBounds_toArray, List.set_cons_zero, List.set_cons_succ]
                refine held_takeW (i := 10) (v := .slice (some ⟨g1, off1, none⟩) j c2) rfl (by kernel_rfl) (by kernel_rfl) (by kernel_rfl) (fun _ _ _ h => h) rfl (fun W1 hW1 => exec_sliceR _ _ _ _ _ rfl (CUT.out W1)) (s1) ?_
                simp only [Act.put, List.setIfInBounds_toArray, List.set_cons_zero, List.set_cons_succ]
                refine held_takeW (i := 11) (v := .slice (some ⟨g1, off1, none⟩) gone.length c2) rfl (by kernel_rfl) (by kernel_rfl) (by kernel_rfl) (fun _ _ _ h => h) rfl (fun W1 hW1 => rfl) (s1) ?_
                simp only [Act.put, List.setIfInBounds_toArray, List.set_cons_zero, List.set_cons_succ]
                refine held_takeW (i := 12) (v := .int .i64 (j : Int)) rfl (by kernel_rfl) (by kernel_rfl) (by kernel_rfl) (fun _ _ _ h => h) rfl (fun W1 hW1 => rfl) (s1) ?_
                simp only [Act.put, List.setIfInBounds_toArray, List.set_cons_zero, List.set_cons_succ]
                refine held_takeW (i := 13) (v := .pointer (some ⟨g1, off1 + j * 5, none⟩)) rfl (by kernel_rfl) (by kernel_rfl) (by kernel_rfl) (fun _ _ _ h => h) rfl (fun W1 hW1 => by go_simp) (s1) ?_
                simp only [Act.put, List.setIfInBounds_toArray, List.set_cons_zero, List.set_cons_succ]
                refine held_takeW (i := 14) (v := ptV y) rfl (by kernel_rfl) (by kernel_rfl) (by kernel_rfl) (fun _ _ _ h => h) rfl (fun W1 hW1 => exec_load _ _ _ _ rfl rfl (loadPt_run W1 g1 (off1 + j * 5) y (cX W1 hW1))) (s1) ?_
                simp only [Act.put, List.setIfInBounds_toArray, List.set_cons_zero, List.set_cons_succ]
                refine held_doW (i := 15) (by kernel_rfl) rfl rfl (wp_enter (f := 30) (args := #[.slice (some ⟨g1, off1, none⟩) j c2, ptV y]) (by go_simp) (lIn_any wx [m] _ (gone.take j) ((O2c.out.later (KI.out.drew.trans kx)).take j (by omega)) (by have := L2.out; rw [List.length_take]; omega) y) ?_)
                rintro e wy ⟨rfl, ky⟩
                have s2 : KpS [] wr.heap.size wr.drew wy := s1.keeps ky s1.size (by simp)
                rw [H2.out]
                refine ⟨_, rfl, s2, ?_⟩
                simp only [Act.put, List.setIfInBounds_toArray, List.set_cons_zero, List.set_cons_succ]
                refine held_take (i := 16) (v := .bool false) rfl (by kernel_rfl) (by kernel_rfl) (by kernel_rfl) (fun _ _ _ h => h) rfl (fun W1 hW1 => by go_simp) (s2) ?_
                simp only [Act.put, List.setIfInBounds_toArray, List.set_cons_zero, List.set_cons_succ]
                refine wpAnyH_done (by kernel_rfl) ?_ _
                have KY := hid ((KI.out.drew.trans kx).trans ky)
                clear cX s0 s1 s2 kx ky
                go_wp2_with fail
                go_roundw
                case rel => exact ⟨j + 1, by go_num, by omega, KY.out⟩
                case measure => simp [intOf]; omega
              · obtain rfl : j = gone.length := by omega
                clear hjl hj
                go_wp2_with fail
                go_roundw
                case rel => exact ⟨k + 1, stepD s x, by go_num, by omega, BC.out.later KI.out, KC.out.trans KI.out⟩
                case measure => simp [intOf]; omega
      | false =>
        obtain ⟨n0, n1⟩ := HNO.out hm
        have n0' : decide ((0 : Int) < (gone.length : Int)) = false := decide_eq_false (by omega)
        have n0'' : decide (0 < gone.length) = false := decide_eq_false (by omega)
        have EQ := hid (show eqL was now = true from decide_eq_true n1)
        clear hm n0 n1
        go_wp2_with fail
        refine (lPtrs_any wc [m] [m] _ _ was now O1c.out O3.out (by have := L1.out; omega) (by have := L3.out; omega)).mono ?_
        rintro e wd ⟨rfl, kd⟩
        have KD := hid kd
        rw [EQ.out]
        clear kd n0' n0''
        go_wp2_with fail
        go_loopw [9] (fun jv wr => ∃ j : Nat, jv = .int .i64 j ∧ j ≤ was.length ∧ Keeps [] wc wr) (fun jv _ => was.length - (intOf jv).toNat)
        case atStart => exact ⟨0, rfl, Nat.zero_le _, KD.out⟩
        case round =>
          obtain ⟨j, rfl, hj, hkj⟩ := hrel
          have KJ := hid hkj
          clear hkj
          by_cases hjl : j < was.length
          · have hj64 : j < 64 := by have := L1.out; omega
            obtain ⟨y, hy⟩ : ∃ y, y = was[j] := ⟨_, rfl⟩
            have HGY := hid (HGW.out y (by rw [hy]; exact List.getElem_mem _))
            obtain ⟨g1, off1, e1, _, hcap1, hg1, hgM1, hr1⟩ := (O1c.out.later KJ.out).open (by omega)
            have R0 := range_pt hr1 j hjl
            rw [← hy] at R0
            have RJ := hid R0
            have HG1 := hid hg1
            subst e1
            clear hr1 R0 hy hcap1 hg1 hgM1
            cases hb : hasP now y with
            | true =>
              rw [hb] at HGY
              have HB := hid hb
              clear hb
              go_wp2_with fail
              refine wp_region_any (by kernel_rfl) (wpAny_of_held (S := KpS [] wr.heap.size wr.drew) _ _ _ _ ?_)
              change wpAnyH _ _ _ _ _ _ _ _ wr.drew
              have s0 : KpS [] wr.heap.size wr.drew wr.drew := KpS.refl _ _ _
              have cX : ∀ W1, KpS [] wr.heap.size wr.drew W1 → W1.rangeAt g1 (off1 + j * 5) y.cells := fun W1 h i v hv => h.cell (by rw [World.cell?_drew]; exact RJ.out i v hv) HG1.out (by simp)
              refine held_take (i := 0) (v := .slice a3 now.length c3) rfl (by kernel_rfl) (by kernel_rfl) (by kernel_rfl) (fun _ _ _ h => h) rfl (fun W1 hW1 => rfl) (KpS.refl _ _ _) ?_
              simp only [Act.put, List.setIfInBounds_toArray, List.set_cons_zero, List.set_cons_succ]
              refine held_take (i := 1) (v := .slice (some ⟨g1, off1, none⟩) was.length c1) rfl (by kernel_rfl) (by kernel_rfl) (by kernel_rfl) (fun _ _ _ h => h) rfl (fun W1 hW1 => rfl) (KpS.refl _ _ _) ?_
              simp only [Act.put, List.setIfInBounds_toArray, List.set_cons_zero, List.set_cons_succ]
              refine held_take (i := 2) (v := .int .i64 (j : Int)) rfl (by kernel_rfl) (by kernel_rfl) (by kernel_rfl) (fun _ _ _ h => h) rfl (fun W1 hW1 => rfl) (KpS.refl _ _ _) ?_
              simp only [Act.put, List.setIfInBounds_toArray, List.set_cons_zero, List.set_cons_succ]
              refine held_take (i := 3) (v := .pointer (some ⟨g1, off1 + j * 5, none⟩)) rfl (by kernel_rfl) (by kernel_rfl) (by kernel_rfl) (fun _ _ _ h => h) rfl (fun W1 hW1 => by go_simp) (KpS.refl _ _ _) ?_
              simp only [Act.put, List.setIfInBounds_toArray, List.set_cons_zero, List.set_cons_succ]
              refine held_take (i := 4) (v := ptV y) rfl (by kernel_rfl) (by kernel_rfl) (by kernel_rfl) (fun _ _ _ h => h) rfl (fun W1 hW1 => exec_load _ _ _ _ rfl rfl (loadPt_run W1 g1 (off1 + j * 5) y (cX W1 hW1))) (KpS.refl _ _ _) ?_
              simp only [Act.put, List.setIfInBounds_toArray, List.set_cons_zero, List.set_cons_succ]
              refine held_take (i := 6) (v := .slice a2 gone.length c2) rfl (by kernel_rfl) (by kernel_rfl) (by kernel_rfl) (fun _ _ _ h => h) rfl (fun W1 hW1 => rfl) (KpS.refl _ _ _) ?_
              simp only [Act.put, List.setIfInBounds_toArray, List.set_cons_zero, List.set_cons_succ]
              refine held_take (i := 7) (v := .slice (some ⟨g1, off1, none⟩) was.length c1) rfl (by kernel_rfl) (by kernel_rfl) (by kernel_rfl) (fun _ _ _ h => h) rfl (fun W1 hW1 => rfl) (KpS.refl _ _ _) ?_
              simp only [Act.put, List.setIfInBounds_toArray, List.set_cons_zero, List.set_cons_succ]
              refine held_take (i := 8) (v := .int .i64 (j : Int)) rfl (by kernel_rfl) (by kernel_rfl) (by kernel_rfl) (fun _ _ _ h => h) rfl (fun W1 hW1 => rfl) (KpS.refl _ _ _) ?_
              simp only [Act.put, List.setIfInBounds_toArray, List.set_cons_zero, List.set_cons_succ]
              refine held_take (i := 9) (v := .pointer (some ⟨g1, off1 + j * 5, none⟩)) rfl (by kernel_rfl) (by kernel_rfl) (by kernel_rfl) (fun _ _ _ h => h) rfl (fun W1 hW1 => by go_simp) (KpS.refl _ _ _) ?_
              simp only [Act.put, List.setIfInBounds_toArray, List.set_cons_zero, List.set_cons_succ]
              refine held_take (i := 10) (v := ptV y) rfl (by kernel_rfl) (by kernel_rfl) (by kernel_rfl) (fun _ _ _ h => h) rfl (fun W1 hW1 => exec_load _ _ _ _ rfl rfl (loadPt_run W1 g1 (off1 + j * 5) y (cX W1 hW1))) (KpS.refl _ _ _) ?_
              simp only [Act.put, List.setIfInBounds_toArray, List.set_cons_zero, List.set_cons_succ]
              refine held_do (i := 5) (by kernel_rfl) rfl rfl (wp_enter (f := 30) (args := #[.slice a3 now.length c3, ptV y]) (by go_simp) (lIn_any wr.drew [m] _ now (O3.out.later KJ.out.drew) (by have := L3.out; omega) y) ?_)
              rintro e wx ⟨rfl, kx⟩
              have s1 : KpS [] wr.heap.size wr.drew wx := s0.keeps kx s0.size (by simp)
              rw [HB.out]
              refine ⟨_, rfl, s1, ?_⟩
              simp only [Act.put, List.setIfInBounds_toArray, List.set_cons_zero, List.set_cons_succ]
              refine held_do (i := 11) (by kernel_rfl) rfl rfl (wp_enter (f := 30) (args := #[.slice a2 gone.length c2, ptV y]) (by go_simp) (lIn_any wx [m] _ gone (O2c.out.later (KJ.out.drew.trans kx)) (by have := L2.out; omega) y) ?_)
              rintro e wy ⟨rfl, ky⟩
              have s2 : KpS [] wr.heap.size wr.drew wy := s1.keeps ky s1.size (by simp)
              rw [HGY.out]
              refine ⟨_, rfl, s2, ?_⟩
              simp only [Act.put, List.setIfInBounds_toArray, List.set_cons_zero, List.set_cons_succ]
              refine held_take (i := 12) (v := .bool false) rfl (by kernel_rfl) (by kernel_rfl) (by kernel_rfl) (fun _ _ _ h => h) rfl (fun W1 hW1 => by go_simp) (s2) ?_
              simp only [Act.put, List.setIfInBounds_toArray, List.set_cons_zero, List.set_cons_succ]
              refine wpAnyH_done (by kernel_rfl) ?_ _
              have KY := hid ((KJ.out.drew.trans kx).trans ky)
              clear cX s0 s1 s2 kx ky
              go_wp2_with fail
              go_roundw
              case rel => exact ⟨j + 1, by go_num, by omega, KY.out⟩
              case measure => simp [intOf]; omega
            | false =>
              rw [hb] at HGY
              have HB := hid hb
              clear hb
              go_wp2_with fail
              refine wp_region_any (by kernel_rfl) (wpAny_of_held (S := KpS [] wr.heap.size wr.drew) _ _ _ _ ?_)
              change wpAnyH _ _ _ _ _ _ _ _ wr.drew
              have s0 : KpS [] wr.heap.size wr.drew wr.drew := KpS.refl _ _ _
              have cX : ∀ W1, KpS [] wr.heap.size wr.drew W1 → W1.rangeAt g1 (off1 + j * 5) y.cells := fun W1 h i v hv => h.cell (by rw [World.cell?_drew]; exact RJ.out i v hv) HG1.out (by simp)
              refine held_take (i := 0) (v := .slice a3 now.length c3) rfl (by kernel_rfl) (by kernel_rfl) (by kernel_rfl) (fun _ _ _ h => h) rfl (fun W1 hW1 => rfl) (KpS.refl _ _ _) ?_
              simp only [Act.put, List.setIfInBounds_toArray, List.set_cons_zero, List.set_cons_succ]
              refine held_take (i := 1) (v := .slice (some ⟨g1, off1, none⟩) was.length c1) rfl (by kernel_rfl) (by kernel_rfl) (by kernel_rfl) (fun _ _ _ h => h) rfl (fun W1 hW1 => rfl) (KpS.refl _ _ _) ?_
              simp only [Act.put, List.setIfInBounds_toArray, List.set_cons_zero, List.set_cons_succ]
              refine held_take (i := 2) (v := .int .i64 (j : Int)) rfl (by kernel_rfl) (by kernel_rfl) (by kernel_rfl) (fun _ _ _ h => h) rfl (fun W1 hW1 => rfl) (KpS.refl _ _ _) ?_
              simp only [Act.put, List.setIfInBounds_toArray, List.set_cons_zero, List.set_cons_succ]
              refine held_take (i := 3) (v := .pointer (some ⟨g1, off1 + j * 5, none⟩)) rfl (by kernel_rfl) (by kernel_rfl) (by kernel_rfl) (fun _ _ _ h => h) rfl (fun W1 hW1 => by go_simp) (KpS.refl _ _ _) ?_
              simp only [Act.put, List.setIfInBounds_toArray, List.set_cons_zero, List.set_cons_succ]
              refine held_take (i := 4) (v := ptV y) rfl (by kernel_rfl) (by kernel_rfl) (by kernel_rfl) (fun _ _ _ h => h) rfl (fun W1 hW1 => exec_load _ _ _ _ rfl rfl (loadPt_run W1 g1 (off1 + j * 5) y (cX W1 hW1))) (KpS.refl _ _ _) ?_
              simp only [Act.put, List.setIfInBounds_toArray, List.set_cons_zero, List.set_cons_succ]
              refine held_take (i := 6) (v := .slice a2 gone.length c2) rfl (by kernel_rfl) (by kernel_rfl) (by kernel_rfl) (fun _ _ _ h => h) rfl (fun W1 hW1 => rfl) (KpS.refl _ _ _) ?_
              simp only [Act.put, List.setIfInBounds_toArray, List.set_cons_zero, List.set_cons_succ]
              refine held_take (i := 7) (v := .slice (some ⟨g1, off1, none⟩) was.length c1) rfl (by kernel_rfl) (by kernel_rfl) (by kernel_rfl) (fun _ _ _ h => h) rfl (fun W1 hW1 => rfl) (KpS.refl _ _ _) ?_
              simp only [Act.put, List.setIfInBounds_toArray, List.set_cons_zero, List.set_cons_succ]
              refine held_take (i := 8) (v := .int .i64 (j : Int)) rfl (by kernel_rfl) (by kernel_rfl) (by kernel_rfl) (fun _ _ _ h => h) rfl (fun W1 hW1 => rfl) (KpS.refl _ _ _) ?_
              simp only [Act.put, List.setIfInBounds_toArray, List.set_cons_zero, List.set_cons_succ]
              refine held_take (i := 9) (v := .pointer (some ⟨g1, off1 + j * 5, none⟩)) rfl (by kernel_rfl) (by kernel_rfl) (by kernel_rfl) (fun _ _ _ h => h) rfl (fun W1 hW1 => by go_simp) (KpS.refl _ _ _) ?_
              simp only [Act.put, List.setIfInBounds_toArray, List.set_cons_zero, List.set_cons_succ]
              refine held_take (i := 10) (v := ptV y) rfl (by kernel_rfl) (by kernel_rfl) (by kernel_rfl) (fun _ _ _ h => h) rfl (fun W1 hW1 => exec_load _ _ _ _ rfl rfl (loadPt_run W1 g1 (off1 + j * 5) y (cX W1 hW1))) (KpS.refl _ _ _) ?_
              simp only [Act.put, List.setIfInBounds_toArray, List.set_cons_zero, List.set_cons_succ]
              refine held_do (i := 5) (by kernel_rfl) rfl rfl (wp_enter (f := 30) (args := #[.slice a3 now.length c3, ptV y]) (by go_simp) (lIn_any wr.drew [m] _ now (O3.out.later KJ.out.drew) (by have := L3.out; omega) y) ?_)
              rintro e wx ⟨rfl, kx⟩
              have s1 : KpS [] wr.heap.size wr.drew wx := s0.keeps kx s0.size (by simp)
              rw [HB.out]
              refine ⟨_, rfl, s1, ?_⟩
              simp only [Act.put, List.setIfInBounds_toArray, List.set_cons_zero, List.set_cons_succ]
              refine held_do (i := 11) (by kernel_rfl) rfl rfl (wp_enter (f := 30) (args := #[.slice a2 gone.length c2, ptV y]) (by go_simp) (lIn_any wx [m] _ gone (O2c.out.later (KJ.out.drew.trans kx)) (by have := L2.out; omega) y) ?_)
              rintro e wy ⟨rfl, ky⟩
              have s2 : KpS [] wr.heap.size wr.drew wy := s1.keeps ky s1.size (by simp)
              rw [HGY.out]
              refine ⟨_, rfl, s2, ?_⟩
              simp only [Act.put, List.setIfInBounds_toArray, List.set_cons_zero, List.set_cons_succ]
              refine held_take (i := 12) (v := .bool false) rfl (by kernel_rfl) (by kernel_rfl) (by kernel_rfl) (fun _ _ _ h => h) rfl (fun W1 hW1 => by go_simp) (s2) ?_
              simp only [Act.put, List.setIfInBounds_toArray, List.set_cons_zero, List.set_cons_succ]
              refine wpAnyH_done (by kernel_rfl) ?_ _
              have KY := hid ((KJ.out.drew.trans kx).trans ky)
              clear cX s0 s1 s2 kx ky
              go_wp2_with fail
              go_roundw
              case rel => exact ⟨j + 1, by go_num, by omega, KY.out⟩
              case measure => simp [intOf]; omega
          · obtain rfl : j = was.length := by omega
            clear hjl hj
            go_wp2_with fail
            go_loopw [10] (fun jv wr => ∃ j : Nat, jv = .int .i64 j ∧ j ≤ gone.length ∧ Keeps [] wc wr) (fun jv _ => gone.length - (intOf jv).toNat)
            case atStart => exact ⟨0, rfl, Nat.zero_le _, KJ.out⟩
            case round =>
              obtain ⟨j, rfl, hj, hkj⟩ := hrel
              have KI := hid hkj
              clear hkj
              by_cases hjl : j < gone.length
              · have hj64 : j < 64 := by have := L2.out; omega
                obtain ⟨y, hy⟩ : ∃ y, y = gone[j] := ⟨_, rfl⟩
                have H1 := hid (show hasP was y = true from hasP_is.2 (HGI.out y (by rw [hy]; exact List.getElem_mem _)))
                have H2 := hid (show hasP (gone.take j) y = false from hasP_not (by rw [hy]; exact not_take HGO.out j hjl))
                obtain ⟨g1, off1, e1, _, hcap1, hg1, hgM1, hr1⟩ := (O2c.out.later KI.out).open (by omega)
                have R0 := range_pt hr1 j hjl
                rw [← hy] at R0
                have RJ := hid R0
                have HG1 := hid hg1
                subst e1
                have CUT := hid (fun W => ptrs_hi (some ⟨g1, off1, none⟩) gone.length c2 j (by omega) W)
                clear hr1 R0 hy hcap1 hg1 hgM1
                go_wp2_with fail
                refine wp_region_any (by kernel_rfl) (wpAny_of_held (S := KpS [] wr.heap.size wr.drew) _ _ _ _ ?_)
                change wpAnyH _ _ _ _ _ _ _ _ wr.drew
                have s0 : KpS [] wr.heap.size wr.drew wr.drew := KpS.refl _ _ _
                have cX : ∀ W1, KpS [] wr.heap.size wr.drew W1 → W1.rangeAt g1 (off1 + j * 5) y.cells := fun W1 h i v hv => h.cell (by rw [World.cell?_drew]; exact RJ.out i v hv) HG1.out (by simp)
                refine held_take (i := 0) (v := .slice a1 was.length c1) rfl (by kernel_rfl) (by kernel_rfl) (by kernel_rfl) (fun _ _ _ h => h) rfl (fun W1 hW1 => rfl) (KpS.refl _ _ _) ?_
                simp only [Act.put, List.setIfInBounds_toArray, List.set_cons_zero, List.set_cons_succ]
                refine held_take (i := 1) (v := .slice (some ⟨g1, off1, none⟩) gone.length c2) rfl (by kernel_rfl) (by kernel_rfl) (by kernel_rfl) (fun _ _ _ h => h) rfl (fun W1 hW1 => rfl) (KpS.refl _ _ _) ?_
                simp only [Act.put, List.setIfInBounds_toArray, List.set_cons_zero, List.set_cons_succ]
                refine held_take (i := 2) (v := .int .i64 (j : Int)) rfl (by kernel_rfl) (by kernel_rfl) (by kernel_rfl) (fun _ _ _ h => h) rfl (fun W1 hW1 => rfl) (KpS.refl _ _ _) ?_
                simp only [Act.put, List.setIfInBounds_toArray, List.set_cons_zero, List.set_cons_succ]
                refine held_take (i := 3) (v := .pointer (some ⟨g1, off1 + j * 5, none⟩)) rfl (by kernel_rfl) (by kernel_rfl) (by kernel_rfl) (fun _ _ _ h => h) rfl (fun W1 hW1 => by go_simp) (KpS.refl _ _ _) ?_
                simp only [Act.put, List.setIfInBounds_toArray, List.set_cons_zero, List.set_cons_succ]
                refine held_take (i := 4) (v := ptV y) rfl (by kernel_rfl) (by kernel_rfl) (by kernel_rfl) (fun _ _ _ h => h) rfl (fun W1 hW1 => exec_load _ _ _ _ rfl rfl (loadPt_run W1 g1 (off1 + j * 5) y (cX W1 hW1))) (KpS.refl _ _ _) ?_
                simp only [Act.put, List.setIfInBounds_toArray, List.set_cons_zero, List.set_cons_succ]
                refine held_do (i := 5) (by kernel_rfl) rfl rfl (wp_enter (f := 30) (args := #[.slice a1 was.length c1, ptV y]) (by go_simp) (lIn_any wr.drew [m] _ was (O1c.out.later KI.out.drew) (by have := L1.out; omega) y) ?_)
                rintro e wx ⟨rfl, kx⟩
                have s1 : KpS [] wr.heap.size wr.drew wx := s0.keeps kx s0.size (by simp)
                rw [H1.out]
                refine ⟨_, rfl, s1, ?_⟩
                simp only [Act.put, List.setIfInBounds_toArray, List.set_cons_zero, List.set_cons_succ]
                refine held_take (i := 6) (v := .bool false) rfl (by kernel_rfl) (by kernel_rfl) (by kernel_rfl) (fun _ _ _ h => h) rfl (fun W1 hW1 => by go_simp) (s1) ?_
                simp only [Act.put, List.setIfInBounds_toArray, List.set_cons_zero, List.set_cons_succ]
                refine held_take (i := 7) (v := .bool false) rfl (by kernel_rfl) (by kernel_rfl) (by kernel_rfl) (fun _ _ _ h => h) rfl (fun W1 hW1 => rfl) (s1) ?_
                simp only [Act.put, List.setIfInBounds_toArray, List.set_cons_zero, List.set_cons_succ]
                refine held_takeW (i := 8) (v := .slice (some ⟨g1, off1, none⟩) gone.length c2) rfl (by kernel_rfl) (by kernel_rfl) (by kernel_rfl) (fun _ _ _ h => h) rfl (fun W1 hW1 => rfl) (s1) ?_
                simp only [Act.put, List.setIfInBounds_toArray, List.set_cons_zero, List.set_cons_succ]
                refine held_takeW (i := 9) (v := .int .i64 (j : Int)) rfl (by kernel_rfl) (by kernel_rfl) (by kernel_rfl) (fun _ _ _ h => h) rfl (fun W1 hW1 => rfl) (s1) ?_
                simp only [Act.put, List.setIfInBounds_toArray, List.set_cons_zero, List.set_cons_succ]
                refine held_takeW (i := 10) (v := .slice (some ⟨g1, off1, none⟩) j c2) rfl (by kernel_rfl) (by kernel_rfl) (by kernel_rfl) (fun _ _ _ h => h) rfl (fun W1 hW1 => exec_sliceR _ _ _ _ _ rfl (CUT.out W1)) (s1) ?_
                simp only [Act.put, List.setIfInBounds_toArray, List.set_cons_zero, List.set_cons_succ]
                refine held_takeW (i := 11) (v := .slice (some ⟨g1, off1, none⟩) gone.length c2) rfl (by kernel_rfl) (by kernel_rfl) (by kernel_rfl) (fun _ _ _ h => h) rfl (fun W1 hW1 => rfl) (s1) ?_
                simp only [Act.put, List.setIfInBounds_toArray, List.set_cons_zero, List.set_cons_succ]
                refine held_takeW (i := 12) (v := .int .i64 (j : Int)) rfl (by kernel_rfl) (by kernel_rfl) (by kernel_rfl) (fun _ _ _ h => h) rfl (fun W1 hW1 => rfl) (s1) ?_
                simp only [Act.put, List.setIfInBounds_toArray, List.set_cons_zero, List.set_cons_succ]
                refine held_takeW (i := 13) (v := .pointer (some ⟨g1, off1 + j * 5, none⟩)) rfl (by kernel_rfl) (by kernel_rfl) (by kernel_rfl) (fun _ _ _ h => h) rfl (fun W1 hW1 => by go_simp) (s1) ?_
                simp only [Act.put, List.setIfInBounds_toArray, List.set_cons_zero, List.set_cons_succ]
                refine held_takeW (i := 14) (v := ptV y) rfl (by kernel_rfl) (by kernel_rfl) (by kernel_rfl) (fun _ _ _ h => h) rfl (fun W1 hW1 => exec_load _ _ _ _ rfl rfl (loadPt_run W1 g1 (off1 + j * 5) y (cX W1 hW1))) (s1) ?_
                simp only [Act.put, List.setIfInBounds_toArray, List.set_cons_zero, List.set_cons_succ]
                refine held_doW (i := 15) (by kernel_rfl) rfl rfl (wp_enter (f := 30) (args := #[.slice (some ⟨g1, off1, none⟩) j c2, ptV y]) (by go_simp) (lIn_any wx [m] _ (gone.take j) ((O2c.out.later (KI.out.drew.trans kx)).take j (by omega)) (by have := L2.out; rw [List.length_take]; omega) y) ?_)
                rintro e wy ⟨rfl, ky⟩
                have s2 : KpS [] wr.heap.size wr.drew wy := s1.keeps ky s1.size (by simp)
                rw [H2.out]
                refine ⟨_, rfl, s2, ?_⟩
                simp only [Act.put, List.setIfInBounds_toArray, List.set_cons_zero, List.set_cons_succ]
                refine held_take (i := 16) (v := .bool false) rfl (by kernel_rfl) (by kernel_rfl) (by kernel_rfl) (fun _ _ _ h => h) rfl (fun W1 hW1 => by go_simp) (s2) ?_
                simp only [Act.put, List.setIfInBounds_toArray, List.set_cons_zero, List.set_cons_succ]
                refine wpAnyH_done (by kernel_rfl) ?_ _
                have KY := hid ((KI.out.drew.trans kx).trans ky)
                clear cX s0 s1 s2 kx ky
                go_wp2_with fail
                go_roundw
                case rel => exact ⟨j + 1, by go_num, by omega, KY.out⟩
                case measure => simp [intOf]; omega
              · obtain rfl : j = gone.length := by omega
                clear hjl hj
                go_wp2_with fail
                go_roundw
                case rel => exact ⟨k + 1, stepD s x, by go_num, by omega, BC.out.later KI.out, KC.out.trans KI.out⟩
                case measure => simp [intOf]; omega
    · obtain rfl : k = ds.length := by omega
      go_wp2_with fail
      go_ret
      exact ⟨rfl, K.out⟩
end Go.Proofs.Ytdfhoanilbfkiaa
