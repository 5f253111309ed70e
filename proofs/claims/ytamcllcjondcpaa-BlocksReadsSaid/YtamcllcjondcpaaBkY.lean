/- blocks: the reference's Apply. -/
import Derived.Test.YtamcllcjondcpaaBkXj
import Derived.Test.YtamcllcjondcpaaBkJ
namespace Go.Proofs.Ytamcllcjondcpaa
open Go.RowKit Go.Shelf
set_option maxRecDepth 100000
set_option linter.unusedSimpArgs false

def lostS (has l : List Pt) (x : Pt) : List Pt := if (!hasP has x && !hasP l x) = true then l ++ [x] else l
def lostL (had has : List Pt) : List Pt := had.foldl (lostS has) []
theorem lostL_snoc (had has : List Pt) (k : Nat) (h : k < had.length) : lostL (had.take (k + 1)) has = lostS has (lostL (had.take k) has) had[k] := by
  unfold lostL
  rw [List.take_succ_eq_append_getElem h, List.foldl_append]
  rfl
theorem lostL_le (had has : List Pt) : (lostL had has).length ≤ had.length := by
  have : ∀ (xs l : List Pt), (xs.foldl (lostS has) l).length ≤ l.length + xs.length := by
    intro xs
    induction xs with
    | nil => intro l; simp
    | cons x xs ih =>
      intro l
      have := ih (lostS has l x)
      have h2 : (lostS has l x).length ≤ l.length + 1 := by unfold lostS; split <;> simp
      simp only [List.foldl_cons, List.length_cons]
      omega
  simpa [lostL] using this had []
theorem hasP_keep {has : List Pt} {x : Pt} (h : zB x = false) : hasP (has.filter keepZ) x = hasP has x := by
  rw [Bool.eq_iff_iff, hasP_is, hasP_is, List.mem_filter]
  exact ⟨fun h => h.1, fun hm => ⟨hm, by unfold keepZ; rw [h]; rfl⟩⟩
theorem lost_gone (had has : List Pt) : lostL (had.filter keepZ) (has.filter keepZ) = goneL had has := by
  unfold lostL goneL
  have : ∀ (xs l : List Pt), (xs.filter keepZ).foldl (lostS (has.filter keepZ)) l = xs.foldl (goneS has) l := by
    intro xs
    induction xs with
    | nil => intro l; rfl
    | cons x xs ih =>
      intro l
      cases hz : zB x with
      | true =>
        have h1 : keepZ x = false := by unfold keepZ; rw [hz]; rfl
        have h2 : goneS has l x = l := by unfold goneS; rw [hz]; rfl
        rw [List.filter_cons_of_neg (by rw [h1]; simp), List.foldl_cons, h2, ih]
      | false =>
        have h1 : keepZ x = true := by unfold keepZ; rw [hz]; rfl
        have h2 : lostS (has.filter keepZ) l x = goneS has l x := by unfold lostS goneS; rw [hasP_keep hz, hz]; rfl
        rw [List.filter_cons_of_pos h1, List.foldl_cons, List.foldl_cons, h2, ih]
  exact this had []

def RapPost (w : World) (q : Nat) (F : List Nat) (s : Bk) (x : Dl) (e : Ending) (w' : World) : Prop :=
  ∃ a c, e = .returned (.tuple #[.slice a (goneD s x).length c, .bool (mayD s x)]) ∧ PtsAt w' [] (.slice a (goneD s x).length c) (goneD s x) ∧ ∃ F', RkAt w' q F' (stepD s x) ∧ Keeps F w w' ∧ ∀ b ∈ F', b ∈ F ∨ w.heap.size ≤ b

set_option maxHeartbeats 12800000 in
theorem rApply_any {w : World} {q : Nat} {F : List Nat} {s : Bk} (h : RkAt w q F s) (hg : GoodB s) (x : Dl) : Calls Try.prog 16 #[.pointer (some ⟨q, 0, none⟩), dlV x] w (RapPost w q F s x) := by
  have H := hid h
  have HG := hid hg
  have ka : Keeps [] w (w.alloc (.cells x.cells.toArray 49)) := (Keeps.refl [] w).alloc _
  have HA := hid (h.later ka)
  have RA := hid (range_new w x.cells 49)
  have KA := hid ka
  have HSZ := hid (show w.heap.size < (w.alloc (.cells x.cells.toArray 49)).heap.size by simp)
  have HFW := hid h.lt
  obtain ⟨m, hm⟩ : ∃ m, m = mayD s x := ⟨_, rfl⟩
  have HM := hid hm
  obtain ⟨old, hold⟩ : ∃ l, l = s.L.filter keepZ := ⟨_, rfl⟩
  have HOLD := hid hold
  have HOL := hid (show old.length ≤ 64 by rw [hold]; exact Nat.le_trans (filterZ_le _) h.few)
  clear h hg ka hm hold
  go_enter Try.func16, Try.ntmps16
  go_wp2_with (first | (refine wpList_is rfl _ _ (exec_box 49 _ x.cells.toArray rfl rfl) ?_) | fail)
  refine (rPtrs_any HA.out).mono ?_
  rw [← HOLD.out]
  rintro e w2 ⟨a2, c2, rfl, o2, k2⟩
  have H2 := hid (HA.out.later k2)
  have R2 := hid (range_keep RA.out k2 (by simp))
  have K2 := hid (KA.out.trans k2)
  have HS2 := hid (show w.heap.size < w2.heap.size by have := HSZ.out; have := k2.size; omega)
  have O2 := hid (show OwnP w2 (w.alloc (.cells x.cells.toArray 49)).heap.size F (.slice a2 old.length c2) old from ⟨o2.row, fun b hb => Nat.lt_trans (HFW.out b hb) HSZ.out⟩)
  clear o2 k2
  go_wp2_with (first | (refine wpList_isW rfl _ _ (exec_load _ _ _ _ rfl rfl (loadDl_run _ w.heap.size 0 x R2.out)) ?_) | fail)
  refine (rChange_any H2.out HG.out x).mono ?_
  rw [show RchPost w2 q F s x = fun e w' => e = .returned (.bool m) ∧ ∃ F', RkAt w' q F' (stepD s x) ∧ Keeps F w2 w' ∧ ∀ b ∈ F', b ∈ F ∨ w2.heap.size ≤ b from by unfold RchPost; rw [HM.out]]
  rintro e w3 ⟨rfl, F3, h3, k3, f3⟩
  have H3 := hid h3
  have HF := hid HFW.out
  have K3 := hid ((K2.out.mono (S' := F) (by simp)).trans k3)
  have FF3 := hid (show ∀ b ∈ F3, b ∈ F ∨ w.heap.size ≤ b from fun b hb => (f3 b hb).imp id (fun h => by have := HS2.out; omega))
  have O3 := hid ((O2.out.keep k3 (fun b hb => hb)).at)
  clear h3 k3 f3
  cases m with
  | false =>
    have E := hid (show mayD s x = false from HM.out.symm)
    go_wp2_with fail
    go_ret2
    have e1 : goneD s x = [] := by unfold goneD; rw [if_neg (by rw [E.out]; simp)]
    exact ⟨none, 0, by rw [e1, E.out]; rfl, by rw [e1]; exact PtsAt.nil _ _, F3, H3.out, K3.out, FF3.out⟩
  | true =>
    have E := hid (show mayD s x = true from HM.out.symm)
    have EG := hid (show lostL old ((stepD s x).L.filter keepZ) = goneD s x by rw [HOLD.out, lost_gone]; unfold goneD stepD; rw [if_pos E.out, if_pos E.out])
    go_wp2_with fail
    refine (rPtrs_any H3.out).mono ?_
    obtain ⟨now, hnow⟩ : ∃ l, l = (stepD s x).L.filter keepZ := ⟨_, rfl⟩
    have HNL := hid (show now.length ≤ 64 by rw [hnow]; exact Nat.le_trans (filterZ_le _) H3.out.few)
    rw [← hnow] at EG ⊢
    clear hnow
    rintro e w4 ⟨a4, c4, rfl, o4, k4⟩
    have H4 := hid (H3.out.later k4)
    have O4 := hid o4.at
    have V4 := hid (O3.out.later k4)
    have K4 := hid (K3.out.trans (k4.mono (by simp)))
    clear o4 k4
    go_wp2_with fail
    go_loopw [9, 10] (fun lv kv wr => ∃ (k : Nat) (b : Option Addr) (n d : Nat), kv = .int .i64 k ∧ k ≤ old.length ∧ lv = .slice b n d ∧ n = (lostL (old.take k) now).length ∧ OwnP wr w4.heap.size [] (.slice b n d) (lostL (old.take k) now) ∧ Keeps [] w4 wr) (fun _ kv _ => old.length - (intOf kv).toNat)
    case atStart => exact ⟨0, none, 0, 0, rfl, Nat.zero_le _, rfl, rfl, OwnP.nil _ _ _ (by simp), Keeps.refl _ _⟩
    case round =>
      obtain ⟨k, b, n, d, rfl, hk, rfl, hn, ho, hkp⟩ := hrel
      have HN := hid hn
      have HO := hid ho
      have HK := hid hkp
      clear hn ho hkp
      by_cases hlt : k < old.length
      · have hk64 : k < 64 := by have := HOL.out; omega
        have HE := hid (lostL_snoc old now k hlt)
        obtain ⟨g, off, rfl, _, hcap, hgg, hgM, hr⟩ := (V4.out.later HK.out).open (by omega)
        have R0 := range_pt hr k hlt
        obtain ⟨y, hy⟩ : ∃ y, y = old[k] := ⟨_, rfl⟩
        rw [← hy] at HE R0
        have R := hid R0
        obtain ⟨L, hL⟩ : ∃ L, L = lostL (old.take k) now := ⟨_, rfl⟩
        have HLL := hid (show L.length ≤ 64 by rw [hL]; have := lostL_le (old.take k) now; rw [List.length_take] at this; omega)
        rw [← hL] at HN HO HE
        clear hr hcap hgg hgM R0 hy hL
        cases hc : hasP now y with
        | true =>
          have HC := hid hc
          clear hc
          go_wp2_with (first | go_big_skip | (refine wpList_isW rfl _ _ (exec_load _ _ _ _ rfl rfl (loadPt_run _ g (off + k * 5) y R.out)) ?_) | fail)
          refine (rIn_any wr [] _ now (O4.out.later HK.out) (by have := HNL.out; omega) y).mono ?_
          rintro e w5 ⟨rfl, k5⟩
          have K5 := hid k5
          have R5 := hid (range_keep R.out k5 (by simp))
          clear k5
          rw [HC.out]
          go_wp2_with (first | go_big_skip | fail)
          go_roundw
          case rel =>
            refine ⟨k + 1, b, n, d, by go_num, by omega, rfl, ?_, ?_, HK.out.trans K5.out⟩
            · rw [HE.out]; unfold lostS; rw [HC.out]; exact HN.out
            · rw [HE.out]; unfold lostS; rw [HC.out]; exact HO.out.later K5.out
          case measure => simp [intOf]; omega
        | false =>
          have HC := hid hc
          clear hc
          cases hd : hasP L y with
          | true =>
            have HD := hid hd
            clear hd
            go_wp2_with (first | go_big_skip | (refine wpList_isW rfl _ _ (exec_load _ _ _ _ rfl rfl (loadPt_run _ g (off + k * 5) y R.out)) ?_) | fail)
            refine (rIn_any wr [] _ now (O4.out.later HK.out) (by have := HNL.out; omega) y).mono ?_
            rintro e w5 ⟨rfl, k5⟩
            have K5 := hid k5
            have R5 := hid (range_keep R.out k5 (by simp))
            clear k5
            rw [HC.out]
            go_wp2_with (first | go_big_skip | (refine wpList_isW rfl _ _ (exec_load _ _ _ _ rfl rfl (loadPt_run _ g (off + k * 5) y R5.out)) ?_) | fail)
            refine (rIn_any w5 [] _ L ((HO.out.later K5.out).at) (by have := HLL.out; omega) y).mono ?_
            rintro e w6 ⟨rfl, k6⟩
            have K6 := hid (K5.out.trans k6)
            have R6 := hid (range_keep R5.out k6 (by simp))
            clear k6
            rw [HD.out]
            go_wp2_with (first | go_big_skip | fail)
            go_roundw
            case rel =>
              refine ⟨k + 1, b, n, d, by go_num, by omega, rfl, ?_, ?_, HK.out.trans K6.out⟩
              · rw [HE.out]; unfold lostS; rw [HC.out, HD.out]; exact HN.out
              · rw [HE.out]; unfold lostS; rw [HC.out, HD.out]; exact HO.out.later K6.out
            case measure => simp [intOf]; omega
          | false =>
            have HD := hid hd
            clear hd
            go_wp2_with (first | go_big_skip | (refine wpList_isW rfl _ _ (exec_load _ _ _ _ rfl rfl (loadPt_run _ g (off + k * 5) y R.out)) ?_) | fail)
            refine (rIn_any wr [] _ now (O4.out.later HK.out) (by have := HNL.out; omega) y).mono ?_
            rintro e w5 ⟨rfl, k5⟩
            have K5 := hid k5
            have R5 := hid (range_keep R.out k5 (by simp))
            clear k5
            rw [HC.out]
            go_wp2_with (first | go_big_skip | (refine wpList_isW rfl _ _ (exec_load _ _ _ _ rfl rfl (loadPt_run _ g (off + k * 5) y R5.out)) ?_) | fail)
            refine (rIn_any w5 [] _ L ((HO.out.later K5.out).at) (by have := HLL.out; omega) y).mono ?_
            rintro e w6 ⟨rfl, k6⟩
            have K6 := hid (K5.out.trans k6)
            have R6 := hid (range_keep R5.out k6 (by simp))
            clear k6
            rw [HD.out]
            have OL := HO.out.later K6.out
            have k7 : Keeps [] w6 (w6.alloc (.cells y.cells.toArray 47)) := (Keeps.refl [] w6).alloc _
            have S7 := one_pts w6 [] (by simp) y
            have K7 := hid (K6.out.trans k7)
            obtain ⟨a', c', w8, hrun, o8, k8⟩ := append_pts (OL.later k7) _ _ _ S7 (by have := HLL.out; simp; omega) (by have := HK.out.size; have := K7.out.size; omega) 39
            have O8 := hid o8
            have K8 := hid ((HK.out.trans K7.out).trans' k8 (S := []) (fun i hi hm => by have := (HO.out.blk i (by simpa using hm)).1; omega))
            have RUN := hid hrun
            clear OL k7 S7 hrun o8 k8
            go_wp2_with (first | (refine wpList_isW rfl _ _ (exec_load _ _ _ _ rfl rfl (loadPt_run _ g (off + k * 5) y R6.out)) ?_) | (refine wpList_is rfl _ _ (exec_onePt _ y rfl rfl) ?_) | (refine wpList_is rfl _ _ (exec_appendT 39 _ _ rfl rfl rfl RUN.out) ?_) | fail)
            go_roundw
            case rel =>
              refine ⟨k + 1, a', _, c', by go_num, by omega, rfl, ?_, ?_, K8.out⟩
              · rw [HE.out]; unfold lostS; rw [HC.out, HD.out]; simp
              · rw [HE.out]; unfold lostS; rw [HC.out, HD.out]; exact O8.out
            case measure => simp [intOf]; omega
      · obtain rfl : k = old.length := by omega
        go_wp2_with fail
        go_ret2
        rw [List.take_length, EG.out] at HN HO
        have hkr : Keeps [] w4 wr := HK.out
        exact ⟨b, d, by rw [HN.out, E.out]; rfl, by rw [← HN.out]; exact HO.out.at, F3, H4.out.later hkr, K4.out.trans (hkr.mono (by simp)), FF3.out⟩
end Go.Proofs.Ytamcllcjondcpaa
