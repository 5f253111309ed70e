/- blocks: gone. -/
import Derived.Test.YtamcllcjondcpaaBkF
namespace Go.Proofs.Ytamcllcjondcpaa
open Go.RowKit Go.Shelf
set_option maxRecDepth 100000
set_option linter.unusedSimpArgs false

def goneS (has l : List Pt) (x : Pt) : List Pt := if (!zB x && !hasP has x && !hasP l x) = true then l ++ [x] else l
/-- What stood in one row and stands in another no more, each once. -/
def goneL (had has : List Pt) : List Pt := had.foldl (goneS has) []
theorem goneL_snoc (had has : List Pt) (k : Nat) (h : k < had.length) : goneL (had.take (k + 1)) has = goneS has (goneL (had.take k) has) had[k] := by
  unfold goneL
  rw [List.take_succ_eq_append_getElem h, List.foldl_append]
  rfl
theorem goneL_le (had has : List Pt) : (goneL had has).length ≤ had.length := by
  have : ∀ (xs l : List Pt), (xs.foldl (goneS has) l).length ≤ l.length + xs.length := by
    intro xs
    induction xs with
    | nil => intro l; simp
    | cons x xs ih =>
      intro l
      have := ih (goneS has l x)
      have h2 : (goneS has l x).length ≤ l.length + 1 := by unfold goneS; split <;> simp
      simp only [List.foldl_cons, List.length_cons]
      omega
  simpa [goneL] using this had []
theorem exec_onePt {ρ : Operand → Value} {o : Oper} {w : World} (x : Operand) (t : Pt) (ho : o.op = .buildSlice 39 1 #[(0, x)]) (hx : ρ x = ptV t) :
    (execOp ρ o).run Try.prog w = .ok (.value (.slice (some ⟨w.heap.size, 0, none⟩) 1 1)) (w.alloc (.cells t.cells.toArray 47)) := by
  obtain ⟨ie, hie, hz, hs, _⟩ := info_parts iPtr
  have h : (Instr.buildSlice 39 1 #[(0, ptV t)]).run Try.prog w = .ok (.slice (some ⟨w.heap.size, 0, none⟩) 1 1) (w.alloc (.cells t.cells.toArray 47)) := by
    refine run_buildSlice w _ _ 1 _ _ ie _ Try.underlying39 hie hz (by rw [hs]; decide) (by rw [hs]; decide) ?_
    rw [hs]
    have e : (Array.range (1 * 5)) = #[0, 1, 2, 3, 4] := rfl
    have e2 : (ptV pZ).cells = #[.int .i64 0, .int .i64 0, .int .i64 0, .int .i64 0, .int .i64 0] := rfl
    have e3 : (ptV t).cells = #[.int .i64 t.c, .int .i64 t.l, .int .i64 t.n, .int .i64 t.a, .int .i64 t.k] := rfl
    simp only [Instr.fill, e, e2, e3]
    simp [Pt.cells]
  simp only [execOp, ho, List.map_toArray, List.map_cons, List.map_nil, hx, Sem.run_bind, h, Result.andThen_ok, Sem.run_pure]
theorem one_pts (w : World) (M : List Nat) (hM : ∀ b ∈ M, b < w.heap.size) (t : Pt) : PtsAt (w.alloc (.cells t.cells.toArray 47)) M (.slice (some ⟨w.heap.size, 0, none⟩) 1 1) [t] :=
  ⟨_, 1, rfl, by simp, by decide, by simp, fun ad had => ⟨w.heap.size, 0, (Option.some.inj had).symm, by simp, fun hm => by have := hM _ hm; omega, by
    have := range_new w t.cells 47
    simpa [pcells] using this⟩⟩

def GonePost (w : World) (M : List Nat) (l : List Pt) (e : Ending) (w' : World) : Prop :=
  ∃ a c, e = .returned (.slice a l.length c) ∧ OwnP w' w.heap.size M (.slice a l.length c) l ∧ Keeps [] w w'
set_option maxHeartbeats 6400000 in
theorem zGone_any (w : World) (M : List Nat) (hM : ∀ b ∈ M, b < w.heap.size) (v u : Value) (had has : List Pt) (hv : PtsAt w M v had) (hu : PtsAt w M u has) (hl : had.length ≤ 1000) (hl2 : has.length ≤ 1000) :
    Calls Try.prog 52 #[v, u] w (GonePost w M (goneL had has)) := by
  have HM := hid hM
  have HV := hid hv
  have HU := hid hu
  have HL2 := hid hl2
  obtain ⟨a, c, rfl⟩ := hv.shape
  clear hu hv hM hl2
  go_enter Try.func52, Try.ntmps52
  go_wp2_with fail
  go_loopw [5, 10] (fun lv kv wr => ∃ (k : Nat) (b : Option Addr) (n d : Nat), kv = .int .i64 k ∧ k ≤ had.length ∧ lv = .slice b n d ∧ n = (goneL (had.take k) has).length ∧ OwnP wr w.heap.size M (.slice b n d) (goneL (had.take k) has) ∧ Keeps [] w wr) (fun _ kv _ => had.length - (intOf kv).toNat)
  case atStart => exact ⟨0, none, 0, 0, rfl, Nat.zero_le _, rfl, rfl, OwnP.nil _ _ _ HM.out, Keeps.refl _ _⟩
  case round =>
    obtain ⟨k, b, n, d, rfl, hk, rfl, hn, ho, hkp⟩ := hrel
    have HN := hid hn
    have HO := hid ho
    have HK := hid hkp
    clear hn ho hkp
    by_cases hlt : k < had.length
    · have HE := hid (goneL_snoc had has k hlt)
      obtain ⟨g, off, rfl, _, hcap, hg, hgM, hr⟩ := (HV.out.later HK.out).open (by omega)
      have R0 := range_pt hr k hlt
      obtain ⟨y, hy⟩ : ∃ y, y = had[k] := ⟨_, rfl⟩
      rw [← hy] at HE R0
      have R := hid R0
      obtain ⟨L, hL⟩ : ∃ L, L = goneL (had.take k) has := ⟨_, rfl⟩
      have HLL := hid (show L.length ≤ 1000 by rw [hL]; have := goneL_le (had.take k) has; rw [List.length_take] at this; omega)
      rw [← hL] at HN HO HE
      have RA := hid (range_new wr y.cells 47)
      have ka : Keeps [] wr (wr.alloc (.cells y.cells.toArray 47)) := (Keeps.refl [] wr).alloc _
      have KA := hid ka
      clear hr hcap hg hgM R0 hy ka hL
      obtain ⟨uA, uC, hU⟩ := HU.out.shape
      subst hU
      cases hz : zB y with
      | true =>
        have HZ := hid hz
        clear hz
        go_wp2_with (first | (refine wpList_isW rfl _ _ (exec_load _ _ _ _ rfl rfl (loadPt_run _ g (off + k * 5) y R.out)) ?_) | (refine wpList_is rfl _ _ (exec_alloc 47 pZ.cells.toArray iPtr2 rfl) ?_) | (refine wpList_noval rfl _ (exec_storeNew 47 _ _ rfl wr pZ.cells.toArray y.cells.toArray rfl rfl rfl iPtr2 rfl (cells_one _)) ?_) | (refine wpList_isW rfl _ _ (exec_load _ _ _ _ rfl rfl (loadPt_run _ wr.heap.size 0 y RA.out)) ?_) | fail)
        refine (isZero_any _ y).mono ?_
        rintro e w2 ⟨rfl, k2⟩
        have K2 := hid (KA.out.trans k2)
        have R2 := hid (range_keep RA.out k2 (by simp))
        clear k2
        rw [HZ.out]
        go_wp2_with fail
        go_roundw
        case rel =>
          refine ⟨k + 1, b, n, d, by go_num, by omega, rfl, ?_, ?_, HK.out.trans K2.out⟩
          · rw [HE.out]; unfold goneS; rw [HZ.out]; exact HN.out
          · rw [HE.out]; unfold goneS; rw [HZ.out]; exact HO.out.later K2.out
        case measure => simp [intOf]; omega
      | false =>
        have HZ := hid hz
        clear hz
        cases hc : hasP has y with
        | true =>
          have HC := hid hc
          clear hc
          go_wp2_with (first | (refine wpList_isW rfl _ _ (exec_load _ _ _ _ rfl rfl (loadPt_run _ g (off + k * 5) y R.out)) ?_) | (refine wpList_is rfl _ _ (exec_alloc 47 pZ.cells.toArray iPtr2 rfl) ?_) | (refine wpList_noval rfl _ (exec_storeNew 47 _ _ rfl wr pZ.cells.toArray y.cells.toArray rfl rfl rfl iPtr2 rfl (cells_one _)) ?_) | (refine wpList_isW rfl _ _ (exec_load _ _ _ _ rfl rfl (loadPt_run _ wr.heap.size 0 y RA.out)) ?_) | fail)
          refine (isZero_any _ y).mono ?_
          rintro e w2 ⟨rfl, k2⟩
          have K2 := hid (KA.out.trans k2)
          have R2 := hid (range_keep RA.out k2 (by simp))
          clear k2
          rw [HZ.out]
          go_wp2_with (first | (refine wpList_isW rfl _ _ (exec_load _ _ _ _ rfl rfl (loadPt_run _ wr.heap.size 0 y R2.out)) ?_) | fail)
          refine (zContains_any w2 M _ has (HU.out.later (HK.out.trans K2.out)) (by have := HL2.out; omega) y).mono ?_
          rintro e w3 ⟨rfl, k3⟩
          have K3 := hid (K2.out.trans k3)
          have R3 := hid (range_keep R2.out k3 (by simp))
          clear k3
          rw [HC.out]
          go_wp2_with fail
          go_roundw
          case rel =>
            refine ⟨k + 1, b, n, d, by go_num, by omega, rfl, ?_, ?_, HK.out.trans K3.out⟩
            · rw [HE.out]; unfold goneS; rw [HZ.out, HC.out]; exact HN.out
            · rw [HE.out]; unfold goneS; rw [HZ.out, HC.out]; exact HO.out.later K3.out
          case measure => simp [intOf]; omega
        | false =>
          have HC := hid hc
          clear hc
          cases hd : hasP L y with
          | true =>
            have HD := hid hd
            clear hd
            go_wp2_with (first | (refine wpList_isW rfl _ _ (exec_load _ _ _ _ rfl rfl (loadPt_run _ g (off + k * 5) y R.out)) ?_) | (refine wpList_is rfl _ _ (exec_alloc 47 pZ.cells.toArray iPtr2 rfl) ?_) | (refine wpList_noval rfl _ (exec_storeNew 47 _ _ rfl wr pZ.cells.toArray y.cells.toArray rfl rfl rfl iPtr2 rfl (cells_one _)) ?_) | (refine wpList_isW rfl _ _ (exec_load _ _ _ _ rfl rfl (loadPt_run _ wr.heap.size 0 y RA.out)) ?_) | fail)
            refine (isZero_any _ y).mono ?_
            rintro e w2 ⟨rfl, k2⟩
            have K2 := hid (KA.out.trans k2)
            have R2 := hid (range_keep RA.out k2 (by simp))
            clear k2
            rw [HZ.out]
            go_wp2_with (first | (refine wpList_isW rfl _ _ (exec_load _ _ _ _ rfl rfl (loadPt_run _ wr.heap.size 0 y R2.out)) ?_) | fail)
            refine (zContains_any w2 M _ has (HU.out.later (HK.out.trans K2.out)) (by have := HL2.out; omega) y).mono ?_
            rintro e w3 ⟨rfl, k3⟩
            have K3 := hid (K2.out.trans k3)
            have R3 := hid (range_keep R2.out k3 (by simp))
            clear k3
            rw [HC.out]
            go_wp2_with (first | (refine wpList_isW rfl _ _ (exec_load _ _ _ _ rfl rfl (loadPt_run _ wr.heap.size 0 y R3.out)) ?_) | fail)
            refine (zContains_any w3 M _ L ((HO.out.later K3.out).at) (by have := HLL.out; omega) y).mono ?_
            rintro e w4 ⟨rfl, k4⟩
            have K4 := hid (K3.out.trans k4)
            have R4 := hid (range_keep R3.out k4 (by simp))
            clear k4
            rw [HD.out]
            go_wp2_with fail
            go_roundw
            case rel =>
              refine ⟨k + 1, b, n, d, by go_num, by omega, rfl, ?_, ?_, HK.out.trans K4.out⟩
              · rw [HE.out]; unfold goneS; rw [HZ.out, HC.out, HD.out]; exact HN.out
              · rw [HE.out]; unfold goneS; rw [HZ.out, HC.out, HD.out]; exact HO.out.later K4.out
            case measure => simp [intOf]; omega
          | false =>
            have HD := hid hd
            clear hd
            go_wp2_with (first | (refine wpList_isW rfl _ _ (exec_load _ _ _ _ rfl rfl (loadPt_run _ g (off + k * 5) y R.out)) ?_) | (refine wpList_is rfl _ _ (exec_alloc 47 pZ.cells.toArray iPtr2 rfl) ?_) | (refine wpList_noval rfl _ (exec_storeNew 47 _ _ rfl wr pZ.cells.toArray y.cells.toArray rfl rfl rfl iPtr2 rfl (cells_one _)) ?_) | (refine wpList_isW rfl _ _ (exec_load _ _ _ _ rfl rfl (loadPt_run _ wr.heap.size 0 y RA.out)) ?_) | fail)
            refine (isZero_any _ y).mono ?_
            rintro e w2 ⟨rfl, k2⟩
            have K2 := hid (KA.out.trans k2)
            have R2 := hid (range_keep RA.out k2 (by simp))
            clear k2
            rw [HZ.out]
            go_wp2_with (first | (refine wpList_isW rfl _ _ (exec_load _ _ _ _ rfl rfl (loadPt_run _ wr.heap.size 0 y R2.out)) ?_) | fail)
            refine (zContains_any w2 M _ has (HU.out.later (HK.out.trans K2.out)) (by have := HL2.out; omega) y).mono ?_
            rintro e w3 ⟨rfl, k3⟩
            have K3 := hid (K2.out.trans k3)
            have R3 := hid (range_keep R2.out k3 (by simp))
            clear k3
            rw [HC.out]
            go_wp2_with (first | (refine wpList_isW rfl _ _ (exec_load _ _ _ _ rfl rfl (loadPt_run _ wr.heap.size 0 y R3.out)) ?_) | fail)
            refine (zContains_any w3 M _ L ((HO.out.later K3.out).at) (by have := HLL.out; omega) y).mono ?_
            rintro e w4 ⟨rfl, k4⟩
            have K4 := hid (K3.out.trans k4)
            have R4 := hid (range_keep R3.out k4 (by simp))
            clear k4
            rw [HD.out]
            have OL := HO.out.later K4.out
            have k5 : Keeps [] w4 (w4.alloc (.cells y.cells.toArray 47)) := (Keeps.refl [] w4).alloc _
            have S5 := one_pts w4 M (fun b hb => by have := HM.out b hb; have := HK.out.size; have := K4.out.size; omega) y
            have K5 := hid (K4.out.trans k5)
            obtain ⟨a', c', w6, hrun, o6, k6⟩ := append_pts (OL.later k5) _ _ _ S5 (by have := HLL.out; simp; omega) (by have := HK.out.size; have := K5.out.size; omega) 39
            have O6 := hid o6
            have K6 := hid ((HK.out.trans K5.out).trans' k6 (S := []) (fun i hi hm => by have := (HO.out.blk i (by simpa using hm)).1; omega))
            have RUN := hid hrun
            clear OL k5 S5 hrun o6 k6
            go_wp2_with (first | (refine wpList_isW rfl _ _ (exec_load _ _ _ _ rfl rfl (loadPt_run _ wr.heap.size 0 y R4.out)) ?_) | (refine wpList_is rfl _ _ (exec_onePt _ y rfl rfl) ?_) | (refine wpList_is rfl _ _ (exec_appendT 39 _ _ rfl rfl rfl RUN.out) ?_) | fail)
            go_roundw
            case rel =>
              refine ⟨k + 1, a', _, c', by go_num, by omega, rfl, ?_, ?_, K6.out⟩
              · rw [HE.out]; unfold goneS; rw [HZ.out, HC.out, HD.out]; simp
              · rw [HE.out]; unfold goneS; rw [HZ.out, HC.out, HD.out]; exact O6.out
            case measure => simp [intOf]; omega
    · obtain rfl : k = had.length := by omega
      go_wp2_with fail
      go_ret
      rw [List.take_length] at HN HO
      exact ⟨b, d, by rw [HN.out]; rfl, by rw [← HN.out]; exact HO.out, HK.out⟩
end Go.Proofs.Ytamcllcjondcpaa
