/- pack: Pack. -/
import Derived.Test.YtcfmonlgpccndaaDoorPkG
import Derived.Test.YtcfmonlgpccndaaDoorPkH
namespace Go.Proofs.YtcfmonlgpccndaaDoor
open Go.RowKit Go.Shelf
set_option maxRecDepth 100000
set_option linter.unusedSimpArgs false
set_option linter.unusedVariables false

theorem least_ge {l : List Db} {size : Int} (h : lieB l size = true) : ∀ k, k ≤ l.length → (k : Int) ≤ leastK l k
  | 0, _ => by simp [leastK]
  | k + 1, hk => by
    have ih := least_ge h k (by omega)
    have := lieB_is.1 h k (by omega)
    unfold okK at this
    rw [Bool.and_eq_true, btw_is] at this
    rw [least_succ]
    omega
theorem lie_few {l : List Db} {size : Int} (h : lieB l size = true) (hs : size ≤ 4096) : l.length ≤ 64 := by
  rcases Nat.eq_zero_or_pos l.length with h0 | h0
  · omega
  · have h1 := least_ge h (l.length - 1) (by omega)
    have := lieB_is.1 h (l.length - 1) (by omega)
    unfold okK at this
    rw [Bool.and_eq_true, btw_is] at this
    omega
theorem lie_short {xs : List Dr} {size : Int} (h : lieB (dbs xs) size = true) : ∀ x ∈ xs, x.d.length ≤ 64 := fun x hx => by
  obtain ⟨k, hk, rfl⟩ := List.getElem_of_mem hx
  have := lieB_is.1 h k (by rw [dbs_len]; exact hk)
  rw [okK_at hk, Bool.and_eq_true] at this
  simpa using this.2
def PackPost (w : World) (r : List Fl × List Dl × Int) (e : Ending) (w' : World) : Prop :=
  ∃ va vd, e = .returned (.tuple #[va, vd, .int .i64 r.2.2]) ∧ FlsAt w' va r.1 ∧ DlsAt w' vd r.2.1 ∧ Keeps [] w w'
theorem DlsAt.nil9 (w : World) : DlsAt w (.slice none 0 0) [] := ⟨none, 0, rfl, by simp, by simp, fun _ => rfl, fun h => absurd rfl h⟩
theorem pack_no {w w' : World} {r : List Fl × List Dl × Int} {y : Int} (hr : r = ([], [], y)) (k : Keeps [] w w') : PackPost w r (.returned (.tuple #[.slice none 0 0, .slice none 0 0, .int .i64 y])) w' := by
  subst hr
  exact ⟨_, _, rfl, FlsAt.nil _, DlsAt.nil9 _, k⟩
set_option maxHeartbeats 12800000 in
theorem pPack_any (w : World) (ino size : Int) (f : Spe) (n : Int) (v : Value) (xs : List Dr) (hv : DsAt w v xs) :
    Calls Tryd.prog 9 #[.int .i64 ino, .int .i64 size, .agg #[.int .i64 f.c, .int .i64 f.l, .int .i64 f.n], .int .i64 n, v] w (PackPost w (packL ino size f n (dbs xs))) := by
  obtain ⟨w1, hw1⟩ : ∃ x, x = w.alloc (.cells #[.int .i64 f.c, .int .i64 f.l, .int .i64 f.n] 29) := ⟨_, rfl⟩
  have HW1 := hid hw1
  have k1 : Keeps [] w w1 := by rw [hw1]; exact (Keeps.refl [] w).alloc _
  have HB := hid (show w1.heap[w.heap.size]? = some (.cells #[.int .i64 f.c, .int .i64 f.l, .int .i64 f.n] 29 (0, 0)) by rw [hw1]; exact heap_alloc_new w _)
  have R1 := hid (show w1.rangeAt w.heap.size 0 f.cells from range_cells HB.out)
  have K1 := hid k1
  have HV := hid (hv.keep k1)
  have MK := hid (pMayKeep_any w1 f n)
  obtain ⟨r, hr⟩ : ∃ r, r = packL ino size f n (dbs xs) := ⟨_, rfl⟩
  rw [← hr]
  have HR := hid hr
  clear hw1 k1 hr hv
  cases hk : (maySv n && mayE f) with
  | false =>
    have HR2 := hid (show r = ([], [], 1) by
      rw [HR.out]
      unfold packL
      rw [if_neg (fun h => by rw [h.1, h.2.1] at hk; cases hk)])
    rw [hk] at MK
    clear hk
    go_enter Tryd.func9, Tryd.ntmps9
    go_wp2_with (first | (refine wpList_isW rfl _ _ (exec_load _ _ _ _ rfl rfl (loadSpe _ w.heap.size 0 f (by rw [← HW1.out]; exact R1.out))) ?_) | fail)
    rw [← HW1.out]
    refine MK.out.mono ?_
    rintro e w2 ⟨rfl, k2⟩
    have K12 := hid k2
    have K2 := hid (K1.out.trans k2)
    clear k2
    go_wp2_with fail
    go_ret3
    exact pack_no HR2.out K2.out
  | true =>
    rw [hk] at MK
    have HK := hid hk
    cases hb : (btw ino 2 128 && btw size 0 4096) with
    | false =>
      have HR2 := hid (show r = ([], [], 1) by
        rw [HR.out]
        unfold packL
        rw [if_neg (fun h => by rw [h.2.2.1, h.2.2.2.1] at hb; cases hb)])
      have HBE := hid (fun W => pMayBe_any W ino size)
      rw [hb] at HBE
      clear hk hb
      go_enter Tryd.func9, Tryd.ntmps9
      go_wp2_with (first | (refine wpList_isW rfl _ _ (exec_load _ _ _ _ rfl rfl (loadSpe _ w.heap.size 0 f (by rw [← HW1.out]; exact R1.out))) ?_) | fail)
      rw [← HW1.out]
      refine MK.out.mono ?_
      rintro e w2 ⟨rfl, k2⟩
      have K12 := hid k2
      have K2 := hid (K1.out.trans k2)
      clear k2
      go_wp2_with fail
      refine (HBE.out _).mono ?_
      rintro e _ ⟨rfl, rfl⟩
      go_wp2_with fail
      go_ret3
      exact pack_no HR2.out K2.out
    | true =>
      have HBE := hid (fun W => pMayBe_any W ino size)
      rw [hb] at HBE
      rw [Bool.and_eq_true] at hk hb
      have hsz := btw_is.1 hb.2
      cases hl : lieB (dbs xs) size with
      | false =>
        have HR2 := hid (show r = ([], [], 1) by
          rw [HR.out]
          unfold packL
          rw [if_neg (fun h => by rw [h.2.2.2.2] at hl; cases hl)])
        have HLI := hid (fun W u hu => pMayLie_any W u xs size hu hsz.1 hsz.2)
        rw [hl] at HLI
        clear hk hb hl hsz
        go_enter Tryd.func9, Tryd.ntmps9
        go_wp2_with (first | (refine wpList_isW rfl _ _ (exec_load _ _ _ _ rfl rfl (loadSpe _ w.heap.size 0 f (by rw [← HW1.out]; exact R1.out))) ?_) | fail)
        rw [← HW1.out]
        refine MK.out.mono ?_
        rintro e w2 ⟨rfl, k2⟩
        have K12 := hid k2
        have K2 := hid (K1.out.trans k2)
        clear k2
        go_wp2_with fail
        refine (HBE.out _).mono ?_
        rintro e _ ⟨rfl, rfl⟩
        go_wp2_with fail
        refine (HLI.out w2 _ (HV.out.keep K12.out)).mono ?_
        rintro e w3 ⟨rfl, k3⟩
        have K34 := hid (K12.out.trans k3)
        have K3 := hid (K2.out.trans k3)
        have B3 := hid (((K34.out).block w.heap.size (lt_of_block HB.out) (by simp)).trans HB.out)
        have R3 := hid (show w3.rangeAt w.heap.size 0 f.cells from range_cells B3.out)
        clear k3
        go_wp2_with fail
        go_ret3
        exact pack_no HR2.out K3.out
      | true =>
        have HLI := hid (fun W u hu => pMayLie_any W u xs size hu hsz.1 hsz.2)
        rw [hl] at HLI
        have hfew := lie_few hl hsz.2
        rw [dbs_len] at hfew
        have HSH := hid (lie_short hl)
        have HR2 := hid (show r = (if 1073741824 < f.n + (layF f (mostI n) (bsOf (dbs xs)) (dbs xs).length).length - 1 then ([], [], 5) else (layF f (mostI n) (bsOf (dbs xs)) (dbs xs).length, delsL ino size (dbs xs) (ptrsL f (mostI n) (bsOf (dbs xs)) (dbs xs).length) (dbs xs).length ++ [cutD ino size], 0)) by
          rw [HR.out]
          unfold packL
          rw [if_pos ⟨hk.1, hk.2, hb.1, hb.2, hl⟩])
        obtain ⟨n3, n16⟩ := maySv_is.1 hk.1
        have hme : (0 ≤ f.n ∧ f.n ≤ 1073741824) := by
          have := hk.2
          unfold mayE msB at this
          simp only [Bool.and_eq_true, btw_is] at this
          omega
        have HN := hid (And.intro (And.intro n3 n16) hme)
        have hll := lay_le f (mostI n) (bsOf (dbs xs)) (dbs xs).length
        rw [dbs_len] at hll
        obtain ⟨fl, hfl⟩ : ∃ fl, fl = layF f (mostI n) (bsOf (dbs xs)) (dbs xs).length := ⟨_, rfl⟩
        rw [← hfl] at HR2
        rw [dbs_len] at hfl
        rw [← hfl] at hll
        have HFL := hid hfl
        obtain ⟨f0, f1⟩ := hme
        by_cases hov : 1073741824 < f.n + (fl.length : Int) - 1
        · have HR3 := hid (show r = ([], [], 5) by rw [HR2.out, if_pos hov])
          have dov : decide (1073741824 < f.n + (fl.length : Int) - 1) = true := by simpa using hov
          clear hk hb hl hsz hov hfl n3 n16
          go_enter Tryd.func9, Tryd.ntmps9
          go_wp2_with (first | (refine wpList_isW rfl _ _ (exec_load _ _ _ _ rfl rfl (loadSpe _ w.heap.size 0 f (by rw [← HW1.out]; exact R1.out))) ?_) | fail)
          rw [← HW1.out]
          refine MK.out.mono ?_
          rintro e w2 ⟨rfl, k2⟩
          have K12 := hid k2
          have K2 := hid (K1.out.trans k2)
          clear k2
          go_wp2_with fail
          refine (HBE.out _).mono ?_
          rintro e _ ⟨rfl, rfl⟩
          go_wp2_with fail
          refine (HLI.out w2 _ (HV.out.keep K12.out)).mono ?_
          rintro e w3 ⟨rfl, k3⟩
          have K34 := hid (K12.out.trans k3)
          have K3 := hid (K2.out.trans k3)
          have B3 := hid (((K34.out).block w.heap.size (lt_of_block HB.out) (by simp)).trans HB.out)
          have R3 := hid (show w3.rangeAt w.heap.size 0 f.cells from range_cells B3.out)
          clear k3
          go_wp2_with (first | (refine wpList_isW rfl _ _ (exec_load _ _ _ _ rfl rfl (loadSpe _ w.heap.size 0 f R3.out)) ?_) | fail)
          refine (pLay_any w3 f n v xs (HV.out.keep K34.out) hfew HSH.out HN.out.1.1 HN.out.1.2 HN.out.2.1 HN.out.2.2).mono ?_
          rintro e w4 ⟨va, vp, rfl, l4, p4, k4⟩
          rw [dbs_len, ← HFL.out] at l4
          obtain ⟨al, cl, rfl⟩ := l4.shape
          obtain ⟨ap, cp, rfl⟩ := p4.shape
          have L4 := hid l4
          have P4 := hid p4
          have K4b := hid k4
          have K4 := hid (K3.out.trans k4)
          have c4 : w4.cell? ⟨w.heap.size, 2, none⟩ = some (.int .i64 f.n) := (range_cells ((k4.block w.heap.size (lt_of_block B3.out) (by simp)).trans B3.out)) 2 _ rfl
          clear l4 p4 k4
          go_wp2_with fail
          go_ret3
          exact pack_no HR3.out K4.out
        · have HR3 := hid (show r = (fl, delsL ino size (dbs xs) (ptrsL f (mostI n) (bsOf (dbs xs)) (dbs xs).length) (dbs xs).length ++ [cutD ino size], 0) by rw [HR2.out, if_neg hov])
          have dov : decide (1073741824 < f.n + (fl.length : Int) - 1) = false := by simp; omega
          clear hk hb hl hsz hov hfl n3 n16
          go_enter Tryd.func9, Tryd.ntmps9
          go_wp2_with (first | (refine wpList_isW rfl _ _ (exec_load _ _ _ _ rfl rfl (loadSpe _ w.heap.size 0 f (by rw [← HW1.out]; exact R1.out))) ?_) | fail)
          rw [← HW1.out]
          refine MK.out.mono ?_
          rintro e w2 ⟨rfl, k2⟩
          have K12 := hid k2
          have K2 := hid (K1.out.trans k2)
          clear k2
          go_wp2_with fail
          refine (HBE.out _).mono ?_
          rintro e _ ⟨rfl, rfl⟩
          go_wp2_with fail
          refine (HLI.out w2 _ (HV.out.keep K12.out)).mono ?_
          rintro e w3 ⟨rfl, k3⟩
          have K34 := hid (K12.out.trans k3)
          have K3 := hid (K2.out.trans k3)
          have B3 := hid (((K34.out).block w.heap.size (lt_of_block HB.out) (by simp)).trans HB.out)
          have R3 := hid (show w3.rangeAt w.heap.size 0 f.cells from range_cells B3.out)
          clear k3
          go_wp2_with (first | (refine wpList_isW rfl _ _ (exec_load _ _ _ _ rfl rfl (loadSpe _ w.heap.size 0 f R3.out)) ?_) | fail)
          refine (pLay_any w3 f n v xs (HV.out.keep K34.out) hfew HSH.out HN.out.1.1 HN.out.1.2 HN.out.2.1 HN.out.2.2).mono ?_
          rintro e w4 ⟨va, vp, rfl, l4, p4, k4⟩
          rw [dbs_len, ← HFL.out] at l4
          obtain ⟨al, cl, rfl⟩ := l4.shape
          obtain ⟨ap, cp, rfl⟩ := p4.shape
          have L4 := hid l4
          have P4 := hid p4
          have K4b := hid k4
          have K4 := hid (K3.out.trans k4)
          have c4 : w4.cell? ⟨w.heap.size, 2, none⟩ = some (.int .i64 f.n) := (range_cells ((k4.block w.heap.size (lt_of_block B3.out) (by simp)).trans B3.out)) 2 _ rfl
          clear l4 p4 k4
          go_wp2_with fail
          refine (pDeltas_any w4 ino size v (.slice ap (ptrsL f (mostI n) (bsOf (dbs xs)) (dbs xs).length).length cp) xs _ (HV.out.keep (K34.out.trans K4b.out)) P4.out hfew (by rw [ptrs_len, dbs_len])).mono ?_
          rintro e w5 ⟨vd, rfl, d5, k5⟩
          have D5 := hid d5
          have K5 := hid k5
          clear d5 k5
          go_wp2_with fail
          go_ret3
          rw [HR3.out]
          have e9 : (dbs xs).length = xs.length := dbs_len xs
          refine ⟨_, _, rfl, L4.out.keep K5.out, ?_, K4.out.trans K5.out⟩
          rw [e9]
          rw [e9] at D5
          exact D5.out
end Go.Proofs.YtcfmonlgpccndaaDoor
