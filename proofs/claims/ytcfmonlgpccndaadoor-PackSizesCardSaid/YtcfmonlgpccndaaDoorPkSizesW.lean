/- pack: the walk of the law PackSizes. -/
import Derived.Test.YtcfmonlgpccndaaDoorPkK
import Derived.Test.YtcfmonlgpccndaaDoorPkSm
namespace Go.Proofs.YtcfmonlgpccndaaDoor
open Go.RowKit Go.Shelf
set_option maxRecDepth 100000
set_option linter.unusedSimpArgs false
set_option linter.unusedVariables false

theorem mk64_14 (w : World) : ∃ w', (Instr.makeSlice 31 (.int .i64 64) (.int .i64 64)).run Tryd.prog w = .ok (.slice (some ⟨w.heap.size, 0, none⟩) 64 64) w' ∧ w'.ownsRow w.heap.size 5 1 (.slice (some ⟨w.heap.size, 0, none⟩) 64 64) 64 ((List.replicate 64 (0 : Int)).map (Value.int .u8)) ∧ Keeps [] w w' := by
  obtain ⟨i, hi, hz, hz5, hz40⟩ := info_parts info5
  obtain ⟨w', hr, ho, hg⟩ := run_make_full (P := Tryd.prog) w w.heap.size 31 5 i _ 1 Tryd.underlying31 hi hz hz5 .i64 .i64 64 (by rw [hz40]; omega) (by unfold maxLen; omega) (Nat.le_refl _)
  refine ⟨w', hr, ?_, (Keeps.refl _ _).grown hg (by simp)⟩
  have e : (madeCells (Value.int .u8 0).cells (64 * 1)).toList = (List.replicate 64 (0 : Int)).map (Value.int .u8) := by
    rw [show (Value.int .u8 0).cells = #[Value.int .u8 0] from rfl, toList_madeCells_one, List.map_replicate]
  rw [← e]
  exact ho
def curF (x : Int) (k : Nat) : List Int := List.replicate k x ++ List.replicate (64 - k) 0
theorem curF_len {x : Int} {k : Nat} (h : k ≤ 64) : (curF x k).length = 64 := by simp [curF]; omega
theorem curF_set {x : Int} {k : Nat} (h : k < 64) : (curF x k).set k x = curF x (k + 1) := by
  unfold curF
  have e : 64 - k = (64 - (k + 1)) + 1 := by omega
  rw [e, List.replicate_succ, List.set_append_right _ _ (by simp), List.length_replicate, Nat.sub_self, List.set_cons_zero, List.replicate_succ']
  simp
theorem curF_all {x : Int} : curF x 64 = rowF x := by simp [curF, rowF]
theorem keeps_own {w w' : World} {B g n c : Nat} {e : TypeId} {s : Nat} {xs : List Value} {S : List Nat} (h : w.ownsRow B e s (.slice (some ⟨g, 0, none⟩) n c) n xs) (k : Keeps S w w') (hs : g ∉ S) : w'.ownsRow B e s (.slice (some ⟨g, 0, none⟩) n c) n xs :=
  ownsRow_keepP h k (fun b hb hm => by simp [Value.ownBlock] at hb; subst hb; exact hs hm)
theorem loadSpe9 (W : World) (b off : Nat) (s : Spe) (hc : W.rangeAt b off s.cells) : (Instr.loadAt 29 (.pointer (some ⟨b, off, none⟩))).run Tryd.prog W = .ok (speV s) W := loadSpe W b off s hc
theorem spe_one14 (s : Spe) : s.cells.toArray.all (·.oneCell') = true := by simp [Spe.cells, Value.oneCell']
theorem iStripe14 : (Tryd.prog.info? 29).map (fun i => (i.zero, i.size)) = some (some (.agg #[.int .i64 0, .int .i64 0, .int .i64 0]), 3) := by kernel_rfl
set_option maxHeartbeats 25600000 in
theorem pSizes_any (w : World) (z m x : Int) (z0 : 0 ≤ z) (z1 : z ≤ 255) (x0 : 0 ≤ x) (x1 : x ≤ 255) (hm : -9223372036854775808 ≤ m ∧ m ≤ 9223372036854775807) :
    Calls Tryd.prog 7 #[.int .u8 z, .int .i64 m, .int .u8 x] w fun e w' => e = .returned (.bool true) ∧ Keeps [] w w' := by
  obtain ⟨c, hc⟩ : ∃ c : Nat, z.tmod 65 = (c : Int) := ⟨(z.tmod 65).toNat, by have := Int.tmod_nonneg 65 z0; omega⟩
  have hc64 : c ≤ 64 := by have := Int.tmod_lt_of_pos z (show (0 : Int) < 65 by decide); omega
  have AW := hid (pAwake_any w)
  have HM := hid hm
  obtain ⟨nn, hnn⟩ : ∃ nn : Int, nn = 3 + m % 14 := ⟨_, rfl⟩
  have n3 : 3 ≤ nn := by have := Int.emod_nonneg m (show (14 : Int) ≠ 0 by decide); omega
  have n16 : nn ≤ 16 := by have := Int.emod_lt_of_pos m (show (0 : Int) < 14 by decide); omega
  have SV := hid (fun W => yServers_any W m)
  rw [← hnn] at SV
  clear hnn hm
  have HX := hid (And.intro x0 x1)
  go_enter Tryd.func7, Tryd.ntmps7
  go_wp2_with fail
  refine AW.out.mono ?_
  rintro e w1 ⟨rfl, k1⟩
  have K1 := hid k1
  clear k1
  go_wp2_with fail
  refine (SV.out w1).mono ?_
  rintro e _ ⟨rfl, rfl⟩
  go_wp2_with fail
  go_loopw [8, 9] (fun lv iv wr => ∃ (k : Nat) (al : Option Addr) (cl : Nat) (xs : List Dr), iv = .int .i64 k ∧ k ≤ c ∧ lv = .slice al k cl ∧ Hid (OwnDt wr w1.heap.size (.slice al k cl) xs) ∧ Hid (dbs xs = dbF x k) ∧ Hid (Keeps [] w wr) ∧ Hid (w1.heap.size ≤ wr.heap.size)) (fun _ iv _ => c - (intOf iv).toNat)
  case atStart => exact ⟨0, none, 0, [], rfl, Nat.zero_le _, rfl, hid (OwnDt.nil _ _), hid rfl, K1, hid (Nat.le_refl _)⟩
  case round =>
    obtain ⟨k, al, cl, xs, rfl, hk, rfl, HO, HD, HK, HS⟩ := hrel
    have hxl : xs.length = k := by have := congrArg List.length HD.out; rwa [dbs_len, dbF_len] at this
    have HXL := hid hxl
    clear hxl
    by_cases hlt : k < c
    · rename World => wo
      obtain ⟨w2, hmk, ho2, k2⟩ := mk64_14 wo
      have HO2 := hid ho2
      have K2 := hid k2
      clear ho2 k2
      go_wp2_with fail
      clear hmk
      go_loopw [11] (fun jv wX => ∃ j : Nat, jv = .int .i64 j ∧ j ≤ 64 ∧ Hid (wX.ownsRow wo.heap.size 5 1 (.slice (some ⟨wo.heap.size, 0, none⟩) 64 64) 64 ((curF x j).map (Value.int .u8))) ∧ Hid (Keeps [] wo wX)) (fun jv _ => 64 - (intOf jv).toNat)
      case atStart => exact ⟨0, rfl, Nat.zero_le _, hid (by simpa [curF] using HO2.out), K2⟩
      case round =>
        obtain ⟨j, rfl, hj, HJ, HKJ⟩ := hrel
        by_cases hj64 : j < 64
        · have hcl := curF_len (x := x) hj
          have hce := HJ.out.cellAt j (by omega)
          have hfr := HJ.out.frozenAt j
          have hst := HJ.out.stored j (.int .u8 x)
          rw [List.getElem?_map, List.getElem?_eq_getElem (by omega), Option.map_some] at hce
          have hs2 : ((curF x j).map (Value.int .u8)).set j (.int .u8 x) = (curF x (j + 1)).map (Value.int .u8) := by rw [← List.map_set, curF_set hj64]
          rw [hs2] at hst
          have HST := hid hst
          obtain ⟨y, hy⟩ : ∃ y, y = (curF x j)[j]'(by omega) := ⟨_, rfl⟩
          rw [← hy] at hce
          have HKN := hid (HKJ.out.grown hst.2 (fun q hq => by right; have := Option.some.inj hq; omega))
          clear hcl hst hs2 hy
          go_wp2_with fail
          go_roundw
          case rel => exact ⟨j + 1, by go_num, by omega, hid HST.out.1, HKN⟩
          case measure => simp [intOf]; omega
        · obtain rfl : j = 64 := by omega
          have hrow : RowAt wr (.slice (some ⟨wo.heap.size, 0, none⟩) 64 64) (rowF x) := by
            have h := HJ.out
            rw [curF_all] at h
            have e : (rowF x).length = 64 := by simp [rowF]
            have := row_of_own (zs := rowF x) (by rw [e]; exact h) (fun q hq => by
              have : q = x := List.eq_of_mem_replicate hq
              subst this
              exact HX.out)
            exact this
          have HROW := hid hrow
          have ol : OwnDt wr w1.heap.size (.slice al k cl) xs := HO.out.keep HKJ.out (by simp) (fun i h => by intro _ _ _ _ _; simp)
          have hoff : Off (Value.slice al k cl).ownBlock.toList (.slice (some ⟨wo.heap.size, 0, none⟩) 64 64) (rowF x) := fun ad m' c' e hne hm' => by
            injection e with e _ _
            injection e with e
            subst e
            have := (HO.out.blk wo.heap.size (by simpa using hm')).2
            omega
          obtain ⟨a3, c3, w3, hr3, o3, k3⟩ := append_dt ol ⟨(k : Int), .slice (some ⟨wo.heap.size, 0, none⟩) 64 64, rowF x⟩ hrow hoff (by simp [rowF]) (by have := HXL.out; omega) (Nat.le_trans HS.out HKJ.out.size)
          rw [HXL.out] at hr3 o3
          have RUN := hid hr3
          have O3 := hid o3
          have D3 := hid (show dbs (xs ++ [⟨(k : Int), .slice (some ⟨wo.heap.size, 0, none⟩) 64 64, rowF x⟩]) = dbF x (k + 1) by
            rw [dbF_succ, ← HD.out]
            simp [dbs, Dr.db])
          have K3 := hid ((HK.out.trans HKJ.out).trans' k3 (fun i hi hm' => by
            have := (HO.out.blk i (by simpa using hm')).1
            have := K1.out.size
            omega))
          have S3 := hid (Nat.le_trans (Nat.le_trans HS.out HKJ.out.size) k3.size)
          clear hrow ol hoff hr3 o3 k3
          go_wp2_with (first | (refine wpList_is rfl _ _ (exec_buildDt _ _ rfl _ _ _ _ rfl rfl) ?_) | (refine wpList_is rfl _ _ (exec_oneDt _ _ _ _ _ rfl rfl) ?_) | (refine wpList_is rfl _ _ (exec_appendT 34 _ _ rfl rfl rfl RUN.out) ?_) | fail)
          go_roundw
          case rel => exact ⟨k + 1, a3, c3, _, by go_num, by omega, rfl, O3, D3, K3, S3⟩
          case measure => simp [intOf]; omega
    · obtain rfl : k = c := by omega
      have HV := hid HO.out.at
      have A2 := hid (yStripe_any wr m HM.out)
      obtain ⟨per, hper⟩ : ∃ per : Nat, per = (mostI nn / 64).toNat := ⟨_, rfl⟩
      have hp0 : (per : Int) * 64 ≤ mostI nn ∧ mostI nn < (per : Int) * 64 + 64 := by rw [hper]; unfold mostI; omega
      have hp1 : 12 ≤ per := by rw [hper]; unfold mostI; omega
      have hp2 : per ≤ 93 := by rw [hper]; unfold mostI; omega
      have hq1 : (400 * (nn - 1)).tdiv 64 = (per : Int) := by
        rw [Int.tdiv_eq_ediv_of_nonneg (by omega), hper]
        unfold mostI
        omega
      have HPER := hid hp0
      clear hper hp0
      go_wp2_with fail
      refine A2.out.mono ?_
      rintro e w2 ⟨rfl, k2⟩
      have K2 := hid (HK.out.trans k2)
      have HP0 := pPack_any w2 3 4096 (speM m) nn _ xs (HV.out.keep k2)
      rw [HD.out, pack_sizes hc64 m nn ⟨n3, n16⟩] at HP0
      have HP := hid HP0
      unfold speV
      clear k2 HP0
      go_wp2_with fail
      refine HP.out.mono ?_
      rintro e w3 ⟨va, vd, rfl, f3, d3, k3⟩
      simp only at f3 d3
      obtain ⟨aa, ca, rfl⟩ := f3.shape
      obtain ⟨ad, cd, rfl⟩ := d3.shape
      have hdl : (delsL 3 4096 (dbF x k) (ptrsL (speM m) (mostI nn) (bsOf (dbF x k)) k) k ++ [cutD 3 4096]).length = k + 1 := by simp [dels_len]
      rw [hdl]
      have K3 := hid (K2.out.trans k3)
      have GF := hid (good_lay (f := speM m) (m := mostI nn) (bs := bsOf (dbF x k)) (fun j => by
        by_cases h : j < k
        · rw [bsF_get h]; simp [rowF]
        · rw [List.getD_eq_getElem?_getD, List.getElem?_eq_none (by simp [bsOf, dbF_len]; omega)]; simp) (by unfold mostI; omega) k)
      have LE := lay_le (speM m) (mostI nn) (bsOf (dbF x k)) k
      have SN := hid (speM_may m).2
      have FX := hid (fun (h : x ≠ 0) => sz_lay (speM m) (mostI nn) per HPER.out (by omega) h k k (Nat.le_refl _))
      have FZ := hid (fun (h : x = 0) => show layF (speM m) (mostI nn) (bsOf (dbF x k)) k = [] by rw [h]; exact lay_zero _ _ k k (Nat.le_refl _))
      obtain ⟨fl, hfl⟩ : ∃ fl, fl = layF (speM m) (mostI nn) (bsOf (dbF x k)) k := ⟨_, rfl⟩
      rw [← hfl] at f3 GF LE FX FZ ⊢
      have F3 := hid f3
      clear hfl f3 d3 k3 hdl
      by_cases hx0 : x = 0
      · have hnil := FZ.out hx0
        subst hnil
        subst hx0
        obtain ⟨L, hL⟩ : ∃ L : Int, ((k : Int) + (per : Int) - 1).tdiv (per : Int) = L := ⟨_, rfl⟩
        have hL0 : 0 ≤ L := by rw [← hL]; exact Int.tdiv_nonneg (by omega) (by omega)
        have hL1 : L ≤ 1000 := by rw [← hL, Int.tdiv_eq_ediv_of_nonneg (by omega)]; exact Int.le_trans (Int.ediv_le_self _ (by omega)) (by omega)
        have hpz : ((per : Int) == 0) = false := by rw [beq_eq_false_iff_ne]; omega
        simp only [List.length_nil] at *
        go_wp2_with fail
        clear hq1 hpz hL hL0 hL1
        go_loopw [17, 18] (fun sv iv wr => ∃ i : Nat, iv = .int .i64 i ∧ i ≤ ([] : List Fl).length ∧ sv = .int .i64 ((tot (([] : List Fl).take i) : Nat) : Int) ∧ Hid (Keeps [] w3 wr)) (fun _ iv _ => ([] : List Fl).length - (intOf iv).toNat)
        case atStart => exact ⟨0, rfl, Nat.zero_le _, by simp [tot], hid (Keeps.refl _ _)⟩
        case round =>
          obtain ⟨i, rfl, hi, rfl, HKI⟩ := hrel
          obtain rfl : i = 0 := by simpa using hi
          simp only [List.take_nil, tot_nil, List.length_nil] at *
          go_wp2_with fail
          go_ret
          exact ⟨rfl, K3.out.trans HKI.out⟩
      · have hxb : (x == (0 : Int)) = false := by simpa using hx0
        have S := FX.out hx0
        have hcount := S.count (by omega)
        have hL : ((k : Int) + (per : Int) - 1).tdiv (per : Int) = (fl.length : Int) := by
          rw [Int.tdiv_eq_ediv_of_nonneg (by omega), hcount]
          have : (k : Int) + (per : Int) - 1 = ((k + per - 1 : Nat) : Int) := by omega
          rw [this]
          exact (Int.natCast_ediv _ _).symm
        have hpz : ((per : Int) == 0) = false := by rw [beq_eq_false_iff_ne]; omega
        have HT := hid S.all
        clear hcount S FX FZ
        go_wp2_with fail
        clear hq1 hpz hL
        go_loopw [17, 18] (fun sv iv wr => ∃ i : Nat, iv = .int .i64 i ∧ i ≤ fl.length ∧ sv = .int .i64 ((tot (fl.take i) : Nat) : Int) ∧ Hid (Keeps [] w3 wr)) (fun _ iv _ => fl.length - (intOf iv).toNat)
        case atStart => exact ⟨0, rfl, Nat.zero_le _, by simp [tot], hid (Keeps.refl _ _)⟩
        case round =>
          obtain ⟨i, rfl, hi, rfl, HKI⟩ := hrel
          by_cases hil : i < fl.length
          · obtain ⟨ga, oa, rfl, hga, F0⟩ := (F3.out.keep HKI.out).at i hil
            have hst := GF.out.st i hil
            have hfew := GF.out.few i hil
            have hmost : mostI nn ≤ 6000 := by unfold mostI; omega
            have R0 := F0.name
            rw [hst] at R0
            obtain ⟨ar, cr, c3, _⟩ := F0.data
            have htk := tot_take hil
            have hbd : tot (fl.take i) + (fl[i]).d.length ≤ 64 * k := by
              have e := HT.out
              have e2 : tot fl = tot (fl.take (i + 1)) + tot (fl.drop (i + 1)) := by rw [← tot_append, List.take_append_drop]
              omega
            obtain ⟨ld, hld⟩ : ∃ q, q = (fl[i]).d.length := ⟨_, rfl⟩
            rw [← hld] at c3 htk hfew hbd
            obtain ⟨ts, hts⟩ : ∃ q, q = tot (fl.take i) := ⟨_, rfl⟩
            rw [← hts] at htk hbd ⊢
            have HTK := hid htk
            have HR0 := hid R0
            have HGA := hid hga
            have HC3 := hid c3
            have A3 := hid (yStripe_any wr m HM.out)
            clear F0 hst R0 hld hts htk hga c3
            go_wp2_with fail
            refine A3.out.mono ?_
            rintro e w4 ⟨rfl, k4⟩
            obtain ⟨w5, hw5⟩ : ∃ q, q = w4.alloc (.cells (speM m).cells.toArray 29) := ⟨_, rfl⟩
            have b5 : w5.heap[w4.heap.size]? = some (.cells #[.int .i64 (speM m).c, .int .i64 (speM m).l, .int .i64 (speM m).n] 29 (0, 0)) := by rw [hw5]; exact heap_alloc_new w4 _
            have q5 : w5.cell? ⟨w4.heap.size, 2, none⟩ = some (.int .i64 (speM m).n) := by simp [World.cell?, b5]
            have f5 : w5.frozen? ⟨w4.heap.size, 2, none⟩ = false := frozen_of_row w5 _ 2 _ _ b5
            have b6 := heap_setCell_same w5 w4.heap.size 2 _ _ (.int .i64 ((speM m).n + i)) b5
            obtain ⟨w6, hw6⟩ : ∃ q, q = w5.setCell ⟨w4.heap.size, 2, none⟩ (.int .i64 ((speM m).n + i)) := ⟨_, rfl⟩
            rw [← hw6] at b6
            have k5 : Keeps [] wr w5 := by rw [hw5]; exact k4.alloc _
            have k6 : Keeps [] wr w6 := by rw [hw6]; exact k5.setCell (.inr k4.size) _
            have HK6 := hid k6
            have HW5 := hid hw5
            have HW6 := hid hw6
            have R6 := hid (show w6.rangeAt w4.heap.size 0 (nextS (speM m) i).cells from range_cells (by rw [b6]; rfl))
            have S6 := hid (show w4.heap.size < w6.heap.size from lt_of_block b6)
            have hn0 := SN.out.1
            have hn1 := SN.out.2
            clear hw5 hw6 k5 k6 b5 b6 k4
            go_wp2_with (first | (refine wpList_is rfl _ _ (exec_alloc 29 #[.int .i64 0, .int .i64 0, .int .i64 0] iStripe14 rfl) ?_) | (refine wpList_noval rfl _ (exec_storeNew 29 _ _ rfl w4 #[.int .i64 0, .int .i64 0, .int .i64 0] (speM m).cells.toArray rfl rfl rfl iStripe14 rfl (spe_one14 _)) ?_; rw [← HW5.out]) | (refine wpList_noval rfl _ (exec_storeIn _ _ rfl rfl rfl q5 f5) ?_; rw [← HW6.out]) | fail)
            refine wp_region_any (by kernel_rfl) (wpAny_of_held (S := KpS [] w6.heap.size w6.drew) _ _ _ _ ?_)
            change wpAnyH _ _ _ _ _ _ _ _ w6.drew
            have D0 : ∀ W1, KpS [] w6.heap.size w6.drew W1 → W1.rangeAt ga (oa + i * 4) (nextS (speM m) i).cells := fun W1 h j v hv => h.cell (by rw [World.cell?_drew]; exact (range_keep HR0.out HK6.out (by simp)) j v hv) (Nat.lt_of_lt_of_le HGA.out HK6.out.size) (by simp)
            have D1 : ∀ W1, KpS [] w6.heap.size w6.drew W1 → W1.rangeAt w4.heap.size 0 (nextS (speM m) i).cells := fun W1 h j v hv => h.cell (by rw [World.cell?_drew]; exact R6.out j v hv) S6.out (by simp)
            refine held_take (i := 0) (v := .slice (some ⟨ga, oa, none⟩) fl.length ca) rfl (by kernel_rfl) (by kernel_rfl) (by kernel_rfl) (fun _ _ _ h => h) rfl (fun W1 hW1 => rfl) (KpS.refl _ _ _) ?_
            simp only [Act.put, List.setIfInBounds_toArray, List.set_cons_zero, List.set_cons_succ]
            refine held_take (i := 1) (v := .int .i64 (i : Int)) rfl (by kernel_rfl) (by kernel_rfl) (by kernel_rfl) (fun _ _ _ h => h) rfl (fun W1 hW1 => rfl) (KpS.refl _ _ _) ?_
            simp only [Act.put, List.setIfInBounds_toArray, List.set_cons_zero, List.set_cons_succ]
            refine held_take (i := 2) (v := .pointer (some ⟨ga, oa + i * 4, none⟩)) rfl (by kernel_rfl) (by kernel_rfl) (by kernel_rfl) (fun _ _ _ h => h) rfl (fun W1 hW1 => by go_simp) (KpS.refl _ _ _) ?_
            simp only [Act.put, List.setIfInBounds_toArray, List.set_cons_zero, List.set_cons_succ]
            refine held_take (i := 3) (v := .pointer (some ⟨ga, oa + i * 4, none⟩)) rfl (by kernel_rfl) (by kernel_rfl) (by kernel_rfl) (fun _ _ _ h => h) rfl (fun W1 hW1 => by go_simp) (KpS.refl _ _ _) ?_
            simp only [Act.put, List.setIfInBounds_toArray, List.set_cons_zero, List.set_cons_succ]
            refine held_take (i := 4) (v := speV (nextS (speM m) i)) rfl (by kernel_rfl) (by kernel_rfl) (by kernel_rfl) (fun _ _ _ h => h) rfl (fun W1 hW1 => exec_load _ _ _ _ rfl rfl (loadSpe W1 ga (oa + i * 4) _ (D0 W1 hW1))) (KpS.refl _ _ _) ?_
            simp only [Act.put, List.setIfInBounds_toArray, List.set_cons_zero, List.set_cons_succ]
            refine held_take (i := 5) (v := speV (nextS (speM m) i)) rfl (by kernel_rfl) (by kernel_rfl) (by kernel_rfl) (fun _ _ _ h => h) rfl (fun W1 hW1 => exec_load _ _ _ _ rfl rfl (loadSpe W1 w4.heap.size 0 _ (D1 W1 hW1))) (KpS.refl _ _ _) ?_
            simp only [Act.put, List.setIfInBounds_toArray, List.set_cons_zero, List.set_cons_succ]
            refine held_take (i := 6) (v := .bool false) rfl (by kernel_rfl) (by kernel_rfl) (by kernel_rfl) (fun _ _ _ h => h) rfl (fun W1 hW1 => (exec_neqSpe _ _ _ (nextS (speM m) i) (nextS (speM m) i) rfl rfl rfl).trans (by simp)) (KpS.refl _ _ _) ?_
            simp only [Act.put, List.setIfInBounds_toArray, List.set_cons_zero, List.set_cons_succ]
            refine wpAnyH_done (by kernel_rfl) ?_ _
            clear D0 D1
            have c8 : w6.drew.cell? ⟨ga, oa + i * 4 + 3, none⟩ = some (.slice ar ld cr) := HK6.out.cell' HC3.out (by simp)
            go_wp2_with fail
            go_roundw
            case rel => exact ⟨i + 1, by go_num, by omega, by rw [HTK.out]; go_num, hid (HKI.out.trans HK6.out.drew)⟩
            case measure => simp [intOf]; omega
          · obtain rfl : i = fl.length := by omega
            rw [List.take_length, HT.out]
            have e64 : (64 * (k : Int) == (k : Int) * 64) = true := by rw [beq_iff_eq]; omega
            go_wp2_with fail
            go_ret
            exact ⟨rfl, K3.out.trans HKI.out⟩
end Go.Proofs.YtcfmonlgpccndaaDoor
