/- pack: the walk of the law PackTwice. -/
import Derived.Test.YtcfmonlgpccndaaDoorPkBackW
import Derived.Test.YtcfmonlgpccndaaDoorPkTw
namespace Go.Proofs.YtcfmonlgpccndaaDoor
open Go.RowKit Go.Shelf
set_option maxRecDepth 100000
set_option linter.unusedSimpArgs false
set_option linter.unusedVariables false

/-- Packed twice: refused both, or done both. -/
theorem twice_ok {c : Nat} {m nn : Int} {l : List Db} (hc : c ≤ 4096) (hn : 3 ≤ nn ∧ nn ≤ 16) :
    (PackOk 2 c (speM m) nn l ∧ PackOk 2 c (shS (speM m)) nn l) ∨ (packL 2 c (speM m) nn l = ([], [], 1) ∧ packL 2 c (shS (speM m)) nn l = ([], [], 1)) := by
  obtain ⟨s1, s2, s3⟩ := speM_may m
  have e2 : mayE (shS (speM m)) = true := by
    unfold mayE msB at *
    simp only [Bool.and_eq_true, btw_is] at *
    exact ⟨s1.1, by show 0 ≤ (speM m).n + 100; omega, by show (speM m).n + 100 ≤ 1073741824; omega⟩
  have hz : btw (c : Int) 0 4096 = true := btw_is.2 ⟨by omega, by omega⟩
  by_cases h : lieB l c = true
  · left
    have hl := lie_few h (by omega)
    have l1 := lay_le (speM m) (mostI nn) (bsOf l) l.length
    have l2 := lay_le (shS (speM m)) (mostI nn) (bsOf l) l.length
    have n2 : (shS (speM m)).n = (speM m).n + 100 := rfl
    refine ⟨⟨hn, s1, ⟨by omega, by omega⟩, h, by omega, ?_⟩, ⟨hn, e2, ⟨by omega, by omega⟩, h, by omega, ?_⟩⟩
    · unfold packL
      rw [if_pos ⟨maySv_is.2 hn, s1, by decide, hz, h⟩, if_neg (by omega)]
    · unfold packL
      rw [if_pos ⟨maySv_is.2 hn, e2, by decide, hz, h⟩, if_neg (by omega)]
  · right
    constructor <;> (unfold packL; rw [if_neg (fun q => h q.2.2.2.2)])
theorem ptrs_may {xs : List Dr} {ino size : Int} {f : Spe} {n : Int} (P : PackOk ino size f n (dbs xs)) : ∀ k, k < (dbs xs).length → mayP ((ptrsL f (mostI n) (bsOf (dbs xs)) (dbs xs).length).getD k pZ) = true := fun k hk => by
  rw [List.getD_eq_getElem?_getD, List.getElem?_eq_getElem (by rw [ptrs_len]; exact hk), Option.getD_some, ptrs_get]
  exact ptr_may P.e P.sv (bs_short P.lie) hk P.few
/-- Both maps behind all deltas. -/
theorem twice_maps {xs : List Dr} {c : Nat} {f : Spe} {n : Int} (P : PackOk 2 c f n (dbs xs)) (Q : PackOk 2 c (shS f) n (dbs xs)) :
    let ds := delsL 2 c (dbs xs) (ptrsL f (mostI n) (bsOf (dbs xs)) xs.length) xs.length ++ [cutD 2 c]
    let cs := delsL 2 c (dbs xs) (ptrsL (shS f) (mostI n) (bsOf (dbs xs)) xs.length) xs.length ++ [cutD 2 c]
    (runD bk0 ds).sz = c ∧ (runD (runD bk0 ds) cs).sz = c ∧ (runD bk0 ds).L.length = cnt c ∧ (runD (runD bk0 ds) cs).L.length = cnt c ∧ ∀ b, TwR (atB (runD bk0 ds).L b) (atB (runD (runD bk0 ds) cs).L b) := by
  have e := dbs_len xs
  have R1 := runD_pack (ino := 2) good0 (show bk0.sz ≤ (c : Int) by show (0 : Int) ≤ c; omega) P.sz.1 P.sz.2 P.lie (ptrs_may P)
  rw [e] at R1
  have G1 := good_runD good0 (delsL 2 c (dbs xs) (ptrsL f (mostI n) (bsOf (dbs xs)) xs.length) xs.length ++ [cutD 2 c])
  have q := ptrs_may Q
  have R2 := runD_pack (ino := 2) G1 (by rw [R1.1]; exact Int.le_refl _) Q.sz.1 Q.sz.2 Q.lie q
  rw [e] at R2
  have G2 := good_runD G1 (delsL 2 c (dbs xs) (ptrsL (shS f) (mostI n) (bsOf (dbs xs)) xs.length) xs.length ++ [cutD 2 c])
  refine ⟨R1.1, R2.1, by rw [G1.len, R1.1], by rw [G2.len, R2.1], fun b => ?_⟩
  rw [R2.2 b, R1.2 b]
  have e0 : atB bk0.L b = pZ := by
    unfold atB bk0
    split <;> rfl
  rw [e0]
  refine pick_two (fun k => ?_) xs.length
  by_cases hk : k < xs.length
  · rw [List.getD_eq_getElem?_getD, List.getElem?_eq_getElem (by rw [ptrs_len]; exact hk), List.getD_eq_getElem?_getD, List.getElem?_eq_getElem (by rw [ptrs_len]; exact hk), Option.getD_some, Option.getD_some, ptrs_get, ptrs_get]
    exact ptrK_sh f (mostI n) (bsOf (dbs xs)) k
  · rw [List.getD_eq_getElem?_getD, List.getElem?_eq_none (by rw [ptrs_len]; omega), List.getD_eq_getElem?_getD, List.getElem?_eq_none (by rw [ptrs_len]; omega)]
    exact .inl ⟨rfl, rfl⟩
theorem good_at {s : Bk} (h : GoodB s) (b : Int) : mayP (atB s.L b) = true := by
  by_cases e : atB s.L b = pZ
  · rw [e]; exact mayP_zero
  · obtain ⟨h0, h1⟩ := atB_mem e
    have : atB s.L b = s.L[b.toNat] := by
      unfold atB
      rw [if_pos h0, List.getD_eq_getElem?_getD, List.getElem?_eq_getElem h1]
      rfl
    rw [this]
    exact h.may _ (List.getElem_mem h1)
theorem spe_one14b (s : Spe) : s.cells.toArray.all (·.oneCell') = true := by simp [Spe.cells, Value.oneCell']
theorem iStripe14b : (Tryd.prog.info? 29).map (fun i => (i.zero, i.size)) = some (some (.agg #[.int .i64 0, .int .i64 0, .int .i64 0]), 3) := by kernel_rfl
set_option maxHeartbeats 51200000 in
theorem pTwice_any (w : World) (z m : Int) (v : Value) (xs : List Dr) (hz : 0 ≤ z ∧ z ≤ 65535) (hm : -9223372036854775808 ≤ m ∧ m ≤ 9223372036854775807) (hv : DsAt w v xs) :
    Calls Tryd.prog 6 #[.int .u16 z, .int .i64 m, v] w fun e w' => e = .returned (.bool true) ∧ Keeps [] w w' := by
  obtain ⟨z0, z1⟩ := hz
  obtain ⟨c, hc⟩ : ∃ c : Nat, z.tmod 4097 = (c : Int) := ⟨(z.tmod 4097).toNat, by have := Int.tmod_nonneg 4097 z0; omega⟩
  have hc96 : c ≤ 4096 := by have := Int.tmod_lt_of_pos z (show (0 : Int) < 4097 by decide); omega
  obtain ⟨a, cv, rfl⟩ := hv.shape
  have AW := hid (pAwake_any w)
  have HM := hid hm
  have HV := hid hv
  obtain ⟨nn, hnn⟩ : ∃ nn : Int, nn = 3 + m % 14 := ⟨_, rfl⟩
  have n3 : 3 ≤ nn := by have := Int.emod_nonneg m (show (14 : Int) ≠ 0 by decide); omega
  have n16 : nn ≤ 16 := by have := Int.emod_lt_of_pos m (show (0 : Int) < 14 by decide); omega
  have SV := hid (fun W => yServers_any W m)
  rw [← hnn] at SV
  clear hnn hm hv
  go_enter Tryd.func6, Tryd.ntmps6
  go_wp2_with fail
  refine AW.out.mono ?_
  rintro e w1 ⟨rfl, k1⟩
  have K1 := hid k1
  clear k1
  go_wp2_with fail
  refine (pSmall_any w1 _ xs (HV.out.keep K1.out)).mono ?_
  cases hsm : small14 (dbs xs) with
  | false =>
    rintro e w2 ⟨rfl, k2⟩
    have K2 := hid (K1.out.trans k2)
    clear k2 hsm
    go_wp2_with fail
    go_ret
    exact ⟨rfl, K2.out⟩
  | true =>
    rintro e w2 ⟨rfl, k2⟩
    have K2 := hid (K1.out.trans k2)
    have h70 := (small14_is hsm).1
    rw [dbs_len] at h70
    clear k2 hsm
    go_wp2_with fail
    refine (SV.out w2).mono ?_
    rintro e _ ⟨rfl, rfl⟩
    have A2 := hid (yStripe_any w2 m HM.out)
    go_wp2_with fail
    refine A2.out.mono ?_
    rintro e w3 ⟨rfl, k3⟩
    obtain ⟨w4, hw4⟩ : ∃ q, q = w3.alloc (.cells (speM m).cells.toArray 29) := ⟨_, rfl⟩
    obtain ⟨w5, hw5⟩ : ∃ q, q = w4.alloc (.cells (speM m).cells.toArray 29) := ⟨_, rfl⟩
    have b4 : w4.heap[w3.heap.size]? = some (.cells #[.int .i64 (speM m).c, .int .i64 (speM m).l, .int .i64 (speM m).n] 29 (0, 0)) := by rw [hw4]; exact heap_alloc_new w3 _
    have b5 : w5.heap[w4.heap.size]? = some (.cells #[.int .i64 (speM m).c, .int .i64 (speM m).l, .int .i64 (speM m).n] 29 (0, 0)) := by rw [hw5]; exact heap_alloc_new w4 _
    have k45 : Keeps [] w4 w5 := by rw [hw5]; exact (Keeps.refl [] w4).alloc _
    have b45 := (k45.block _ (lt_of_block b4) (by simp)).trans b4
    have q4 : w5.cell? ⟨w3.heap.size, 2, none⟩ = some (.int .i64 (speM m).n) := by simp [World.cell?, b45]
    have q5 : w5.cell? ⟨w4.heap.size, 2, none⟩ = some (.int .i64 (speM m).n) := by simp [World.cell?, b5]
    have f5 : w5.frozen? ⟨w4.heap.size, 2, none⟩ = false := frozen_of_row w5 _ 2 _ _ b5
    have b6 := heap_setCell_same w5 w4.heap.size 2 _ _ (.int .i64 ((speM m).n + 100)) b5
    have b46 := heap_setCell_other w5 ⟨w4.heap.size, 2, none⟩ w3.heap.size (.int .i64 ((speM m).n + 100)) (by have := lt_of_block b4; show w3.heap.size ≠ w4.heap.size; omega)
    obtain ⟨w6, hw6⟩ : ∃ q, q = w5.setCell ⟨w4.heap.size, 2, none⟩ (.int .i64 ((speM m).n + 100)) := ⟨_, rfl⟩
    rw [← hw6] at b6 b46
    have k4 : Keeps [] w3 w4 := by rw [hw4]; exact (Keeps.refl [] w3).alloc _
    have k5 : Keeps [] w w5 := (K2.out.trans k3).trans (k4.trans k45)
    have k6 : Keeps [] w w6 := by rw [hw6]; exact k5.setCell (.inr (by show w.heap.size ≤ w4.heap.size; exact ((K2.out.trans k3).trans k4).size)) _
    have HR4 := hid (show w4.rangeAt w3.heap.size 0 (speM m).cells from range_cells b4)
    have S6 := hid (show w6.rangeAt w3.heap.size 0 (speM m).cells from range_cells (b46.trans b45))
    have T6 := hid (show w6.rangeAt w4.heap.size 0 (shS (speM m)).cells from range_cells (by rw [b6]; rfl))
    have L6 := hid (show w3.heap.size < w6.heap.size ∧ w4.heap.size < w6.heap.size from ⟨lt_of_block (b46.trans b45), lt_of_block b6⟩)
    have HW4 := hid hw4
    have HW5 := hid hw5
    have HW6 := hid hw6
    have K6 := hid k6
    have SN := speM_may m
    have hn0 := SN.2.1
    have hn1 := SN.2.2
    clear hw4 hw5 hw6 b4 b5 k45 b45 b6 b46 k4 k5 k6 SN k3
    go_wp2_with (first | (refine wpList_is rfl _ _ (exec_alloc 29 #[.int .i64 0, .int .i64 0, .int .i64 0] iStripe14b rfl) ?_) | (refine wpList_noval rfl _ (exec_storeNew 29 _ _ rfl w3 #[.int .i64 0, .int .i64 0, .int .i64 0] (speM m).cells.toArray rfl rfl rfl iStripe14b rfl (spe_one14b _)) ?_; rw [← HW4.out]) | (refine wpList_noval rfl _ (exec_storeNew 29 _ _ rfl w4 #[.int .i64 0, .int .i64 0, .int .i64 0] (speM m).cells.toArray rfl rfl rfl iStripe14b rfl (spe_one14b _)) ?_; rw [← HW5.out]) | (refine wpList_is rfl _ _ (exec_load _ _ _ _ rfl rfl (loadSpe _ w3.heap.size 0 _ HR4.out)) ?_) | (refine wpList_noval rfl _ (exec_storeIn _ _ rfl rfl rfl q5 f5) ?_; rw [← HW6.out]) | fail)
    have R9 := S6
    have L9 := hid L6.out.1
    have KB9 := K6
    rcases twice_ok (m := m) (l := dbs xs) hc96 ⟨n3, n16⟩ with ⟨P, Q⟩ | ⟨E1, E2⟩
    · -- both are done
      go_wp2_with fail
      refine wp_region_any (by kernel_rfl) (wpAny_of_held (S := KpS [] w6.heap.size w6.drew) _ _ _ _ ?_)
      change wpAnyH _ _ _ _ _ _ _ _ w6.drew
      have s0 : KpS [] w6.heap.size w6.drew w6.drew := KpS.refl _ _ _
      have D0 : ∀ W1, KpS [] w6.heap.size w6.drew W1 → W1.rangeAt w3.heap.size 0 (speM m).cells := fun W1 h j v hv => h.cell (by rw [World.cell?_drew]; exact R9.out j v hv) L9.out (by simp)
      refine held_take (i := 0) (v := .int .u16 z) rfl (by kernel_rfl) (by kernel_rfl) (by kernel_rfl) (fun _ _ _ h => h) rfl (fun W1 hW1 => rfl) (KpS.refl _ _ _) ?_
      simp only [Act.put, List.setIfInBounds_toArray, List.set_cons_zero, List.set_cons_succ]
      refine held_take (i := 1) (v := .int .i64 z) rfl (by kernel_rfl) (by kernel_rfl) (by kernel_rfl) (fun _ _ _ h => h) rfl (fun W1 hW1 => by go_simp; exact IntWalk.i64_in _ (by omega)) (KpS.refl _ _ _) ?_
      simp only [Act.put, List.setIfInBounds_toArray, List.set_cons_zero, List.set_cons_succ]
      refine held_take (i := 2) (v := .int .i64 (c : Int)) rfl (by kernel_rfl) (by kernel_rfl) (by kernel_rfl) (fun _ _ _ h => h) rfl (fun W1 hW1 => by go_simp) (KpS.refl _ _ _) ?_
      simp only [Act.put, List.setIfInBounds_toArray, List.set_cons_zero, List.set_cons_succ]
      refine held_take (i := 3) (v := speV (speM m)) rfl (by kernel_rfl) (by kernel_rfl) (by kernel_rfl) (fun _ _ _ h => h) rfl (fun W1 hW1 => exec_load _ _ _ _ rfl rfl (loadSpe W1 w3.heap.size 0 _ (D0 W1 hW1))) (KpS.refl _ _ _) ?_
      simp only [Act.put, List.setIfInBounds_toArray, List.set_cons_zero, List.set_cons_succ]
      refine held_take (i := 4) (v := .int .i64 nn) rfl (by kernel_rfl) (by kernel_rfl) (by kernel_rfl) (fun _ _ _ h => h) rfl (fun W1 hW1 => rfl) (KpS.refl _ _ _) ?_
      simp only [Act.put, List.setIfInBounds_toArray, List.set_cons_zero, List.set_cons_succ]
      refine held_take (i := 5) (v := .slice a xs.length cv) rfl (by kernel_rfl) (by kernel_rfl) (by kernel_rfl) (fun _ _ _ h => h) rfl (fun W1 hW1 => rfl) (KpS.refl _ _ _) ?_
      simp only [Act.put, List.setIfInBounds_toArray, List.set_cons_zero, List.set_cons_succ]
      refine held_do (i := 6) (by kernel_rfl) rfl rfl (wp_enter (f := 13) (args := #[.slice a xs.length cv]) (by go_simp) (pDirty_any w6.drew _ xs (HV.out.keep KB9.out.drew) h70) ?_)
      rintro e wd9 ⟨u9, rfl, du9, kd9⟩
      have s1 : KpS [] w6.heap.size w6.drew wd9 := s0.keeps kd9 s0.size (by simp)
      refine ⟨_, rfl, s1, ?_⟩
      simp only [Act.put, List.setIfInBounds_toArray, List.set_cons_zero, List.set_cons_succ]
      refine held_do (i := 7) (by kernel_rfl) rfl rfl (wp_enter (f := 9) (args := #[.int .i64 2, .int .i64 (c : Int), speV (speM m), .int .i64 nn, u9]) (by go_simp) (pPack_any wd9 2 (c : Int) (speM m) nn u9 xs du9) ?_)
      rintro e wp9 ⟨va9, vd9, rfl, f9, d9, kp9⟩
      have s2 : KpS [] w6.heap.size w6.drew wp9 := s1.keeps kp9 s1.size (by simp)
      rw [P.is] at f9 d9 ⊢
      simp only at f9 d9 ⊢
      refine ⟨_, rfl, s2, ?_⟩
      simp only [Act.put, List.setIfInBounds_toArray, List.set_cons_zero, List.set_cons_succ]
      refine held_take (i := 8) (v := .tuple #[va9, vd9, .int .i64 0]) rfl (by kernel_rfl) (by kernel_rfl) (by kernel_rfl) (fun _ _ _ h => h) rfl (fun W1 hW1 => rfl) (s2) ?_
      simp only [Act.put, List.setIfInBounds_toArray, List.set_cons_zero, List.set_cons_succ]
      refine held_take (i := 9) (v := va9) rfl (by kernel_rfl) (by kernel_rfl) (by kernel_rfl) (fun _ _ _ h => h) rfl (fun W1 hW1 => by go_simp) (s2) ?_
      simp only [Act.put, List.setIfInBounds_toArray, List.set_cons_zero, List.set_cons_succ]
      refine held_take (i := 10) (v := vd9) rfl (by kernel_rfl) (by kernel_rfl) (by kernel_rfl) (fun _ _ _ h => h) rfl (fun W1 hW1 => by go_simp) (s2) ?_
      simp only [Act.put, List.setIfInBounds_toArray, List.set_cons_zero, List.set_cons_succ]
      refine held_take (i := 11) (v := .int .i64 0) rfl (by kernel_rfl) (by kernel_rfl) (by kernel_rfl) (fun _ _ _ h => h) rfl (fun W1 hW1 => by go_simp) (s2) ?_
      simp only [Act.put, List.setIfInBounds_toArray, List.set_cons_zero, List.set_cons_succ]
      refine held_take (i := 12) (v := va9) rfl (by kernel_rfl) (by kernel_rfl) (by kernel_rfl) (fun _ _ _ h => h) rfl (fun W1 hW1 => by go_simp) (s2) ?_
      simp only [Act.put, List.setIfInBounds_toArray, List.set_cons_zero, List.set_cons_succ]
      refine held_take (i := 13) (v := vd9) rfl (by kernel_rfl) (by kernel_rfl) (by kernel_rfl) (fun _ _ _ h => h) rfl (fun W1 hW1 => by go_simp) (s2) ?_
      simp only [Act.put, List.setIfInBounds_toArray, List.set_cons_zero, List.set_cons_succ]
      refine held_take (i := 14) (v := .int .i64 0) rfl (by kernel_rfl) (by kernel_rfl) (by kernel_rfl) (fun _ _ _ h => h) rfl (fun W1 hW1 => by go_simp) (s2) ?_
      simp only [Act.put, List.setIfInBounds_toArray, List.set_cons_zero, List.set_cons_succ]
      refine wpAnyH_done (by kernel_rfl) ?_ _
      have KX9 := hid (KB9.out.drew.trans (kd9.trans kp9))
      have F9 := hid f9
      have DD9 := hid d9
      have KW9 := hid ((Keeps.refl [] w6).drew.trans (kd9.trans kp9))
      clear D0 s0 s1 s2 kd9 kp9 f9 d9 du9
      have R10 := hid (range_keep T6.out KW9.out (by simp))
      have L10 := hid (Nat.lt_of_lt_of_le L6.out.2 KW9.out.size)
      have KB10 := KX9
      go_wp2_with fail
      refine wp_region_any (by kernel_rfl) (wpAny_of_held (S := KpS [] wp9.heap.size wp9.drew) _ _ _ _ ?_)
      change wpAnyH _ _ _ _ _ _ _ _ wp9.drew
      have s0 : KpS [] wp9.heap.size wp9.drew wp9.drew := KpS.refl _ _ _
      have D0 : ∀ W1, KpS [] wp9.heap.size wp9.drew W1 → W1.rangeAt w4.heap.size 0 (shS (speM m)).cells := fun W1 h j v hv => h.cell (by rw [World.cell?_drew]; exact R10.out j v hv) L10.out (by simp)
      refine held_take (i := 0) (v := .int .u16 z) rfl (by kernel_rfl) (by kernel_rfl) (by kernel_rfl) (fun _ _ _ h => h) rfl (fun W1 hW1 => rfl) (KpS.refl _ _ _) ?_
      simp only [Act.put, List.setIfInBounds_toArray, List.set_cons_zero, List.set_cons_succ]
      refine held_take (i := 1) (v := .int .i64 z) rfl (by kernel_rfl) (by kernel_rfl) (by kernel_rfl) (fun _ _ _ h => h) rfl (fun W1 hW1 => by go_simp; exact IntWalk.i64_in _ (by omega)) (KpS.refl _ _ _) ?_
      simp only [Act.put, List.setIfInBounds_toArray, List.set_cons_zero, List.set_cons_succ]
      refine held_take (i := 2) (v := .int .i64 (c : Int)) rfl (by kernel_rfl) (by kernel_rfl) (by kernel_rfl) (fun _ _ _ h => h) rfl (fun W1 hW1 => by go_simp) (KpS.refl _ _ _) ?_
      simp only [Act.put, List.setIfInBounds_toArray, List.set_cons_zero, List.set_cons_succ]
      refine held_take (i := 3) (v := speV (shS (speM m))) rfl (by kernel_rfl) (by kernel_rfl) (by kernel_rfl) (fun _ _ _ h => h) rfl (fun W1 hW1 => exec_load _ _ _ _ rfl rfl (loadSpe W1 w4.heap.size 0 _ (D0 W1 hW1))) (KpS.refl _ _ _) ?_
      simp only [Act.put, List.setIfInBounds_toArray, List.set_cons_zero, List.set_cons_succ]
      refine held_take (i := 4) (v := .int .i64 nn) rfl (by kernel_rfl) (by kernel_rfl) (by kernel_rfl) (fun _ _ _ h => h) rfl (fun W1 hW1 => rfl) (KpS.refl _ _ _) ?_
      simp only [Act.put, List.setIfInBounds_toArray, List.set_cons_zero, List.set_cons_succ]
      refine held_take (i := 5) (v := .slice a xs.length cv) rfl (by kernel_rfl) (by kernel_rfl) (by kernel_rfl) (fun _ _ _ h => h) rfl (fun W1 hW1 => rfl) (KpS.refl _ _ _) ?_
      simp only [Act.put, List.setIfInBounds_toArray, List.set_cons_zero, List.set_cons_succ]
      refine held_do (i := 6) (by kernel_rfl) rfl rfl (wp_enter (f := 13) (args := #[.slice a xs.length cv]) (by go_simp) (pDirty_any wp9.drew _ xs (HV.out.keep KB10.out.drew) h70) ?_)
      rintro e wd10 ⟨u10, rfl, du10, kd10⟩
      have s1 : KpS [] wp9.heap.size wp9.drew wd10 := s0.keeps kd10 s0.size (by simp)
      refine ⟨_, rfl, s1, ?_⟩
      simp only [Act.put, List.setIfInBounds_toArray, List.set_cons_zero, List.set_cons_succ]
      refine held_do (i := 7) (by kernel_rfl) rfl rfl (wp_enter (f := 9) (args := #[.int .i64 2, .int .i64 (c : Int), speV (shS (speM m)), .int .i64 nn, u10]) (by go_simp) (pPack_any wd10 2 (c : Int) (shS (speM m)) nn u10 xs du10) ?_)
      rintro e wp10 ⟨va10, vd10, rfl, f10, d10, kp10⟩
      have s2 : KpS [] wp9.heap.size wp9.drew wp10 := s1.keeps kp10 s1.size (by simp)
      rw [Q.is] at f10 d10 ⊢
      simp only at f10 d10 ⊢
      refine ⟨_, rfl, s2, ?_⟩
      simp only [Act.put, List.setIfInBounds_toArray, List.set_cons_zero, List.set_cons_succ]
      refine held_take (i := 8) (v := .tuple #[va10, vd10, .int .i64 0]) rfl (by kernel_rfl) (by kernel_rfl) (by kernel_rfl) (fun _ _ _ h => h) rfl (fun W1 hW1 => rfl) (s2) ?_
      simp only [Act.put, List.setIfInBounds_toArray, List.set_cons_zero, List.set_cons_succ]
      refine held_take (i := 9) (v := va10) rfl (by kernel_rfl) (by kernel_rfl) (by kernel_rfl) (fun _ _ _ h => h) rfl (fun W1 hW1 => by go_simp) (s2) ?_
      simp only [Act.put, List.setIfInBounds_toArray, List.set_cons_zero, List.set_cons_succ]
      refine held_take (i := 10) (v := vd10) rfl (by kernel_rfl) (by kernel_rfl) (by kernel_rfl) (fun _ _ _ h => h) rfl (fun W1 hW1 => by go_simp) (s2) ?_
      simp only [Act.put, List.setIfInBounds_toArray, List.set_cons_zero, List.set_cons_succ]
      refine held_take (i := 11) (v := .int .i64 0) rfl (by kernel_rfl) (by kernel_rfl) (by kernel_rfl) (fun _ _ _ h => h) rfl (fun W1 hW1 => by go_simp) (s2) ?_
      simp only [Act.put, List.setIfInBounds_toArray, List.set_cons_zero, List.set_cons_succ]
      refine held_take (i := 12) (v := va10) rfl (by kernel_rfl) (by kernel_rfl) (by kernel_rfl) (fun _ _ _ h => h) rfl (fun W1 hW1 => by go_simp) (s2) ?_
      simp only [Act.put, List.setIfInBounds_toArray, List.set_cons_zero, List.set_cons_succ]
      refine held_take (i := 13) (v := vd10) rfl (by kernel_rfl) (by kernel_rfl) (by kernel_rfl) (fun _ _ _ h => h) rfl (fun W1 hW1 => by go_simp) (s2) ?_
      simp only [Act.put, List.setIfInBounds_toArray, List.set_cons_zero, List.set_cons_succ]
      refine held_take (i := 14) (v := .int .i64 0) rfl (by kernel_rfl) (by kernel_rfl) (by kernel_rfl) (fun _ _ _ h => h) rfl (fun W1 hW1 => by go_simp) (s2) ?_
      simp only [Act.put, List.setIfInBounds_toArray, List.set_cons_zero, List.set_cons_succ]
      refine wpAnyH_done (by kernel_rfl) ?_ _
      have KX10 := hid (KB10.out.drew.trans (kd10.trans kp10))
      have F10 := hid f10
      have DD10 := hid d10
      have KW10 := hid ((Keeps.refl [] wp9).drew.trans (kd10.trans kp10))
      clear D0 s0 s1 s2 kd10 kp10 f10 d10 du10
      have HF9 := hid (F9.out.keep KW10.out)
      have HD9 := hid (DD9.out.keep KW10.out)
      have MP := twice_maps P Q
      rw [dbs_len] at HF9 HD9 F10 DD10
      have HGF := hid (good_lay (f := speM m) (m := mostI nn) (bs_short P.lie) (by unfold mostI; omega) xs.length)
      have hsh := layF_sh (speM m) (mostI nn) (bsOf (dbs xs)) xs.length
      rw [hsh] at F10
      have hl70 := lay_le (speM m) (mostI nn) (bsOf (dbs xs)) xs.length
      obtain ⟨fl, hfl⟩ : ∃ fl, fl = layF (speM m) (mostI nn) (bsOf (dbs xs)) xs.length := ⟨_, rfl⟩
      rw [← hfl] at HF9 F10 HGF hl70
      obtain ⟨ds, hds⟩ : ∃ ds, ds = delsL 2 (c : Int) (dbs xs) (ptrsL (speM m) (mostI nn) (bsOf (dbs xs)) xs.length) xs.length ++ [cutD 2 (c : Int)] := ⟨_, rfl⟩
      obtain ⟨cs, hcs⟩ : ∃ cs, cs = delsL 2 (c : Int) (dbs xs) (ptrsL (shS (speM m)) (mostI nn) (bsOf (dbs xs)) xs.length) xs.length ++ [cutD 2 (c : Int)] := ⟨_, rfl⟩
      rw [← hds] at HD9 MP
      rw [← hcs] at DD10 MP
      have hdl : ds.length ≤ 71 := by rw [hds]; simp [dels_len]; omega
      have hcl : cs.length ≤ 71 := by rw [hcs]; simp [dels_len]; omega
      simp only at MP
      obtain ⟨X, hX⟩ : ∃ X, X = runD bk0 ds := ⟨_, rfl⟩
      rw [← hX] at MP
      have HX := hid hX
      obtain ⟨Y, hY⟩ : ∃ Y, Y = runD X cs := ⟨_, rfl⟩
      rw [← hY] at MP
      have HY := hid hY
      have GX := hid (show GoodB X by rw [hX]; exact good_runD good0 ds)
      obtain ⟨m1, m2, m3, m4, m5⟩ := MP
      have M1 := hid m1
      have M2 := hid m2
      have M3 := hid m3
      have M4 := hid m4
      have M5 := hid m5
      have KP10 := KX10
      have HG10 := hid (show FlsAt wp10 va10 (fl.map shF) from F10.out)
      obtain ⟨aa, ca, rfl⟩ := HF9.out.shape
      obtain ⟨ad, cd, rfl⟩ := HD9.out.shape
      obtain ⟨ab, cb, rfl⟩ := HG10.out.shape
      obtain ⟨ae, ce, rfl⟩ := DD10.out.shape
      have hgl : (fl.map shF).length = fl.length := List.length_map _
      rw [hgl]
      have hc64 : cnt (c : Int) ≤ 64 := cnt_le (by omega)
      obtain ⟨cc, hcc⟩ : ∃ cc, cc = cnt (c : Int) := ⟨_, rfl⟩
      rw [← hcc] at M3 M4 hc64
      rename_i _
      generalize wp10 = w9 at *
      clear hfl hds hcs hX hY m1 m2 m3 m4 m5 P Q hsh hgl hcc F9 DD9 F10 KX9 KX10 KW9 KW10 R9 L9 KB9 R10 L10 KB10 S6 T6 L6
      have N1 := hid (zNew_any w9)
      go_wp2_with fail
      refine N1.out.mono ?_
      rintro e w10 ⟨rfl, rfl⟩
      have k10 : Keeps [] w9 (w9.alloc (.cells #[.bool true, .int .i64 0, .slice none 0 0] 76)) := (Keeps.refl [] w9).alloc _
      have z10 : (w9.alloc (.cells #[.bool true, .int .i64 0, .slice none 0 0] 76)).heap.size = w9.heap.size + 1 := by simp
      have B10 := bk_new w9 [w9.heap.size + 1]
      generalize hqx : w9.heap.size = qx at B10 z10 ⊢
      generalize w9.alloc (.cells #[.bool true, .int .i64 0, .slice none 0 0] 76) = w10 at B10 k10 z10 ⊢
      have N2 := hid (zNew_any w10)
      have HQX := hid hqx
      have HK10 := hid k10
      have HB10 := hid B10
      have HZ10 := hid z10
      clear hqx k10 B10 z10
      go_wp2_with fail
      refine N2.out.mono ?_
      rintro e w11 ⟨rfl, rfl⟩
      have k11 : Keeps [] w10 (w10.alloc (.cells #[.bool true, .int .i64 0, .slice none 0 0] 76)) := (Keeps.refl [] w10).alloc _
      have B11 := (bk_new w10 [qx]).more (N := [qx, qx + 1]) (fun b hb => by have := HZ10.out; simp at hb ⊢; omega) (by have := HZ10.out; simp; omega)
      have hz10 := HZ10.out
      rw [hz10] at B11 ⊢
      have A11 := HB10.out.later k11
      generalize w10.alloc (.cells #[.bool true, .int .i64 0, .slice none 0 0] 76) = w11 at B11 A11 k11 ⊢
      have HA11 := hid A11
      have HB11 := hid B11
      have HK11 := hid (HK10.out.trans k11)
      obtain ⟨qy, hqy⟩ : ∃ qy, qy = qx + 1 := ⟨_, rfl⟩
      rw [← hqy] at HA11 HB11 ⊢
      have HQY := hid hqy
      clear k11 B11 hz10 A11 hqy
      have hne : Hid (qx ≠ qy) := hid (by have := HQY.out; omega)
      go_wp2_with fail
      go_loopw [18] (fun iv wr => ∃ k : Nat, iv = .int .i64 k ∧ k ≤ ds.length ∧ Hid (BkAt wr [qx, qy] qx (runD bk0 (ds.take k))) ∧ Hid (BkAt wr [qx, qy] qy (runD bk0 (ds.take k))) ∧ Hid (Keeps [] w9 wr)) (fun iv _ => ds.length - (intOf iv).toNat)
      case atStart => exact ⟨0, rfl, Nat.zero_le _, HA11, HB11, HK11⟩
      case round =>
        obtain ⟨k, rfl, hk, HA, HB, HK⟩ := hrel
        have hM : ∀ W : World, BkAt W [qx, qy] qx (runD bk0 (ds.take k)) → True := fun _ _ => trivial
        by_cases hlt : k < ds.length
        · obtain ⟨gd, od, rfl, hg, R⟩ := (HD9.out.keep HK.out).at k hlt
          have HT := hid (runD_take (s := bk0) hlt)
          obtain ⟨y, hy⟩ : ∃ y, y = ds[k] := ⟨_, rfl⟩
          rw [← hy] at R HT
          have HR := hid R
          clear hy R hg hM
          go_wp2_with (first | (refine wpList_isW rfl _ _ (exec_load _ _ _ _ rfl rfl (loadDl_run _ gd (od + k * 14) y HR.out)) ?_) | fail)
          refine (apply_new (w := w9) HK.out HA.out (fun b hb => by simp at hb; rcases hb with rfl | rfl; exact HA.out.lt; exact HB.out.lt) (by rw [HQX.out]; exact Nat.le_refl _) y).mono ?_
          rintro e wb ⟨a2, c2, rfl, o2, b2, k2, z2, q2⟩
          have HA2 := hid (show BkAt wb [qx, qy] qx (runD bk0 (ds.take (k + 1))) by rw [HT.out]; exact b2)
          have HBm := hid (HB.out.keep q2 (by have := hne.out; simp; omega) (by simp))
          have HK2 := hid k2
          have HR2 := hid (show wb.rangeAt gd (od + k * 14) y.cells from range_keep HR.out q2 (by
            have h1 := (HD9.out.at k hlt)
            obtain ⟨g2, o2', e2, hl2, _⟩ := h1
            injection e2 with e2
            injection e2 with e2 _
            have := HQX.out
            simp
            omega))
          clear o2 b2 k2 z2 q2
          go_wp2_with (first | (refine wpList_isW rfl _ _ (exec_load _ _ _ _ rfl rfl (loadDl_run _ gd (od + k * 14) y HR2.out)) ?_) | fail)
          refine (apply_new (w := w9) HK2.out HBm.out (fun b hb => by simp at hb; rcases hb with rfl | rfl; exact HA2.out.lt; exact HBm.out.lt) (by rw [HQX.out]; have := HQY.out; omega) y).mono ?_
          rintro e wc ⟨a3, c3, rfl, o3, b3, k3, z3, q3⟩
          have HB3 := hid (show BkAt wc [qx, qy] qy (runD bk0 (ds.take (k + 1))) by rw [HT.out]; exact b3)
          have HA3 := hid (HA2.out.keep q3 (by have := hne.out; simp; omega) (by simp))
          have HK3 := hid k3
          clear o3 b3 k3 z3 q3
          go_wp2_with fail
          go_roundw
          case rel => exact ⟨k + 1, by go_num, by omega, HA3, HB3, HK3⟩
          case measure => simp [intOf]; omega
        · obtain rfl : k = ds.length := by omega
          have A1 := HA.out
          have B1 := HB.out
          rw [List.take_length, ← HX.out] at A1 B1
          have HA1 := hid A1
          have HB1 := hid B1
          clear A1 B1 hM
          go_wp2_with fail
          rename World => w12
          go_loopw [19] (fun iv wr => ∃ k : Nat, iv = .int .i64 k ∧ k ≤ cs.length ∧ Hid (BkAt wr [qx, qy] qx X) ∧ Hid (BkAt wr [qx, qy] qy (runD X (cs.take k))) ∧ Hid (Keeps [] w9 wr)) (fun iv _ => cs.length - (intOf iv).toNat)
          case atStart => exact ⟨0, rfl, Nat.zero_le _, HA1, HB1, HK⟩
          case round =>
            obtain ⟨k, rfl, hk2, HA2, HB2, HK2⟩ := hrel
            by_cases hlt2 : k < cs.length
            · obtain ⟨gd, od, rfl, hg, R⟩ := (DD10.out.keep HK2.out).at k hlt2
              have HT := hid (runD_take (s := X) hlt2)
              obtain ⟨y, hy⟩ : ∃ y, y = cs[k] := ⟨_, rfl⟩
              rw [← hy] at R HT
              have HR := hid R
              clear hy R hg
              go_wp2_with (first | (refine wpList_isW rfl _ _ (exec_load _ _ _ _ rfl rfl (loadDl_run _ gd (od + k * 14) y HR.out)) ?_) | fail)
              refine (apply_new (w := w9) HK2.out HB2.out (fun b hb => by simp at hb; rcases hb with rfl | rfl; exact HA2.out.lt; exact HB2.out.lt) (by rw [HQX.out]; have := HQY.out; omega) y).mono ?_
              rintro e wc ⟨a3, c3, rfl, o3, b3, k3, z3, q3⟩
              have HB3 := hid (show BkAt wc [qx, qy] qy (runD X (cs.take (k + 1))) by rw [HT.out]; exact b3)
              have HA3 := hid (HA2.out.keep q3 (by have := hne.out; simp; omega) (by simp))
              have HK3 := hid k3
              clear o3 b3 k3 z3 q3
              go_wp2_with fail
              go_roundw
              case rel => exact ⟨k + 1, by go_num, by omega, HA3, HB3, HK3⟩
              case measure => simp [intOf]; omega
            · obtain rfl : k = cs.length := by omega
              have B1 := HB2.out
              rw [List.take_length, ← HY.out] at B1
              have HB3 := hid B1
              have SX := zSize_any HA2.out
              have SY := zSize_any B1
              have CX := zCount_any HA2.out
              have CY := zCount_any B1
              rw [M1.out] at SX
              rw [M2.out] at SY
              rw [M3.out] at CX
              rw [M4.out] at CY
              have HSX := hid SX
              have HSY := hid SY
              have HCX := hid CX
              have HCY := hid CY
              clear B1 SX SY CX CY
              go_wp2_with fail
              refine HSX.out.mono ?_
              rintro e _ ⟨rfl, rfl⟩
              go_wp2_with fail
              refine HSY.out.mono ?_
              rintro e _ ⟨rfl, rfl⟩
              go_wp2_with fail
              refine HCX.out.mono ?_
              rintro e _ ⟨rfl, rfl⟩
              go_wp2_with fail
              refine HCY.out.mono ?_
              rintro e _ ⟨rfl, rfl⟩
              go_wp2_with fail
              rename World => w13
              go_loopw [20] (fun iv wr => ∃ k : Nat, iv = .int .i64 k ∧ k ≤ fl.length ∧ Hid (Keeps [] w13 wr)) (fun iv _ => fl.length - (intOf iv).toNat)
              case atStart => exact ⟨0, rfl, Nat.zero_le _, hid (Keeps.refl _ _)⟩
              case round =>
                obtain ⟨k, rfl, hk3, HI3⟩ := hrel
                by_cases hlt3 : k < fl.length
                · obtain ⟨ga, oa, rfl, hga, F0⟩ := (HF9.out.keep (HK2.out.trans HI3.out)).at k hlt3
                  obtain ⟨gb, ob, rfl, hgb, G0⟩ := (HG10.out.keep (HK2.out.trans HI3.out)).at k (by rw [List.length_map]; exact hlt3)
                  rw [List.getElem_map] at G0
                  have hst := HGF.out.st k hlt3
                  have hfew := HGF.out.few k hlt3
                  have hm6 : mostI nn ≤ 6000 := by unfold mostI; omega
                  obtain ⟨xf, hxf⟩ : ∃ y, y = fl[k] := ⟨_, rfl⟩
                  rw [← hxf] at F0 G0 hst hfew
                  obtain ⟨ar, cr, cd3, rw3⟩ := F0.data
                  obtain ⟨br, cr2, cd4, rw4⟩ := G0.data
                  have cna : (_ : World).cell? ⟨ga, oa + k * 4 + 2, none⟩ = some (.int .i64 xf.s.n) := F0.name 2 _ rfl
                  have cnb : (_ : World).cell? ⟨gb, ob + k * 4 + 2, none⟩ = some (.int .i64 (xf.s.n + 100)) := G0.name 2 _ rfl
                  have hxn : 0 ≤ xf.s.n ∧ xf.s.n ≤ 16777300 := by rw [hst]; show 0 ≤ (speM m).n + k ∧ (speM m).n + k ≤ 16777300; omega
                  have hsame : (shF xf).d = xf.d := rfl
                  rw [hsame] at cd4 rw4
                  obtain ⟨nA, hnA⟩ : ∃ y, y = xf.s.n := ⟨_, rfl⟩
                  rw [← hnA] at cna cnb hxn
                  obtain ⟨dd, hdd⟩ : ∃ y, y = xf.d := ⟨_, rfl⟩
                  rw [← hdd] at cd3 cd4 rw3 rw4 hfew
                  have hd6 : dd.length ≤ 6000 := by omega
                  have HC3 := hid cd3
                  have HC4 := hid cd4
                  have HNA := hid cna
                  have HNB := hid cnb
                  have HGA := hid hga
                  have HGB := hid hgb
                  have hx0 := hxn.1
                  have hx1 := hxn.2
                  have SM := same_any wr.drew _ _ dd dd (rw3.keep ((Keeps.refl [] wr).drew) (by intro _ _ _ _ _; simp)) (rw4.keep ((Keeps.refl [] wr).drew) (by intro _ _ _ _ _; simp)) (by omega) (by omega)
                  rw [decide_eq_true rfl] at SM
                  have HSM := hid SM
                  clear F0 G0 hst hfew hm6 hxf cd3 cd4 rw3 rw4 cna cnb hxn hsame hnA hdd hga hgb SM
                  go_wp2_with fail
                  refine wp_region_any (by kernel_rfl) (wpAny_of_held (S := KpS [] wr.heap.size wr.drew) _ _ _ _ ?_)
                  change wpAnyH _ _ _ _ _ _ _ _ wr.drew
                  have s0 : KpS [] wr.heap.size wr.drew wr.drew := KpS.refl _ _ _
                  have D3 : ∀ W1, KpS [] wr.heap.size wr.drew W1 → W1.cell? ⟨ga, oa + k * 4 + 3, none⟩ = some (.slice ar dd.length cr) := fun W1 h => h.cell (by rw [World.cell?_drew]; exact HC3.out) HGA.out (by simp)
                  have D4 : ∀ W1, KpS [] wr.heap.size wr.drew W1 → W1.cell? ⟨gb, ob + k * 4 + 3, none⟩ = some (.slice br dd.length cr2) := fun W1 h => h.cell (by rw [World.cell?_drew]; exact HC4.out) HGB.out (by simp)
                  have DA : ∀ W1, KpS [] wr.heap.size wr.drew W1 → W1.cell? ⟨ga, oa + k * 4 + 2, none⟩ = some (.int .i64 nA) := fun W1 h => h.cell (by rw [World.cell?_drew]; exact HNA.out) HGA.out (by simp)
                  have DB : ∀ W1, KpS [] wr.heap.size wr.drew W1 → W1.cell? ⟨gb, ob + k * 4 + 2, none⟩ = some (.int .i64 (nA + 100)) := fun W1 h => h.cell (by rw [World.cell?_drew]; exact HNB.out) HGB.out (by simp)
                  refine held_take (i := 0) (v := .slice (some ⟨ga, oa, none⟩) fl.length ca) rfl (by kernel_rfl) (by kernel_rfl) (by kernel_rfl) (fun _ _ _ h => h) rfl (fun W1 hW1 => rfl) (KpS.refl _ _ _) ?_
                  simp only [Act.put, List.setIfInBounds_toArray, List.set_cons_zero, List.set_cons_succ]
                  refine held_take (i := 1) (v := .int .i64 (k : Int)) rfl (by kernel_rfl) (by kernel_rfl) (by kernel_rfl) (fun _ _ _ h => h) rfl (fun W1 hW1 => rfl) (KpS.refl _ _ _) ?_
                  simp only [Act.put, List.setIfInBounds_toArray, List.set_cons_zero, List.set_cons_succ]
                  refine held_take (i := 2) (v := .pointer (some ⟨ga, oa + k * 4, none⟩)) rfl (by kernel_rfl) (by kernel_rfl) (by kernel_rfl) (fun _ _ _ h => h) rfl (fun W1 hW1 => by go_simp) (KpS.refl _ _ _) ?_
                  simp only [Act.put, List.setIfInBounds_toArray, List.set_cons_zero, List.set_cons_succ]
                  refine held_take (i := 3) (v := .pointer (some ⟨ga, oa + k * 4 + 3, none⟩)) rfl (by kernel_rfl) (by kernel_rfl) (by kernel_rfl) (fun _ _ _ h => h) rfl (fun W1 hW1 => by go_simp) (KpS.refl _ _ _) ?_
                  simp only [Act.put, List.setIfInBounds_toArray, List.set_cons_zero, List.set_cons_succ]
                  refine held_take (i := 4) (v := .slice ar dd.length cr) rfl (by kernel_rfl) (by kernel_rfl) (by kernel_rfl) (fun _ _ _ h => h) rfl (fun W1 hW1 => exec_load _ _ _ _ rfl rfl (run_loadCell W1 _ _ _ (D3 W1 hW1) (agg_no _ (by kernel_rfl)))) (KpS.refl _ _ _) ?_
                  simp only [Act.put, List.setIfInBounds_toArray, List.set_cons_zero, List.set_cons_succ]
                  refine held_take (i := 5) (v := .slice (some ⟨gb, ob, none⟩) fl.length cb) rfl (by kernel_rfl) (by kernel_rfl) (by kernel_rfl) (fun _ _ _ h => h) rfl (fun W1 hW1 => rfl) (KpS.refl _ _ _) ?_
                  simp only [Act.put, List.setIfInBounds_toArray, List.set_cons_zero, List.set_cons_succ]
                  refine held_take (i := 6) (v := .int .i64 (k : Int)) rfl (by kernel_rfl) (by kernel_rfl) (by kernel_rfl) (fun _ _ _ h => h) rfl (fun W1 hW1 => rfl) (KpS.refl _ _ _) ?_
                  simp only [Act.put, List.setIfInBounds_toArray, List.set_cons_zero, List.set_cons_succ]
                  refine held_take (i := 7) (v := .pointer (some ⟨gb, ob + k * 4, none⟩)) rfl (by kernel_rfl) (by kernel_rfl) (by kernel_rfl) (fun _ _ _ h => h) rfl (fun W1 hW1 => by go_simp) (KpS.refl _ _ _) ?_
                  simp only [Act.put, List.setIfInBounds_toArray, List.set_cons_zero, List.set_cons_succ]
                  refine held_take (i := 8) (v := .pointer (some ⟨gb, ob + k * 4 + 3, none⟩)) rfl (by kernel_rfl) (by kernel_rfl) (by kernel_rfl) (fun _ _ _ h => h) rfl (fun W1 hW1 => by go_simp) (KpS.refl _ _ _) ?_
                  simp only [Act.put, List.setIfInBounds_toArray, List.set_cons_zero, List.set_cons_succ]
                  refine held_take (i := 9) (v := .slice br dd.length cr2) rfl (by kernel_rfl) (by kernel_rfl) (by kernel_rfl) (fun _ _ _ h => h) rfl (fun W1 hW1 => exec_load _ _ _ _ rfl rfl (run_loadCell W1 _ _ _ (D4 W1 hW1) (agg_no _ (by kernel_rfl)))) (KpS.refl _ _ _) ?_
                  simp only [Act.put, List.setIfInBounds_toArray, List.set_cons_zero, List.set_cons_succ]
                  refine held_do (i := 10) (by kernel_rfl) rfl rfl (wp_enter (f := 16) (args := #[.slice ar dd.length cr, .slice br dd.length cr2]) (by go_simp) (HSM.out) ?_)
                  rintro e wz ⟨rfl, nz, rfl⟩
                  have kz : Keeps [] wr.drew (wr.drew.drewN nz) := (Keeps.refl [] _).drewN nz
                  have s1 : KpS [] wr.heap.size wr.drew (wr.drew.drewN nz) := s0.keeps kz s0.size (by simp)
                  refine ⟨_, rfl, s1, ?_⟩
                  simp only [Act.put, List.setIfInBounds_toArray, List.set_cons_zero, List.set_cons_succ]
                  refine held_take (i := 11) (v := .bool false) rfl (by kernel_rfl) (by kernel_rfl) (by kernel_rfl) (fun _ _ _ h => h) rfl (fun W1 hW1 => by go_simp) (s1) ?_
                  simp only [Act.put, List.setIfInBounds_toArray, List.set_cons_zero, List.set_cons_succ]
                  refine held_take (i := 12) (v := .bool false) rfl (by kernel_rfl) (by kernel_rfl) (by kernel_rfl) (fun _ _ _ h => h) rfl (fun W1 hW1 => rfl) (s1) ?_
                  simp only [Act.put, List.setIfInBounds_toArray, List.set_cons_zero, List.set_cons_succ]
                  refine held_takeW (i := 13) (v := .slice (some ⟨gb, ob, none⟩) fl.length cb) rfl (by kernel_rfl) (by kernel_rfl) (by kernel_rfl) (fun _ _ _ h => h) rfl (fun W1 hW1 => rfl) (s1) ?_
                  simp only [Act.put, List.setIfInBounds_toArray, List.set_cons_zero, List.set_cons_succ]
                  refine held_takeW (i := 14) (v := .int .i64 (k : Int)) rfl (by kernel_rfl) (by kernel_rfl) (by kernel_rfl) (fun _ _ _ h => h) rfl (fun W1 hW1 => rfl) (s1) ?_
                  simp only [Act.put, List.setIfInBounds_toArray, List.set_cons_zero, List.set_cons_succ]
                  refine held_takeW (i := 15) (v := .pointer (some ⟨gb, ob + k * 4, none⟩)) rfl (by kernel_rfl) (by kernel_rfl) (by kernel_rfl) (fun _ _ _ h => h) rfl (fun W1 hW1 => by go_simp) (s1) ?_
                  simp only [Act.put, List.setIfInBounds_toArray, List.set_cons_zero, List.set_cons_succ]
                  refine held_takeW (i := 16) (v := .pointer (some ⟨gb, ob + k * 4, none⟩)) rfl (by kernel_rfl) (by kernel_rfl) (by kernel_rfl) (fun _ _ _ h => h) rfl (fun W1 hW1 => by go_simp) (s1) ?_
                  simp only [Act.put, List.setIfInBounds_toArray, List.set_cons_zero, List.set_cons_succ]
                  refine held_takeW (i := 17) (v := .pointer (some ⟨gb, ob + k * 4 + 2, none⟩)) rfl (by kernel_rfl) (by kernel_rfl) (by kernel_rfl) (fun _ _ _ h => h) rfl (fun W1 hW1 => by go_simp) (s1) ?_
                  simp only [Act.put, List.setIfInBounds_toArray, List.set_cons_zero, List.set_cons_succ]
                  refine held_takeW (i := 18) (v := .int .i64 (nA + 100)) rfl (by kernel_rfl) (by kernel_rfl) (by kernel_rfl) (fun _ _ _ h => h) rfl (fun W1 hW1 => exec_load _ _ _ _ rfl rfl (run_loadCell W1 _ _ _ (DB W1 hW1) (agg_no _ (by kernel_rfl)))) (s1) ?_
                  simp only [Act.put, List.setIfInBounds_toArray, List.set_cons_zero, List.set_cons_succ]
                  refine held_takeW (i := 19) (v := .slice (some ⟨ga, oa, none⟩) fl.length ca) rfl (by kernel_rfl) (by kernel_rfl) (by kernel_rfl) (fun _ _ _ h => h) rfl (fun W1 hW1 => rfl) (s1) ?_
                  simp only [Act.put, List.setIfInBounds_toArray, List.set_cons_zero, List.set_cons_succ]
                  refine held_takeW (i := 20) (v := .int .i64 (k : Int)) rfl (by kernel_rfl) (by kernel_rfl) (by kernel_rfl) (fun _ _ _ h => h) rfl (fun W1 hW1 => rfl) (s1) ?_
                  simp only [Act.put, List.setIfInBounds_toArray, List.set_cons_zero, List.set_cons_succ]
                  refine held_takeW (i := 21) (v := .pointer (some ⟨ga, oa + k * 4, none⟩)) rfl (by kernel_rfl) (by kernel_rfl) (by kernel_rfl) (fun _ _ _ h => h) rfl (fun W1 hW1 => by go_simp) (s1) ?_
                  simp only [Act.put, List.setIfInBounds_toArray, List.set_cons_zero, List.set_cons_succ]
                  refine held_takeW (i := 22) (v := .pointer (some ⟨ga, oa + k * 4, none⟩)) rfl (by kernel_rfl) (by kernel_rfl) (by kernel_rfl) (fun _ _ _ h => h) rfl (fun W1 hW1 => by go_simp) (s1) ?_
                  simp only [Act.put, List.setIfInBounds_toArray, List.set_cons_zero, List.set_cons_succ]
                  refine held_takeW (i := 23) (v := .pointer (some ⟨ga, oa + k * 4 + 2, none⟩)) rfl (by kernel_rfl) (by kernel_rfl) (by kernel_rfl) (fun _ _ _ h => h) rfl (fun W1 hW1 => by go_simp) (s1) ?_
                  simp only [Act.put, List.setIfInBounds_toArray, List.set_cons_zero, List.set_cons_succ]
                  refine held_takeW (i := 24) (v := .int .i64 nA) rfl (by kernel_rfl) (by kernel_rfl) (by kernel_rfl) (fun _ _ _ h => h) rfl (fun W1 hW1 => exec_load _ _ _ _ rfl rfl (run_loadCell W1 _ _ _ (DA W1 hW1) (agg_no _ (by kernel_rfl)))) (s1) ?_
                  simp only [Act.put, List.setIfInBounds_toArray, List.set_cons_zero, List.set_cons_succ]
                  refine held_takeW (i := 25) (v := .int .i64 (nA + 100)) rfl (by kernel_rfl) (by kernel_rfl) (by kernel_rfl) (fun _ _ _ h => h) rfl (fun W1 hW1 => by go_simp; exact IntWalk.i64_in _ (by omega)) (s1) ?_
                  simp only [Act.put, List.setIfInBounds_toArray, List.set_cons_zero, List.set_cons_succ]
                  refine held_takeW (i := 26) (v := .bool false) rfl (by kernel_rfl) (by kernel_rfl) (by kernel_rfl) (fun _ _ _ h => h) rfl (fun W1 hW1 => by go_simp) (s1) ?_
                  simp only [Act.put, List.setIfInBounds_toArray, List.set_cons_zero, List.set_cons_succ]
                  refine held_take (i := 27) (v := .bool false) rfl (by kernel_rfl) (by kernel_rfl) (by kernel_rfl) (fun _ _ _ h => h) rfl (fun W1 hW1 => by go_simp) (s1) ?_
                  simp only [Act.put, List.setIfInBounds_toArray, List.set_cons_zero, List.set_cons_succ]
                  refine wpAnyH_done (by kernel_rfl) ?_ _
                  clear D3 D4 DA DB s0 s1 kz
                  go_wp2_with fail
                  go_roundw
                  case rel => exact ⟨k + 1, by go_num, by omega, hid (HI3.out.drewN _)⟩
                  case measure => simp [intOf]; omega
                · obtain rfl : k = fl.length := by omega
                  go_wp2_with fail
                  rename World => w14
                  have HA14 := hid (HA2.out.later HI3.out)
                  have HB14 := hid (HB3.out.later HI3.out)
                  have CNT := hid (show ∀ W, Keeps [] w14 W → Calls Tryd.prog 23 #[.pointer (some ⟨qx, 0, none⟩)] W (fun e w' => e = .returned (.int .i64 (cc : Int)) ∧ W = w') from fun W k => by
                    have := zCount_any (HA14.out.later k)
                    rw [M3.out] at this
                    exact this)
                  go_loopw [21] (fun iv wr => ∃ k : Nat, iv = .int .i64 k ∧ k ≤ cc ∧ Hid (Keeps [] w14 wr)) (fun iv _ => cc - (intOf iv).toNat)
                  case atStart => exact ⟨0, rfl, Nat.zero_le _, hid (Keeps.refl _ _)⟩
                  case round =>
                    obtain ⟨k, rfl, hk4, HI4⟩ := hrel
                    by_cases hlt4 : k < cc
                    · have hTW := M5.out (k : Int)
                      have hmp := good_at GX.out (k : Int)
                      have AX := zAt_any (HA14.out.later HI4.out) (k : Int)
                      have AY := fun W (kk : Keeps [] wr W) => zAt_any (HB14.out.later (HI4.out.trans kk)) (k : Int)
                      obtain ⟨p, hp⟩ : ∃ y, y = atB X.L (k : Int) := ⟨_, rfl⟩
                      obtain ⟨q, hq⟩ : ∃ y, y = atB Y.L (k : Int) := ⟨_, rfl⟩
                      rw [← hp] at hTW hmp AX
                      rw [← hq] at hTW
                      have hAY : ∀ W, Keeps [] wr W → Calls Tryd.prog 21 #[.pointer (some ⟨qy, 0, none⟩), .int .i64 (k : Int)] W (AtPost W q) := fun W kk => by rw [hq]; exact AY W kk
                      have HAX := hid AX
                      have HAY := hid hAY
                      clear AX AY hAY hp hq
                      go_wp2_with (first | (go_at_call 23; refine (CNT.out _ HI4.out).mono ?_; rintro e _ ⟨rfl, rfl⟩) | fail)
                      refine HAX.out.mono ?_
                      rintro e w15 ⟨rfl, k15⟩
                      have HK15 := hid k15
                      clear k15
                      go_wp2_with fail
                      refine (HAY.out w15 HK15.out).mono ?_
                      rintro e w16 ⟨rfl, k16⟩
                      obtain ⟨wB, hwB⟩ : ∃ W, W = (w16.alloc (.cells pZ.cells.toArray 36)).alloc (.cells pZ.cells.toArray 36) := ⟨_, rfl⟩
                      have hb2 : wB.heap[w16.heap.size + 1]? = some (.cells pZ.cells.toArray 36 (0, 0)) := by
                        rw [hwB]
                        have := heap_alloc_new (w16.alloc (.cells pZ.cells.toArray 36)) (.cells pZ.cells.toArray 36)
                        rw [World.size_alloc] at this
                        exact this
                      have hb1 : wB.heap[w16.heap.size]? = some (.cells pZ.cells.toArray 36 (0, 0)) := by
                        rw [hwB]
                        exact (((Keeps.refl [] _).alloc _).block w16.heap.size (by simp) (by simp)).trans (heap_alloc_new w16 _)
                      have kB : Keeps [] wr wB := by rw [hwB]; exact ((HK15.out.trans k16).alloc _).alloc _
                      obtain ⟨e1, kc⟩ := set5_range hb1 p
                      obtain ⟨wC, hwC⟩ : ∃ W, W = wB.setCells w16.heap.size 0 p.cells := ⟨_, rfl⟩
                      rw [← hwC] at e1 kc
                      have hb3 := (kc.block _ (lt_of_block hb2) (by simp)).trans hb2
                      obtain ⟨e2, kd⟩ := set5_range hb3 q
                      obtain ⟨wD, hwD⟩ : ∃ W, W = wC.setCells (w16.heap.size + 1) 0 q.cells := ⟨_, rfl⟩
                      rw [← hwD] at e2 kd
                      have e3 := (kd.block _ (lt_of_block e1) (by simp)).trans e1
                      have kD : Keeps [] wr wD := by
                        have h16 : wr.heap.size ≤ w16.heap.size := (HK15.out.trans k16).size
                        exact (kB.trans' kc (fun i hi hm => by simp at hm; omega)).trans' kd (fun i hi hm => by simp at hm; omega)
                      have HKD := hid kD
                      have P1 := range_cells (cs := p.cells) e3
                      have Q1 := range_cells (cs := q.cells) e2
                      obtain ⟨p0, p1, p2, p3, p4⟩ := range_at P1
                      obtain ⟨q0, q1, q2, q3, q4⟩ := range_at Q1
                      simp only [Nat.zero_add] at p1 p2 p3 p4 q1 q2 q3 q4
                      have HB1 := hid hb1
                      have HB3' := hid hb3
                      have HWB := hid hwB
                      have HWC := hid hwC
                      have HWD := hid hwD
                      clear hwB hb2 hb1 kB e1 kc hwC hb3 e2 kd hwD e3 kD P1 Q1 k16 p0 p1 q0 q1
                      obtain ⟨qn, hqn, rfl⟩ : ∃ qn : Int, (0 < p.k → qn = p.n + 100) ∧ q = ⟨p.c, p.l, qn, p.a, p.k⟩ := by
                        rcases hTW with ⟨h1, h2⟩ | ⟨h1, h2⟩
                        · exact ⟨0, fun h => absurd h (by rw [h1]; decide), by rw [h1, h2]; rfl⟩
                        · exact ⟨p.n + 100, fun _ => rfl, h1⟩
                      have hpn : 0 < p.k → 0 ≤ p.n ∧ p.n ≤ 1073741824 := by
                        intro hpk
                        unfold mayP at hmp
                        rw [Bool.or_eq_true] at hmp
                        rcases hmp with hmp | hmp
                        · rw [zB_is.1 hmp] at hpk; exact absurd hpk (by decide)
                        · simp only [Bool.and_eq_true, btw_is] at hmp
                          omega
                      simp only at q2 q3 q4
                      clear hTW hmp
                      by_cases hpk : 0 < p.k
                      · have hn0 := (hpn hpk).1
                        have hn1 := (hpn hpk).2
                        have dpk : decide (0 < p.k) = true := by simpa using hpk
                        obtain rfl := hqn hpk
                        clear hpn hpk hqn
                        go_wp2_with (first | (refine wpList_is rfl _ _ (exec_alloc 36 pZ.cells.toArray iPtr2 rfl) ?_) | (refine wpList_noval rfl _ (exec_storePt9 _ _ rfl w16.heap.size p rfl rfl (by rw [← HWB.out]; exact HB1.out)) ?_; rw [← HWB.out, ← HWC.out]) | (refine wpList_noval rfl _ (exec_storePt9 _ _ rfl (w16.alloc (.cells pZ.cells.toArray 36)).heap.size _ rfl rfl (by rw [World.size_alloc]; exact HB3'.out)) ?_; rw [World.size_alloc, ← HWD.out]) | fail)
                        go_roundw
                        case rel => exact ⟨k + 1, by go_num, by omega, hid (HI4.out.trans HKD.out)⟩
                        case measure => simp [intOf]; omega
                      · have dpk : decide (0 < p.k) = false := by simpa using hpk
                        clear hpn hpk hqn
                        go_wp2_with (first | (refine wpList_is rfl _ _ (exec_alloc 36 pZ.cells.toArray iPtr2 rfl) ?_) | (refine wpList_noval rfl _ (exec_storePt9 _ _ rfl w16.heap.size p rfl rfl (by rw [← HWB.out]; exact HB1.out)) ?_; rw [← HWB.out, ← HWC.out]) | (refine wpList_noval rfl _ (exec_storePt9 _ _ rfl (w16.alloc (.cells pZ.cells.toArray 36)).heap.size _ rfl rfl (by rw [World.size_alloc]; exact HB3'.out)) ?_; rw [World.size_alloc, ← HWD.out]; refine Hid.out ?_) | fail)
                        refine hid ?_
                        go_wp2_with fail
                        go_roundw
                        case rel => exact ⟨k + 1, by go_num, by omega, hid (HI4.out.trans HKD.out)⟩
                        case measure => simp [intOf]; omega
                    · obtain rfl : k = cc := by omega
                      go_wp2_with (first | (go_at_call 23; refine (CNT.out _ HI4.out).mono ?_; rintro e _ ⟨rfl, rfl⟩) | fail)
                      go_ret
                      exact ⟨rfl, (((KP10.out).trans HK2.out).trans HI3.out).trans HI4.out⟩
    · -- both are refused
      go_wp2_with fail
      refine wp_region_any (by kernel_rfl) (wpAny_of_held (S := KpS [] w6.heap.size w6.drew) _ _ _ _ ?_)
      change wpAnyH _ _ _ _ _ _ _ _ w6.drew
      have s0 : KpS [] w6.heap.size w6.drew w6.drew := KpS.refl _ _ _
      have D0 : ∀ W1, KpS [] w6.heap.size w6.drew W1 → W1.rangeAt w3.heap.size 0 (speM m).cells := fun W1 h j v hv => h.cell (by rw [World.cell?_drew]; exact R9.out j v hv) L9.out (by simp)
      refine held_take (i := 0) (v := .int .u16 z) rfl (by kernel_rfl) (by kernel_rfl) (by kernel_rfl) (fun _ _ _ h => h) rfl (fun W1 hW1 => rfl) (KpS.refl _ _ _) ?_
      simp only [Act.put, List.setIfInBounds_toArray, List.set_cons_zero, List.set_cons_succ]
      refine held_take (i := 1) (v := .int .i64 z) rfl (by kernel_rfl) (by kernel_rfl) (by kernel_rfl) (fun _ _ _ h => h) rfl (fun W1 hW1 => by go_simp; exact IntWalk.i64_in _ (by omega)) (KpS.refl _ _ _) ?_
      simp only [Act.put, List.setIfInBounds_toArray, List.set_cons_zero, List.set_cons_succ]
      refine held_take (i := 2) (v := .int .i64 (c : Int)) rfl (by kernel_rfl) (by kernel_rfl) (by kernel_rfl) (fun _ _ _ h => h) rfl (fun W1 hW1 => by go_simp) (KpS.refl _ _ _) ?_
      simp only [Act.put, List.setIfInBounds_toArray, List.set_cons_zero, List.set_cons_succ]
      refine held_take (i := 3) (v := speV (speM m)) rfl (by kernel_rfl) (by kernel_rfl) (by kernel_rfl) (fun _ _ _ h => h) rfl (fun W1 hW1 => exec_load _ _ _ _ rfl rfl (loadSpe W1 w3.heap.size 0 _ (D0 W1 hW1))) (KpS.refl _ _ _) ?_
      simp only [Act.put, List.setIfInBounds_toArray, List.set_cons_zero, List.set_cons_succ]
      refine held_take (i := 4) (v := .int .i64 nn) rfl (by kernel_rfl) (by kernel_rfl) (by kernel_rfl) (fun _ _ _ h => h) rfl (fun W1 hW1 => rfl) (KpS.refl _ _ _) ?_
      simp only [Act.put, List.setIfInBounds_toArray, List.set_cons_zero, List.set_cons_succ]
      refine held_take (i := 5) (v := .slice a xs.length cv) rfl (by kernel_rfl) (by kernel_rfl) (by kernel_rfl) (fun _ _ _ h => h) rfl (fun W1 hW1 => rfl) (KpS.refl _ _ _) ?_
      simp only [Act.put, List.setIfInBounds_toArray, List.set_cons_zero, List.set_cons_succ]
      refine held_do (i := 6) (by kernel_rfl) rfl rfl (wp_enter (f := 13) (args := #[.slice a xs.length cv]) (by go_simp) (pDirty_any w6.drew _ xs (HV.out.keep KB9.out.drew) h70) ?_)
      rintro e wd9 ⟨u9, rfl, du9, kd9⟩
      have s1 : KpS [] w6.heap.size w6.drew wd9 := s0.keeps kd9 s0.size (by simp)
      refine ⟨_, rfl, s1, ?_⟩
      simp only [Act.put, List.setIfInBounds_toArray, List.set_cons_zero, List.set_cons_succ]
      refine held_do (i := 7) (by kernel_rfl) rfl rfl (wp_enter (f := 9) (args := #[.int .i64 2, .int .i64 (c : Int), speV (speM m), .int .i64 nn, u9]) (by go_simp) (pPack_any wd9 2 (c : Int) (speM m) nn u9 xs du9) ?_)
      rintro e wp9 ⟨va9, vd9, rfl, f9, d9, kp9⟩
      have s2 : KpS [] w6.heap.size w6.drew wp9 := s1.keeps kp9 s1.size (by simp)
      rw [E1] at f9 d9 ⊢
      simp only at f9 d9 ⊢
      refine ⟨_, rfl, s2, ?_⟩
      simp only [Act.put, List.setIfInBounds_toArray, List.set_cons_zero, List.set_cons_succ]
      refine held_take (i := 8) (v := .tuple #[va9, vd9, .int .i64 1]) rfl (by kernel_rfl) (by kernel_rfl) (by kernel_rfl) (fun _ _ _ h => h) rfl (fun W1 hW1 => rfl) (s2) ?_
      simp only [Act.put, List.setIfInBounds_toArray, List.set_cons_zero, List.set_cons_succ]
      refine held_take (i := 9) (v := va9) rfl (by kernel_rfl) (by kernel_rfl) (by kernel_rfl) (fun _ _ _ h => h) rfl (fun W1 hW1 => by go_simp) (s2) ?_
      simp only [Act.put, List.setIfInBounds_toArray, List.set_cons_zero, List.set_cons_succ]
      refine held_take (i := 10) (v := vd9) rfl (by kernel_rfl) (by kernel_rfl) (by kernel_rfl) (fun _ _ _ h => h) rfl (fun W1 hW1 => by go_simp) (s2) ?_
      simp only [Act.put, List.setIfInBounds_toArray, List.set_cons_zero, List.set_cons_succ]
      refine held_take (i := 11) (v := .int .i64 1) rfl (by kernel_rfl) (by kernel_rfl) (by kernel_rfl) (fun _ _ _ h => h) rfl (fun W1 hW1 => by go_simp) (s2) ?_
      simp only [Act.put, List.setIfInBounds_toArray, List.set_cons_zero, List.set_cons_succ]
      refine held_take (i := 12) (v := va9) rfl (by kernel_rfl) (by kernel_rfl) (by kernel_rfl) (fun _ _ _ h => h) rfl (fun W1 hW1 => by go_simp) (s2) ?_
      simp only [Act.put, List.setIfInBounds_toArray, List.set_cons_zero, List.set_cons_succ]
      refine held_take (i := 13) (v := vd9) rfl (by kernel_rfl) (by kernel_rfl) (by kernel_rfl) (fun _ _ _ h => h) rfl (fun W1 hW1 => by go_simp) (s2) ?_
      simp only [Act.put, List.setIfInBounds_toArray, List.set_cons_zero, List.set_cons_succ]
      refine held_take (i := 14) (v := .int .i64 1) rfl (by kernel_rfl) (by kernel_rfl) (by kernel_rfl) (fun _ _ _ h => h) rfl (fun W1 hW1 => by go_simp) (s2) ?_
      simp only [Act.put, List.setIfInBounds_toArray, List.set_cons_zero, List.set_cons_succ]
      refine wpAnyH_done (by kernel_rfl) ?_ _
      have KX9 := hid (KB9.out.drew.trans (kd9.trans kp9))
      have F9 := hid f9
      have DD9 := hid d9
      have KW9 := hid ((Keeps.refl [] w6).drew.trans (kd9.trans kp9))
      clear D0 s0 s1 s2 kd9 kp9 f9 d9 du9
      have R10 := hid (range_keep T6.out KW9.out (by simp))
      have L10 := hid (Nat.lt_of_lt_of_le L6.out.2 KW9.out.size)
      have KB10 := KX9
      go_wp2_with fail
      refine wp_region_any (by kernel_rfl) (wpAny_of_held (S := KpS [] wp9.heap.size wp9.drew) _ _ _ _ ?_)
      change wpAnyH _ _ _ _ _ _ _ _ wp9.drew
      have s0 : KpS [] wp9.heap.size wp9.drew wp9.drew := KpS.refl _ _ _
      have D0 : ∀ W1, KpS [] wp9.heap.size wp9.drew W1 → W1.rangeAt w4.heap.size 0 (shS (speM m)).cells := fun W1 h j v hv => h.cell (by rw [World.cell?_drew]; exact R10.out j v hv) L10.out (by simp)
      refine held_take (i := 0) (v := .int .u16 z) rfl (by kernel_rfl) (by kernel_rfl) (by kernel_rfl) (fun _ _ _ h => h) rfl (fun W1 hW1 => rfl) (KpS.refl _ _ _) ?_
      simp only [Act.put, List.setIfInBounds_toArray, List.set_cons_zero, List.set_cons_succ]
      refine held_take (i := 1) (v := .int .i64 z) rfl (by kernel_rfl) (by kernel_rfl) (by kernel_rfl) (fun _ _ _ h => h) rfl (fun W1 hW1 => by go_simp; exact IntWalk.i64_in _ (by omega)) (KpS.refl _ _ _) ?_
      simp only [Act.put, List.setIfInBounds_toArray, List.set_cons_zero, List.set_cons_succ]
      refine held_take (i := 2) (v := .int .i64 (c : Int)) rfl (by kernel_rfl) (by kernel_rfl) (by kernel_rfl) (fun _ _ _ h => h) rfl (fun W1 hW1 => by go_simp) (KpS.refl _ _ _) ?_
      simp only [Act.put, List.setIfInBounds_toArray, List.set_cons_zero, List.set_cons_succ]
      refine held_take (i := 3) (v := speV (shS (speM m))) rfl (by kernel_rfl) (by kernel_rfl) (by kernel_rfl) (fun _ _ _ h => h) rfl (fun W1 hW1 => exec_load _ _ _ _ rfl rfl (loadSpe W1 w4.heap.size 0 _ (D0 W1 hW1))) (KpS.refl _ _ _) ?_
      simp only [Act.put, List.setIfInBounds_toArray, List.set_cons_zero, List.set_cons_succ]
      refine held_take (i := 4) (v := .int .i64 nn) rfl (by kernel_rfl) (by kernel_rfl) (by kernel_rfl) (fun _ _ _ h => h) rfl (fun W1 hW1 => rfl) (KpS.refl _ _ _) ?_
      simp only [Act.put, List.setIfInBounds_toArray, List.set_cons_zero, List.set_cons_succ]
      refine held_take (i := 5) (v := .slice a xs.length cv) rfl (by kernel_rfl) (by kernel_rfl) (by kernel_rfl) (fun _ _ _ h => h) rfl (fun W1 hW1 => rfl) (KpS.refl _ _ _) ?_
      simp only [Act.put, List.setIfInBounds_toArray, List.set_cons_zero, List.set_cons_succ]
      refine held_do (i := 6) (by kernel_rfl) rfl rfl (wp_enter (f := 13) (args := #[.slice a xs.length cv]) (by go_simp) (pDirty_any wp9.drew _ xs (HV.out.keep KB10.out.drew) h70) ?_)
      rintro e wd10 ⟨u10, rfl, du10, kd10⟩
      have s1 : KpS [] wp9.heap.size wp9.drew wd10 := s0.keeps kd10 s0.size (by simp)
      refine ⟨_, rfl, s1, ?_⟩
      simp only [Act.put, List.setIfInBounds_toArray, List.set_cons_zero, List.set_cons_succ]
      refine held_do (i := 7) (by kernel_rfl) rfl rfl (wp_enter (f := 9) (args := #[.int .i64 2, .int .i64 (c : Int), speV (shS (speM m)), .int .i64 nn, u10]) (by go_simp) (pPack_any wd10 2 (c : Int) (shS (speM m)) nn u10 xs du10) ?_)
      rintro e wp10 ⟨va10, vd10, rfl, f10, d10, kp10⟩
      have s2 : KpS [] wp9.heap.size wp9.drew wp10 := s1.keeps kp10 s1.size (by simp)
      rw [E2] at f10 d10 ⊢
      simp only at f10 d10 ⊢
      refine ⟨_, rfl, s2, ?_⟩
      simp only [Act.put, List.setIfInBounds_toArray, List.set_cons_zero, List.set_cons_succ]
      refine held_take (i := 8) (v := .tuple #[va10, vd10, .int .i64 1]) rfl (by kernel_rfl) (by kernel_rfl) (by kernel_rfl) (fun _ _ _ h => h) rfl (fun W1 hW1 => rfl) (s2) ?_
      simp only [Act.put, List.setIfInBounds_toArray, List.set_cons_zero, List.set_cons_succ]
      refine held_take (i := 9) (v := va10) rfl (by kernel_rfl) (by kernel_rfl) (by kernel_rfl) (fun _ _ _ h => h) rfl (fun W1 hW1 => by go_simp) (s2) ?_
      simp only [Act.put, List.setIfInBounds_toArray, List.set_cons_zero, List.set_cons_succ]
      refine held_take (i := 10) (v := vd10) rfl (by kernel_rfl) (by kernel_rfl) (by kernel_rfl) (fun _ _ _ h => h) rfl (fun W1 hW1 => by go_simp) (s2) ?_
      simp only [Act.put, List.setIfInBounds_toArray, List.set_cons_zero, List.set_cons_succ]
      refine held_take (i := 11) (v := .int .i64 1) rfl (by kernel_rfl) (by kernel_rfl) (by kernel_rfl) (fun _ _ _ h => h) rfl (fun W1 hW1 => by go_simp) (s2) ?_
      simp only [Act.put, List.setIfInBounds_toArray, List.set_cons_zero, List.set_cons_succ]
      refine held_take (i := 12) (v := va10) rfl (by kernel_rfl) (by kernel_rfl) (by kernel_rfl) (fun _ _ _ h => h) rfl (fun W1 hW1 => by go_simp) (s2) ?_
      simp only [Act.put, List.setIfInBounds_toArray, List.set_cons_zero, List.set_cons_succ]
      refine held_take (i := 13) (v := vd10) rfl (by kernel_rfl) (by kernel_rfl) (by kernel_rfl) (fun _ _ _ h => h) rfl (fun W1 hW1 => by go_simp) (s2) ?_
      simp only [Act.put, List.setIfInBounds_toArray, List.set_cons_zero, List.set_cons_succ]
      refine held_take (i := 14) (v := .int .i64 1) rfl (by kernel_rfl) (by kernel_rfl) (by kernel_rfl) (fun _ _ _ h => h) rfl (fun W1 hW1 => by go_simp) (s2) ?_
      simp only [Act.put, List.setIfInBounds_toArray, List.set_cons_zero, List.set_cons_succ]
      refine wpAnyH_done (by kernel_rfl) ?_ _
      have KX10 := hid (KB10.out.drew.trans (kd10.trans kp10))
      have F10 := hid f10
      have DD10 := hid d10
      have KW10 := hid ((Keeps.refl [] wp9).drew.trans (kd10.trans kp10))
      clear D0 s0 s1 s2 kd10 kp10 f10 d10 du10
      go_wp2_with fail
      go_ret
      exact ⟨rfl, KX10.out⟩
end Go.Proofs.YtcfmonlgpccndaaDoor
