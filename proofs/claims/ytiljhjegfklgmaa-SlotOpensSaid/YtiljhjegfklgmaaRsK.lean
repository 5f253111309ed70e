/- looks: both slots tell the same. -/
import Derived.Test.YtiljhjegfklgmaaRsJ
namespace Go.Proofs.Ytiljhjegfklgmaa
open Go.RowKit Go.Shelf
set_option maxRecDepth 100000
set_option linter.unusedSimpArgs false

/-- Both slots, the code's at q over the disk at p, the reference's at rq over the one at rp. -/
structure LkAt (w : World) (q p g rq rp first : Nat) (hs : List Hd) (s : DS) (F M G : List Nat) (K : Nat) : Prop where
  c : SlAt w q p g first hs s F K
  r : RdAt w rq rp first hs s M G K
theorem LkAt.keep {w w' : World} {q p g rq rp first : Nat} {hs : List Hd} {s : DS} {F M G : List Nat} {K : Nat} (h : LkAt w q p g rq rp first hs s F M G K) (k : Keeps [] w w') : LkAt w' q p g rq rp first hs s F M G K :=
  ⟨h.c.keep k (by simp) (by simp) (by simp), h.r.keep k (by simp) (by simp)⟩

set_option maxHeartbeats 16000000 in
theorem looks_any (w : World) (q p g rq rp first : Nat) (hs : List Hd) (s : DS) (F M G : List Nat) (K : Nat) (H : LkAt w q p g rq rp first hs s F M G K) :
    Calls Try.prog 11 #[.pointer (some ⟨q, 0, none⟩), .pointer (some ⟨rq, 0, none⟩)] w fun e w' => e = .returned (.bool true) ∧ Keeps [] w w' := by
  have HH := hid H
  have hcnt := H.r.fit.ok.hi
  have hroom := H.r.room
  obtain ⟨Lv, rs, R, ehs, eM⟩ := H.r.sl
  have hlen : rs.length = hs.length := by rw [ehs, List.length_map]
  obtain ⟨la, lc, rfl⟩ := R.shape
  have RR := hid R
  have EHS := hid ehs
  have HLEN := hid hlen
  have c2 := R.c2
  rw [hlen] at c2
  have C2 := hid c2
  clear H R ehs eM hlen
  go_enter Try.func11, Try.ntmps11
  go_wp2_with fail
  refine wp_region_noPanic (wp_region_any (by kernel_rfl) (wpAny_of_held (S := KpS [] w.heap.size w.drew) _ _ _ _ ?_))
  have kd : ∀ W1, KpS [] w.heap.size w.drew W1 → Keeps [] w W1 := fun W1 h => ⟨h.os, h.tape, h.output, h.size, fun k hk hs => h.block k hk hs⟩
  refine held_take (i := 0) (v := .pointer (some ⟨q, 0, none⟩)) rfl (by kernel_rfl) (by kernel_rfl) (by kernel_rfl) (fun _ _ _ h => h) rfl (fun W1 hW1 => rfl) (KpS.refl _ _ _) ?_
  simp only [Act.put, List.setIfInBounds_toArray, List.set_cons_zero, List.set_cons_succ]
  refine held_take (i := 2) (v := .pointer (some ⟨rq, 0, none⟩)) rfl (by kernel_rfl) (by kernel_rfl) (by kernel_rfl) (fun _ _ _ h => h) rfl (fun W1 hW1 => rfl) (KpS.refl _ _ _) ?_
  simp only [Act.put, List.setIfInBounds_toArray, List.set_cons_zero, List.set_cons_succ]
  refine held_take (i := 3) (v := .pointer (some ⟨rq, 0, none⟩)) rfl (by kernel_rfl) (by kernel_rfl) (by kernel_rfl) (fun _ _ _ h => h) rfl (fun W1 hW1 => by go_simp) (KpS.refl _ _ _) ?_
  simp only [Act.put, List.setIfInBounds_toArray, List.set_cons_zero, List.set_cons_succ]
  refine held_take (i := 4) (v := .pointer (some ⟨rq, 2, none⟩)) rfl (by kernel_rfl) (by kernel_rfl) (by kernel_rfl) (fun _ _ _ h => h) rfl (fun W1 hW1 => by go_simp) (KpS.refl _ _ _) ?_
  simp only [Act.put, List.setIfInBounds_toArray, List.set_cons_zero, List.set_cons_succ]
  refine held_take (i := 5) (v := .slice la hs.length lc) rfl (by kernel_rfl) (by kernel_rfl) (by kernel_rfl) (fun _ _ _ h => h) rfl (fun W1 hW1 => exec_load _ _ _ _ rfl rfl (run_loadCell W1 _ _ _ (keeps_cell4 (kd W1 hW1) C2.out (by simp)) (agg_no _ (by kernel_rfl)))) (KpS.refl _ _ _) ?_
  simp only [Act.put, List.setIfInBounds_toArray, List.set_cons_zero, List.set_cons_succ]
  refine held_take (i := 6) (v := .int .i64 hs.length) rfl (by kernel_rfl) (by kernel_rfl) (by kernel_rfl) (fun _ _ _ h => h) rfl (fun W1 hW1 => by go_simp) (KpS.refl _ _ _) ?_
  simp only [Act.put, List.setIfInBounds_toArray, List.set_cons_zero, List.set_cons_succ]
  have Hd0 := HH.out.keep (kd _ (KpS.refl _ _ _))
  refine held_do (i := 1) (by kernel_rfl) rfl rfl (wp_enter (f := 12) (args := #[.pointer (some ⟨q, 0, none⟩)]) (by go_simp) (lCount_any w.drew q p g first hs Hd0.c.sl) ?_)
  rintro e _ ⟨rfl, rfl⟩
  refine ⟨_, rfl, KpS.refl _ _ _, ?_⟩
  simp only [Act.put, List.setIfInBounds_toArray, List.set_cons_zero, List.set_cons_succ]
  refine held_take (i := 7) (v := .bool false) rfl (by kernel_rfl) (by kernel_rfl) (by kernel_rfl) (fun _ _ _ h => h) rfl (fun W1 hW1 => by go_simp) (KpS.refl _ _ _) ?_
  simp only [Act.put, List.setIfInBounds_toArray, List.set_cons_zero, List.set_cons_succ]
  refine held_take (i := 8) (v := .bool false) rfl (by kernel_rfl) (by kernel_rfl) (by kernel_rfl) (fun _ _ _ h => h) rfl (fun W1 hW1 => rfl) (KpS.refl _ _ _) ?_
  simp only [Act.put, List.setIfInBounds_toArray, List.set_cons_zero, List.set_cons_succ]
  refine held_takeWD (i := 9) (v := .pointer (some ⟨q, 0, none⟩)) rfl (by kernel_rfl) (by kernel_rfl) (by kernel_rfl) (fun _ _ _ h => h) rfl (fun W1 hW1 => rfl) (KpS.refl _ _ _) ?_
  simp only [Act.put, List.setIfInBounds_toArray, List.set_cons_zero, List.set_cons_succ]
  refine held_takeWD (i := 11) (v := .pointer (some ⟨rq, 0, none⟩)) rfl (by kernel_rfl) (by kernel_rfl) (by kernel_rfl) (fun _ _ _ h => h) rfl (fun W1 hW1 => rfl) (KpS.refl _ _ _) ?_
  simp only [Act.put, List.setIfInBounds_toArray, List.set_cons_zero, List.set_cons_succ]
  refine held_doWD (i := 10) (by kernel_rfl) rfl rfl (wp_enter (f := 17) (args := #[.pointer (some ⟨q, 0, none⟩)]) (by go_simp) (lFree_any w.drew q p g first hs Hd0.c.sl) ?_)
  rintro e w1 ⟨rfl, k1⟩
  have s1 : KpS [] w.heap.size w.drew w1 := (KpS.refl _ _ w.drew).keeps k1 (by simp) (by simp)
  refine ⟨_, rfl, s1, ?_⟩
  simp only [Act.put, List.setIfInBounds_toArray, List.set_cons_zero, List.set_cons_succ]
  have Hd1 := Hd0.keep k1
  refine held_doWD (i := 12) (by kernel_rfl) rfl rfl (wp_enter (f := 31) (args := #[.pointer (some ⟨rq, 0, none⟩)]) (by go_simp) (rfree_any w1 rq rp first hs M Hd1.r.sl (by omega)) ?_)
  rintro e _ ⟨rfl, rfl⟩
  refine ⟨_, rfl, s1, ?_⟩
  simp only [Act.put, List.setIfInBounds_toArray, List.set_cons_zero, List.set_cons_succ]
  refine held_takeWD (i := 13) (v := .bool false) rfl (by kernel_rfl) (by kernel_rfl) (by kernel_rfl) (fun _ _ _ h => h) rfl (fun W1 hW1 => by go_simp) (s1) ?_
  simp only [Act.put, List.setIfInBounds_toArray, List.set_cons_zero, List.set_cons_succ]
  refine held_take (i := 14) (v := .bool false) rfl (by kernel_rfl) (by kernel_rfl) (by kernel_rfl) (fun _ _ _ h => h) rfl (fun W1 hW1 => by go_simp) (s1) ?_
  simp only [Act.put, List.setIfInBounds_toArray, List.set_cons_zero, List.set_cons_succ]
  refine wpAnyH_done (by kernel_rfl) (NoPanic.normal ?_) _
  have K1 := hid (kd w1 s1)
  clear Hd0 Hd1 s1 k1 kd c2
  go_wp2_with fail
  go_loopw [5] (fun v wr => ∃ x : Int, v = .int .i64 x ∧ -1 ≤ x ∧ x ≤ hs.length + 1 ∧ Hid (Keeps [] w wr)) (fun v _ => (hs.length + 2 - intOf v).toNat)
  case atStart => exact ⟨-1, rfl, by omega, by omega, K1⟩
  case round =>
    clear K1
    obtain ⟨x, rfl, hx1, hx2, KK⟩ := hrel
    have c2 := keeps_cell4 KK.out C2.out (by simp)
    by_cases hle : x ≤ hs.length
    · have LG := hid (lGet_any5 wr q p g first hs s F K (HH.out.keep KK.out).c x)
      obtain ⟨er, her⟩ : ∃ er, er = getE hs s x := ⟨_, rfl⟩
      obtain ⟨gx, hgx⟩ : ∃ gx, gx = getX hs s first x := ⟨_, rfl⟩
      have hgl : gx.length ≤ 448 := by rw [hgx]; exact getX_len hs s first x
      have RG := hid (fun W (k : Keeps [] w W) => rget_any W rq p first hs M)
      have RG := hid (fun W (k : Keeps [] w W) => rget_any W rq rp first hs M (HH.out.keep k).r.sl s G (HH.out.keep k).r.dk HH.out.r.ok HH.out.r.room hcnt x)
      rw [← her, ← hgx] at LG
      simp only [← her, ← hgx] at RG
      have HER := hid her
      have HGX := hid hgx
      clear her hgx
      go_wp2_with fail
      refine LG.out.mono ?_
      rintro e w2 ⟨v2, rfl, rv2, k2⟩
      have K2 := hid (KK.out.trans k2)
      have RV2 := hid rv2
      clear k2 rv2 c2
      go_wp2_with fail
      refine (RG.out w2 K2.out).mono ?_
      rintro e w3 ⟨v3, rfl, rv3, k3⟩
      have K3 := hid (K2.out.trans k3)
      have RV3 := hid rv3
      have RV2' := hid (RV2.out.keep k3 (by intro _ _ _ _ _; simp))
      clear k3 rv3 RV2 LG RG
      go_wp2_with fail
      refine (same_true w3 v2 v3 gx RV2'.out RV3.out (by omega)).mono ?_
      rintro e w4 ⟨rfl, k4⟩
      have K4 := hid (K3.out.trans k4)
      have c2 := keeps_cell4 K4.out C2.out (by simp)
      clear k4 RV2' RV3
      have HW := hid (HH.out.keep K4.out)
      by_cases hend : x < 0 ∨ x = hs.length
      · have hno : hasS hs x = false := by unfold hasS; rcases hend with h | h <;> simp <;> omega
        have hus : usedS hs x = false := by unfold usedS; rw [headS_no hno]; rfl
        have LU := hid (fun W (k : Keeps [] w4 W) => lUsed_any W q p g first hs (HW.out.keep k).c.sl x)
        have LK := hid (fun W (k : Keeps [] w4 W) => lKey_any W q p g first hs (HW.out.keep k).c.sl x)
        rw [hus] at LU LK
        clear hno hus
        rcases hend with hneg | rfl
        · have : x = -1 := by omega
          subst this
          go_wp2_with fail
          refine (LU.out w4 (Keeps.refl _ _)).mono ?_
          rintro e _ ⟨rfl, rfl⟩
          go_wp2_with fail
          refine (LK.out w4 (Keeps.refl _ _)).mono ?_
          rintro e w5 ⟨v5, rfl, r5, -, k5⟩
          have K5 := hid (K4.out.trans k5)
          obtain ⟨a5, c5, e5, -⟩ := r5
          simp only [Bool.false_eq_true, if_false, List.length_nil] at e5
          subst e5
          clear k5 LU LK
          go_wp2_with fail
          go_roundw
          case rel => exact ⟨0, by go_num, by omega, by omega, K5⟩
          case measure => simp [intOf]; omega
        · have hx0 : ¬ (hs.length : Int) < 0 := by omega
          have hxk : decide ((hs.length : Int) < 0) = false := by simp
          go_wp2_with fail
          refine (LU.out w4 (Keeps.refl _ _)).mono ?_
          rintro e _ ⟨rfl, rfl⟩
          go_wp2_with fail
          refine (LK.out w4 (Keeps.refl _ _)).mono ?_
          rintro e w5 ⟨v5, rfl, r5, -, k5⟩
          have K5 := hid (K4.out.trans k5)
          obtain ⟨a5, c5, e5, -⟩ := r5
          simp only [Bool.false_eq_true, if_false, List.length_nil] at e5
          subst e5
          clear k5 LU LK
          go_wp2_with fail
          go_roundw
          case rel => exact ⟨hs.length + 1, by go_num, by omega, by omega, K5⟩
          case measure => simp [intOf]; omega
      · have hx0 : 0 ≤ x := by omega
        obtain ⟨k, rfl⟩ := Int.eq_ofNat_of_zero_le hx0
        have hk : k < hs.length := by omega
        have hk0 : decide ((k : Int) < 0) = false := by simp
        have hke : ((k : Int) == (hs.length : Int)) = false := by simp; omega
        have hkr : k < rs.length := by rw [HLEN.out]; exact hk
        have hhk : headS hs (k : Int) = rs[k].hd := by rw [headS_at hk]; have := EHS.out; subst this; rw [List.getElem_map]
        have hus : usedS hs (k : Int) = rs[k].u := by unfold usedS; rw [hhk]; rfl
        have hok := HH.out.r.ok rs[k].hd (by rw [EHS.out]; exact List.mem_map.2 ⟨_, List.getElem_mem hkr, rfl⟩)
        have hkey : (if usedS hs (k : Int) = true then (headS hs (k : Int)).key else []) = rs[k].key := by
          rw [hus, hhk]
          cases hu : rs[k].u with
          | true => rfl
          | false =>
            have := hok.free hu
            have h2 : rs[k].hd.key = [] := by rw [this]; rfl
            exact h2.symm
        have R4 := hid (RR.out.keep K4.out (by simp))
        obtain ⟨g2, c2', eL, d0, d1, -, hg2⟩ := R4.out.at k hkr
        rw [HLEN.out] at eL
        injection eL with e1 _ e3
        subst e1; subst e3
        have rk := R4.out.keys _ (List.getElem_mem hkr)
        have hk40 : rs[k].key.length ≤ 40 := hok.key
        have LU := hid (fun W (k9 : Keeps [] w4 W) => lUsed_any W q p g first hs (HW.out.keep k9).c.sl (k : Int))
        have LK := hid (fun W (k9 : Keeps [] w4 W) => lKey_any W q p g first hs (HW.out.keep k9).c.sl (k : Int))
        rw [hus] at LU
        rw [hkey] at LK
        clear hhk hus hok hkey hx0
        generalize rs[k] = r at d0 d1 rk hk40 LU LK
        obtain ⟨u, kv, key, n⟩ := r
        obtain ⟨xa, xc, exv, -⟩ := id rk
        simp only at d0 d1 rk hk40 exv LU LK
        subst exv
        have RK := hid rk
        have D0 := hid d0
        have D1 := hid d1
        have C24 := hid c2
        clear rk d0 d1
        go_wp2_with fail
        refine wp_region_noPanic (wp_region_any (by kernel_rfl) (wpAny_of_held (S := KpS [] w4.heap.size w4.drew) _ _ _ _ ?_))
        have kd : ∀ W1, KpS [] w4.heap.size w4.drew W1 → Keeps [] w4 W1 := fun W1 h => ⟨h.os, h.tape, h.output, h.size, fun k hk hs => h.block k hk hs⟩
        refine held_take (i := 0) (v := .pointer (some ⟨q, 0, none⟩)) rfl (by kernel_rfl) (by kernel_rfl) (by kernel_rfl) (fun _ _ _ h => h) rfl (fun W1 hW1 => rfl) (KpS.refl _ _ _) ?_
        simp only [Act.put, List.setIfInBounds_toArray, List.set_cons_zero, List.set_cons_succ]
        refine held_take (i := 1) (v := .int .i64 k) rfl (by kernel_rfl) (by kernel_rfl) (by kernel_rfl) (fun _ _ _ h => h) rfl (fun W1 hW1 => rfl) (KpS.refl _ _ _) ?_
        simp only [Act.put, List.setIfInBounds_toArray, List.set_cons_zero, List.set_cons_succ]
        refine held_take (i := 3) (v := .pointer (some ⟨rq, 0, none⟩)) rfl (by kernel_rfl) (by kernel_rfl) (by kernel_rfl) (fun _ _ _ h => h) rfl (fun W1 hW1 => rfl) (KpS.refl _ _ _) ?_
        simp only [Act.put, List.setIfInBounds_toArray, List.set_cons_zero, List.set_cons_succ]
        refine held_take (i := 4) (v := .pointer (some ⟨rq, 0, none⟩)) rfl (by kernel_rfl) (by kernel_rfl) (by kernel_rfl) (fun _ _ _ h => h) rfl (fun W1 hW1 => by go_simp) (KpS.refl _ _ _) ?_
        simp only [Act.put, List.setIfInBounds_toArray, List.set_cons_zero, List.set_cons_succ]
        refine held_take (i := 5) (v := .pointer (some ⟨rq, 2, none⟩)) rfl (by kernel_rfl) (by kernel_rfl) (by kernel_rfl) (fun _ _ _ h => h) rfl (fun W1 hW1 => by go_simp) (KpS.refl _ _ _) ?_
        simp only [Act.put, List.setIfInBounds_toArray, List.set_cons_zero, List.set_cons_succ]
        refine held_take (i := 6) (v := .slice (some ⟨g2, 0, none⟩) hs.length lc) rfl (by kernel_rfl) (by kernel_rfl) (by kernel_rfl) (fun _ _ _ h => h) rfl (fun W1 hW1 => exec_load _ _ _ _ rfl rfl (run_loadCell W1 _ _ _ (keeps_cell4 (kd W1 hW1) C24.out (by simp)) (agg_no _ (by kernel_rfl)))) (KpS.refl _ _ _) ?_
        simp only [Act.put, List.setIfInBounds_toArray, List.set_cons_zero, List.set_cons_succ]
        refine held_take (i := 7) (v := .int .i64 k) rfl (by kernel_rfl) (by kernel_rfl) (by kernel_rfl) (fun _ _ _ h => h) rfl (fun W1 hW1 => rfl) (KpS.refl _ _ _) ?_
        simp only [Act.put, List.setIfInBounds_toArray, List.set_cons_zero, List.set_cons_succ]
        refine held_take (i := 8) (v := .pointer (some ⟨g2, k * 3, none⟩)) rfl (by kernel_rfl) (by kernel_rfl) (by kernel_rfl) (fun _ _ _ h => h) rfl (fun W1 hW1 => by go_simp) (KpS.refl _ _ _) ?_
        simp only [Act.put, List.setIfInBounds_toArray, List.set_cons_zero, List.set_cons_succ]
        refine held_take (i := 9) (v := .pointer (some ⟨g2, k * 3, none⟩)) rfl (by kernel_rfl) (by kernel_rfl) (by kernel_rfl) (fun _ _ _ h => h) rfl (fun W1 hW1 => by go_simp) (KpS.refl _ _ _) ?_
        simp only [Act.put, List.setIfInBounds_toArray, List.set_cons_zero, List.set_cons_succ]
        refine held_take (i := 10) (v := .bool u) rfl (by kernel_rfl) (by kernel_rfl) (by kernel_rfl) (fun _ _ _ h => h) rfl (fun W1 hW1 => exec_load _ _ _ _ rfl rfl (run_loadCell W1 _ _ _ (keeps_cell4 (kd W1 hW1) D0.out (by simp)) (agg_no _ (by kernel_rfl)))) (KpS.refl _ _ _) ?_
        simp only [Act.put, List.setIfInBounds_toArray, List.set_cons_zero, List.set_cons_succ]
        refine held_do (i := 2) (by kernel_rfl) rfl rfl (wp_enter (f := 33) (args := #[.pointer (some ⟨q, 0, none⟩), .int .i64 k]) (by go_simp) (LU.out w4.drew (kd _ (KpS.refl _ _ _))) ?_)
        rintro e _ ⟨rfl, rfl⟩
        refine ⟨_, rfl, KpS.refl _ _ _, ?_⟩
        simp only [Act.put, List.setIfInBounds_toArray, List.set_cons_zero, List.set_cons_succ]
        refine held_take (i := 11) (v := .bool false) rfl (by kernel_rfl) (by kernel_rfl) (by kernel_rfl) (fun _ _ _ h => h) rfl (fun W1 hW1 => by go_simp) (KpS.refl _ _ _) ?_
        simp only [Act.put, List.setIfInBounds_toArray, List.set_cons_zero, List.set_cons_succ]
        refine held_take (i := 12) (v := .bool false) rfl (by kernel_rfl) (by kernel_rfl) (by kernel_rfl) (fun _ _ _ h => h) rfl (fun W1 hW1 => rfl) (KpS.refl _ _ _) ?_
        simp only [Act.put, List.setIfInBounds_toArray, List.set_cons_zero, List.set_cons_succ]
        refine held_takeWD (i := 13) (v := .pointer (some ⟨q, 0, none⟩)) rfl (by kernel_rfl) (by kernel_rfl) (by kernel_rfl) (fun _ _ _ h => h) rfl (fun W1 hW1 => rfl) (KpS.refl _ _ _) ?_
        simp only [Act.put, List.setIfInBounds_toArray, List.set_cons_zero, List.set_cons_succ]
        refine held_takeWD (i := 14) (v := .int .i64 k) rfl (by kernel_rfl) (by kernel_rfl) (by kernel_rfl) (fun _ _ _ h => h) rfl (fun W1 hW1 => rfl) (KpS.refl _ _ _) ?_
        simp only [Act.put, List.setIfInBounds_toArray, List.set_cons_zero, List.set_cons_succ]
        refine held_takeWD (i := 16) (v := .pointer (some ⟨rq, 0, none⟩)) rfl (by kernel_rfl) (by kernel_rfl) (by kernel_rfl) (fun _ _ _ h => h) rfl (fun W1 hW1 => rfl) (KpS.refl _ _ _) ?_
        simp only [Act.put, List.setIfInBounds_toArray, List.set_cons_zero, List.set_cons_succ]
        refine held_takeWD (i := 17) (v := .pointer (some ⟨rq, 0, none⟩)) rfl (by kernel_rfl) (by kernel_rfl) (by kernel_rfl) (fun _ _ _ h => h) rfl (fun W1 hW1 => by go_simp) (KpS.refl _ _ _) ?_
        simp only [Act.put, List.setIfInBounds_toArray, List.set_cons_zero, List.set_cons_succ]
        refine held_takeWD (i := 18) (v := .pointer (some ⟨rq, 2, none⟩)) rfl (by kernel_rfl) (by kernel_rfl) (by kernel_rfl) (fun _ _ _ h => h) rfl (fun W1 hW1 => by go_simp) (KpS.refl _ _ _) ?_
        simp only [Act.put, List.setIfInBounds_toArray, List.set_cons_zero, List.set_cons_succ]
        refine held_takeWD (i := 19) (v := .slice (some ⟨g2, 0, none⟩) hs.length lc) rfl (by kernel_rfl) (by kernel_rfl) (by kernel_rfl) (fun _ _ _ h => h) rfl (fun W1 hW1 => exec_load _ _ _ _ rfl rfl (run_loadCell W1 _ _ _ (keeps_cell4 (kd W1 hW1) C24.out (by simp)) (agg_no _ (by kernel_rfl)))) (KpS.refl _ _ _) ?_
        simp only [Act.put, List.setIfInBounds_toArray, List.set_cons_zero, List.set_cons_succ]
        refine held_takeWD (i := 20) (v := .int .i64 k) rfl (by kernel_rfl) (by kernel_rfl) (by kernel_rfl) (fun _ _ _ h => h) rfl (fun W1 hW1 => rfl) (KpS.refl _ _ _) ?_
        simp only [Act.put, List.setIfInBounds_toArray, List.set_cons_zero, List.set_cons_succ]
        refine held_takeWD (i := 21) (v := .pointer (some ⟨g2, k * 3, none⟩)) rfl (by kernel_rfl) (by kernel_rfl) (by kernel_rfl) (fun _ _ _ h => h) rfl (fun W1 hW1 => by go_simp) (KpS.refl _ _ _) ?_
        simp only [Act.put, List.setIfInBounds_toArray, List.set_cons_zero, List.set_cons_succ]
        refine held_takeWD (i := 22) (v := .pointer (some ⟨g2, k * 3 + 1, none⟩)) rfl (by kernel_rfl) (by kernel_rfl) (by kernel_rfl) (fun _ _ _ h => h) rfl (fun W1 hW1 => by go_simp) (KpS.refl _ _ _) ?_
        simp only [Act.put, List.setIfInBounds_toArray, List.set_cons_zero, List.set_cons_succ]
        refine held_takeWD (i := 23) (v := .slice xa key.length xc) rfl (by kernel_rfl) (by kernel_rfl) (by kernel_rfl) (fun _ _ _ h => h) rfl (fun W1 hW1 => exec_load _ _ _ _ rfl rfl (run_loadCell W1 _ _ _ (keeps_cell4 (kd W1 hW1) D1.out (by simp)) (agg_no _ (by kernel_rfl)))) (KpS.refl _ _ _) ?_
        simp only [Act.put, List.setIfInBounds_toArray, List.set_cons_zero, List.set_cons_succ]
        refine held_doWD (i := 15) (by kernel_rfl) rfl rfl (wp_enter (f := 34) (args := #[.pointer (some ⟨q, 0, none⟩), .int .i64 k]) (by go_simp) (LK.out w4.drew (kd _ (KpS.refl _ _ _))) ?_)
        rintro e w5 ⟨v5, rfl, r5, -, k5⟩
        have s5 : KpS [] w4.heap.size w4.drew w5 := (KpS.refl _ _ w4.drew).keeps k5 (by simp) (by simp)
        refine ⟨_, rfl, s5, ?_⟩
        simp only [Act.put, List.setIfInBounds_toArray, List.set_cons_zero, List.set_cons_succ]
        have rk5 := RK.out.keep (kd w5 s5) (by intro _ _ _ _ _; simp)
        refine held_doWD (i := 24) (by kernel_rfl) rfl rfl (wp_enter (f := 15) (args := #[v5, .slice xa key.length xc]) (by go_simp) (same_true w5 v5 _ key r5 rk5 (by omega)) ?_)
        rintro e w6 ⟨rfl, k6⟩
        have s6 : KpS [] w4.heap.size w4.drew w6 := s5.keeps k6 s5.size (by simp)
        refine ⟨_, rfl, s6, ?_⟩
        simp only [Act.put, List.setIfInBounds_toArray, List.set_cons_zero, List.set_cons_succ]
        refine held_takeWD (i := 25) (v := .bool false) rfl (by kernel_rfl) (by kernel_rfl) (by kernel_rfl) (fun _ _ _ h => h) rfl (fun W1 hW1 => by go_simp) (s6) ?_
        simp only [Act.put, List.setIfInBounds_toArray, List.set_cons_zero, List.set_cons_succ]
        refine held_take (i := 26) (v := .bool false) rfl (by kernel_rfl) (by kernel_rfl) (by kernel_rfl) (fun _ _ _ h => h) rfl (fun W1 hW1 => by go_simp) (s6) ?_
        simp only [Act.put, List.setIfInBounds_toArray, List.set_cons_zero, List.set_cons_succ]
        refine held_take (i := 27) (v := .bool false) rfl (by kernel_rfl) (by kernel_rfl) (by kernel_rfl) (fun _ _ _ h => h) rfl (fun W1 hW1 => rfl) (s6) ?_
        simp only [Act.put, List.setIfInBounds_toArray, List.set_cons_zero, List.set_cons_succ]
        refine held_takeWD (i := 28) (v := .pointer (some ⟨q, 0, none⟩)) rfl (by kernel_rfl) (by kernel_rfl) (by kernel_rfl) (fun _ _ _ h => h) rfl (fun W1 hW1 => rfl) (s6) ?_
        simp only [Act.put, List.setIfInBounds_toArray, List.set_cons_zero, List.set_cons_succ]
        refine held_takeWD (i := 29) (v := .pointer (some ⟨rq, 0, none⟩)) rfl (by kernel_rfl) (by kernel_rfl) (by kernel_rfl) (fun _ _ _ h => h) rfl (fun W1 hW1 => rfl) (s6) ?_
        simp only [Act.put, List.setIfInBounds_toArray, List.set_cons_zero, List.set_cons_succ]
        refine held_takeWD (i := 30) (v := .pointer (some ⟨rq, 0, none⟩)) rfl (by kernel_rfl) (by kernel_rfl) (by kernel_rfl) (fun _ _ _ h => h) rfl (fun W1 hW1 => by go_simp) (s6) ?_
        simp only [Act.put, List.setIfInBounds_toArray, List.set_cons_zero, List.set_cons_succ]
        refine held_takeWD (i := 31) (v := .pointer (some ⟨rq, 2, none⟩)) rfl (by kernel_rfl) (by kernel_rfl) (by kernel_rfl) (fun _ _ _ h => h) rfl (fun W1 hW1 => by go_simp) (s6) ?_
        simp only [Act.put, List.setIfInBounds_toArray, List.set_cons_zero, List.set_cons_succ]
        refine held_takeWD (i := 32) (v := .slice (some ⟨g2, 0, none⟩) hs.length lc) rfl (by kernel_rfl) (by kernel_rfl) (by kernel_rfl) (fun _ _ _ h => h) rfl (fun W1 hW1 => exec_load _ _ _ _ rfl rfl (run_loadCell W1 _ _ _ (keeps_cell4 (kd W1 hW1) C24.out (by simp)) (agg_no _ (by kernel_rfl)))) (s6) ?_
        simp only [Act.put, List.setIfInBounds_toArray, List.set_cons_zero, List.set_cons_succ]
        refine held_takeWD (i := 33) (v := .int .i64 k) rfl (by kernel_rfl) (by kernel_rfl) (by kernel_rfl) (fun _ _ _ h => h) rfl (fun W1 hW1 => rfl) (s6) ?_
        simp only [Act.put, List.setIfInBounds_toArray, List.set_cons_zero, List.set_cons_succ]
        refine held_takeWD (i := 34) (v := .pointer (some ⟨g2, k * 3, none⟩)) rfl (by kernel_rfl) (by kernel_rfl) (by kernel_rfl) (fun _ _ _ h => h) rfl (fun W1 hW1 => by go_simp) (s6) ?_
        simp only [Act.put, List.setIfInBounds_toArray, List.set_cons_zero, List.set_cons_succ]
        refine held_takeWD (i := 35) (v := .pointer (some ⟨g2, k * 3 + 1, none⟩)) rfl (by kernel_rfl) (by kernel_rfl) (by kernel_rfl) (fun _ _ _ h => h) rfl (fun W1 hW1 => by go_simp) (s6) ?_
        simp only [Act.put, List.setIfInBounds_toArray, List.set_cons_zero, List.set_cons_succ]
        refine held_takeWD (i := 36) (v := .slice xa key.length xc) rfl (by kernel_rfl) (by kernel_rfl) (by kernel_rfl) (fun _ _ _ h => h) rfl (fun W1 hW1 => exec_load _ _ _ _ rfl rfl (run_loadCell W1 _ _ _ (keeps_cell4 (kd W1 hW1) D1.out (by simp)) (agg_no _ (by kernel_rfl)))) (s6) ?_
        simp only [Act.put, List.setIfInBounds_toArray, List.set_cons_zero, List.set_cons_succ]
        refine held_takeWD (i := 38) (v := .pointer (some ⟨rq, 0, none⟩)) rfl (by kernel_rfl) (by kernel_rfl) (by kernel_rfl) (fun _ _ _ h => h) rfl (fun W1 hW1 => rfl) (s6) ?_
        simp only [Act.put, List.setIfInBounds_toArray, List.set_cons_zero, List.set_cons_succ]
        refine held_takeWD (i := 39) (v := .pointer (some ⟨rq, 0, none⟩)) rfl (by kernel_rfl) (by kernel_rfl) (by kernel_rfl) (fun _ _ _ h => h) rfl (fun W1 hW1 => rfl) (s6) ?_
        simp only [Act.put, List.setIfInBounds_toArray, List.set_cons_zero, List.set_cons_succ]
        refine held_takeWD (i := 40) (v := .pointer (some ⟨rq, 0, none⟩)) rfl (by kernel_rfl) (by kernel_rfl) (by kernel_rfl) (fun _ _ _ h => h) rfl (fun W1 hW1 => by go_simp) (s6) ?_
        simp only [Act.put, List.setIfInBounds_toArray, List.set_cons_zero, List.set_cons_succ]
        refine held_takeWD (i := 41) (v := .pointer (some ⟨rq, 2, none⟩)) rfl (by kernel_rfl) (by kernel_rfl) (by kernel_rfl) (fun _ _ _ h => h) rfl (fun W1 hW1 => by go_simp) (s6) ?_
        simp only [Act.put, List.setIfInBounds_toArray, List.set_cons_zero, List.set_cons_succ]
        refine held_takeWD (i := 42) (v := .slice (some ⟨g2, 0, none⟩) hs.length lc) rfl (by kernel_rfl) (by kernel_rfl) (by kernel_rfl) (fun _ _ _ h => h) rfl (fun W1 hW1 => exec_load _ _ _ _ rfl rfl (run_loadCell W1 _ _ _ (keeps_cell4 (kd W1 hW1) C24.out (by simp)) (agg_no _ (by kernel_rfl)))) (s6) ?_
        simp only [Act.put, List.setIfInBounds_toArray, List.set_cons_zero, List.set_cons_succ]
        refine held_takeWD (i := 43) (v := .int .i64 k) rfl (by kernel_rfl) (by kernel_rfl) (by kernel_rfl) (fun _ _ _ h => h) rfl (fun W1 hW1 => rfl) (s6) ?_
        simp only [Act.put, List.setIfInBounds_toArray, List.set_cons_zero, List.set_cons_succ]
        refine held_takeWD (i := 44) (v := .pointer (some ⟨g2, k * 3, none⟩)) rfl (by kernel_rfl) (by kernel_rfl) (by kernel_rfl) (fun _ _ _ h => h) rfl (fun W1 hW1 => by go_simp) (s6) ?_
        simp only [Act.put, List.setIfInBounds_toArray, List.set_cons_zero, List.set_cons_succ]
        refine held_takeWD (i := 45) (v := .pointer (some ⟨g2, k * 3 + 1, none⟩)) rfl (by kernel_rfl) (by kernel_rfl) (by kernel_rfl) (fun _ _ _ h => h) rfl (fun W1 hW1 => by go_simp) (s6) ?_
        simp only [Act.put, List.setIfInBounds_toArray, List.set_cons_zero, List.set_cons_succ]
        refine held_takeWD (i := 46) (v := .slice xa key.length xc) rfl (by kernel_rfl) (by kernel_rfl) (by kernel_rfl) (fun _ _ _ h => h) rfl (fun W1 hW1 => exec_load _ _ _ _ rfl rfl (run_loadCell W1 _ _ _ (keeps_cell4 (kd W1 hW1) D1.out (by simp)) (agg_no _ (by kernel_rfl)))) (s6) ?_
        simp only [Act.put, List.setIfInBounds_toArray, List.set_cons_zero, List.set_cons_succ]
        have H6 := HW.out.keep (kd w6 s6)
        have rk6 := RK.out.keep (kd w6 s6) (by intro _ _ _ _ _; simp)
        refine held_doWD (i := 37) (by kernel_rfl) rfl rfl (wp_enter (f := 16) (args := #[.pointer (some ⟨q, 0, none⟩), .slice xa key.length xc]) (by go_simp) (lFind_any w6 q p g first hs H6.c.sl _ key rk6) ?_)
        rintro e w7 ⟨rfl, k7⟩
        have s7 : KpS [] w4.heap.size w4.drew w7 := s6.keeps k7 s6.size (by simp)
        refine ⟨_, rfl, s7, ?_⟩
        simp only [Act.put, List.setIfInBounds_toArray, List.set_cons_zero, List.set_cons_succ]
        have H7 := HW.out.keep (kd w7 s7)
        have rk7 := RK.out.keep (kd w7 s7) (by intro _ _ _ _ _; simp)
        refine held_doWD (i := 47) (by kernel_rfl) rfl rfl (wp_enter (f := 35) (args := #[.pointer (some ⟨rq, 0, none⟩), .slice xa key.length xc]) (by go_simp) (rfind_any w7 rq rp first hs M H7.r.sl (by omega) H7.r.ok _ key rk7 (by omega)) ?_)
        rintro e w8 ⟨rfl, k8⟩
        have s8 : KpS [] w4.heap.size w4.drew w8 := s7.keeps k8 s7.size (by simp)
        refine ⟨_, rfl, s8, ?_⟩
        simp only [Act.put, List.setIfInBounds_toArray, List.set_cons_zero, List.set_cons_succ]
        refine held_takeWD (i := 48) (v := .bool false) rfl (by kernel_rfl) (by kernel_rfl) (by kernel_rfl) (fun _ _ _ h => h) rfl (fun W1 hW1 => by go_simp) (s8) ?_
        simp only [Act.put, List.setIfInBounds_toArray, List.set_cons_zero, List.set_cons_succ]
        refine held_take (i := 49) (v := .bool false) rfl (by kernel_rfl) (by kernel_rfl) (by kernel_rfl) (fun _ _ _ h => h) rfl (fun W1 hW1 => by go_simp) (s8) ?_
        simp only [Act.put, List.setIfInBounds_toArray, List.set_cons_zero, List.set_cons_succ]
        refine wpAnyH_done (by kernel_rfl) (NoPanic.normal ?_) _
        have K8 := hid (K4.out.trans (kd w8 s8))
        clear s5 s6 s7 s8 k5 k6 k7 k8 rk5 rk6 rk7 H6 H7 r5 kd
        go_wp2_with fail
        go_roundw
        case rel => exact ⟨(k : Int) + 1, by go_num, by omega, by omega, K8⟩
        case measure => simp [intOf]; omega
    · have hxe : x = hs.length + 1 := by omega
      subst hxe
      go_wp2_with fail
      go_ret
      exact ⟨rfl, KK.out⟩
end Go.Proofs.Ytiljhjegfklgmaa
