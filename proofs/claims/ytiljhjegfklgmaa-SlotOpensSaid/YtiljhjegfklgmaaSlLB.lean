/- Open of a disk one of whose heads is none, or with no such first sector; Get, whatever is there. -/
import Derived.Test.YtiljhjegfklgmaaSlJb
namespace Go.Proofs.Ytiljhjegfklgmaa
open Go.RowKit Go.Shelf
attribute [local go_sem] Oper.semAt_some

set_option maxRecDepth 100000 in
set_option maxHeartbeats 6400000 in
theorem lOpen_bad (w : World) (p : Nat) (s : DS) (F : List Nat) (K : Nat) (D : DiskAt w p s F K) (first n : Nat) (hf : first ≤ s.cnt) (hn : n = (s.cnt - first) / 8) (hd : s.dead = false) (k0 : Nat) (hk0 : k0 < n) (hg : ∀ j, j < k0 → hdE (s.now (first + j * 8)).1 = 0) (hb : hdE (s.now (first + k0 * 8)).1 = 4) :
    Calls Try.prog 9 #[.pointer (some ⟨p, 0, none⟩), .int .i64 first] w fun e w' => e = .returned (.tuple #[.pointer none, .int .i64 4]) ∧ Keeps [] w w' := by
  have HD := hid D
  have HG := hid hg
  have HBAD := hid hb
  have hcnt := D.1.hi
  have hlo := D.1.lo
  have lF : ∀ j ∈ F, j < w.heap.size := fun j hj => by obtain ⟨m, dm⟩ := D.dm; exact dm.lt j hj
  have hn520 : n ≤ 520 := by omega
  have hfit : first + n * 8 ≤ s.cnt := by omega
  have SC := hid (sectorsAt_any w p s F K D)
  have WL := lWell_any w p s F K D
  rw [hd] at WL
  have WLH := hid WL
  have HDD := hid hd
  have t1 : ¬ (first : Int) > (s.cnt : Int) := by omega
  have tq : ((s.cnt : Int) - (first : Int)).tdiv 8 = (n : Int) := by
    have e : (s.cnt : Int) - (first : Int) = ((s.cnt - first : Nat) : Int) := by omega
    rw [e, hn]
    exact Int.ofNat_tdiv _ _
  have HMK := run_makeHds n hn520
  clear D hg hb WL hd hn
  go_enter Try.func9, Try.ntmps9
  go_wp2_with fail
  refine SC.out.mono ?_
  rintro e _ ⟨rfl, rfl⟩
  go_wp2_with fail
  refine WLH.out.mono ?_
  rintro e w1 ⟨rfl, k1⟩
  have K1 := hid k1
  have D1 := hid (HD.out.keep k1 (by simp))
  have SC1 := hid (sectorsAt_any w1 p s F K D1.out)
  clear k1
  go_wp2_with fail
  refine SC1.out.mono ?_
  rintro e _ ⟨rfl, rfl⟩
  go_wp2_with fail
  have zA : ((w1.alloc (.cells (hdsC (List.replicate n hd0)).toArray 72)).alloc (.cells #[.pointer (some ⟨p, 0, none⟩), .int .i64 first, .slice (some ⟨w1.heap.size, 0, none⟩) n n] 69)).heap.size = w1.heap.size + 2 := by simp
  have gA := heap_alloc2_old w1 (.cells (hdsC (List.replicate n hd0)).toArray 72) (.cells #[.pointer (some ⟨p, 0, none⟩), .int .i64 first, .slice (some ⟨w1.heap.size, 0, none⟩) n n] 69)
  have bA := heap_alloc2_new w1 (.cells (hdsC (List.replicate n hd0)).toArray 72) (.cells #[.pointer (some ⟨p, 0, none⟩), .int .i64 first, .slice (some ⟨w1.heap.size, 0, none⟩) n n] 69)
  have kA : Keeps [] w1 ((w1.alloc (.cells (hdsC (List.replicate n hd0)).toArray 72)).alloc (.cells #[.pointer (some ⟨p, 0, none⟩), .int .i64 first, .slice (some ⟨w1.heap.size, 0, none⟩) n n] 69)) := ((Keeps.refl [] w1).alloc _).alloc _
  have S0 : SlotsAt ((w1.alloc (.cells (hdsC (List.replicate n hd0)).toArray 72)).alloc (.cells #[.pointer (some ⟨p, 0, none⟩), .int .i64 first, .slice (some ⟨w1.heap.size, 0, none⟩) n n] 69)) (w1.heap.size + 1) p w1.heap.size first (opS s first n 0) := by
    rw [opS_zero]
    refine ⟨by rw [List.length_replicate]; exact bA, gA, by omega, fun h hh => ?_, by rw [List.length_replicate]; omega⟩
    obtain rfl := (List.mem_replicate.1 hh).2
    exact ⟨by simp [hd0], by simp [hd0], by simp [hd0], fun _ => rfl⟩
  have S0H := hid S0
  have KA := hid kA
  have D2 := hid (D1.out.keep kA (by simp))
  clear gA bA kA S0
  generalize (w1.alloc (.cells (hdsC (List.replicate n hd0)).toArray 72)).alloc (.cells #[.pointer (some ⟨p, 0, none⟩), .int .i64 first, .slice (some ⟨w1.heap.size, 0, none⟩) n n] 69) = w2 at zA S0H KA D2 ⊢
  have hw1 := K1.out.size
  have ZA := hid zA
  clear zA tq HMK t1
  have gF : w1.heap.size ∉ F := fun hm => by have := lF _ hm; omega
  have qF : w1.heap.size + 1 ∉ F := fun hm => by have := lF _ hm; omega
  go_loopw [40] (fun i wr => ∃ (k : Nat), k ≤ k0 ∧ i = .int .i64 k ∧ SlotsAt wr (w1.heap.size + 1) p w1.heap.size first (opS s first n k) ∧ Keeps [w1.heap.size] w2 wr) (fun i _ => n - (intOf i).toNat)
  case atStart => exact ⟨0, by omega, rfl, S0H.out, Keeps.refl _ _⟩
  case round =>
    obtain ⟨k, hk, rfl, q1, q2⟩ := hrel
    have Q1 := hid q1
    have Q2 := hid q2
    have hzr : w2.heap.size ≤ wr.heap.size := q2.size
    clear q1 q2
    · have hlt : k < n := by omega
      have hlt' : (k : Int) < (n : Int) := by omega
      have LB := hid (lBegin_any wr (w1.heap.size + 1) p w1.heap.size first _ Q1.out k (by omega) (by omega))
      have DR := hid (D2.out.keep Q2.out (by intro b hb hm; simp at hm; subst hm; exact gF hb))
      have eE : readE s ((first + k * 8 : Nat) : Int) = 0 := by
        unfold readE
        rw [HDD.out]
        simp only [Bool.false_eq_true, if_false]
        rw [if_pos (by omega)]
      have eB : readB s ((first + k * 8 : Nat) : Int) = (s.now (first + k * 8)).1 := by
        unfold readB
        rw [HDD.out]
        rw [Int.toNat_natCast]
        simp
        omega
      have RD := readAt_any wr p s F K DR.out ((first + k * 8 : Nat) : Int)
      rw [eE, eB] at RD
      have h64 := (s.now (first + k * 8)).2.1
      have hge : (k < k0 → hdE (s.now (first + k * 8)).1 = 0) ∧ (k = k0 → hdE (s.now (first + k * 8)).1 = 4) := ⟨HG.out k, fun e => by rw [e]; exact HBAD.out⟩
      have hsu := opS_succ s first n k hlt
      have hok := hdG_ok (s.now (first + k * 8)).2.2
      generalize (s.now (first + k * 8)).1 = row at RD h64 hge hsu hok
      have RDH := hid RD
      have HGE := hid hge
      have HSU := hid hsu
      have HOK := hid hok
      clear RD eE eB hge hsu hok
      go_wp2_with fail
      refine LB.out.mono ?_
      rintro e _ ⟨rfl, rfl⟩
      go_wp2_with fail
      refine RDH.out.mono ?_
      rintro e w3 ⟨rv, rfl, rr, -, k3⟩
      obtain ⟨ra, rc, rfl, hrr⟩ := id rr
      have RR := hid rr
      have K3 := hid k3
      have S3 := hid (Q1.out.keep k3 (by simp) (by simp))
      have z3 : wr.heap.size ≤ w3.heap.size := k3.size
      clear rr k3 hrr
      go_wp2_with fail
      have hol := opS_len s first n k
      refine wp_region_any (by kernel_rfl) (wpAny_of_held (S := KpS [w1.heap.size] w3.heap.size w3.drew) _ _ _ _ ?_)
      change wpAnyH _ _ _ _ _ _ _ _ w3.drew
      have cQ : ∀ W1, KpS [w1.heap.size] w3.heap.size w3.drew W1 → W1.cell? ⟨w1.heap.size + 1, 2, none⟩ = some (.slice (some ⟨w1.heap.size, 0, none⟩) n n) := fun W1 h => h.cell (by rw [World.cell?_drew]; have := S3.out.c2; rw [hol] at this; exact this) (by have := S3.out.ltq; omega) (by simp)
      refine held_take (i := 0) (v := .pointer (some ⟨w1.heap.size + 1, 0, none⟩)) rfl (by kernel_rfl) (by kernel_rfl) (by kernel_rfl) (fun _ _ _ h => h) rfl (fun W1 hW1 => rfl) (KpS.refl _ _ _) ?_
      simp only [Act.put, List.setIfInBounds_toArray, List.set_cons_zero, List.set_cons_succ]
      refine held_take (i := 1) (v := .pointer (some ⟨w1.heap.size + 1, 0, none⟩)) rfl (by kernel_rfl) (by kernel_rfl) (by kernel_rfl) (fun _ _ _ h => h) rfl (fun W1 hW1 => by go_simp) (KpS.refl _ _ _) ?_
      simp only [Act.put, List.setIfInBounds_toArray, List.set_cons_zero, List.set_cons_succ]
      refine held_take (i := 2) (v := .pointer (some ⟨w1.heap.size + 1, 2, none⟩)) rfl (by kernel_rfl) (by kernel_rfl) (by kernel_rfl) (fun _ _ _ h => h) rfl (fun W1 hW1 => by go_simp) (KpS.refl _ _ _) ?_
      simp only [Act.put, List.setIfInBounds_toArray, List.set_cons_zero, List.set_cons_succ]
      refine held_take (i := 3) (v := .slice (some ⟨w1.heap.size, 0, none⟩) n n) rfl (by kernel_rfl) (by kernel_rfl) (by kernel_rfl) (fun _ _ _ h => h) rfl (fun W1 hW1 => exec_load _ _ _ _ rfl rfl (run_loadCell W1 _ _ _ (cQ W1 hW1) (agg_no _ (by kernel_rfl)))) (KpS.refl _ _ _) ?_
      simp only [Act.put, List.setIfInBounds_toArray, List.set_cons_zero, List.set_cons_succ]
      refine held_take (i := 4) (v := .int .i64 k) rfl (by kernel_rfl) (by kernel_rfl) (by kernel_rfl) (fun _ _ _ h => h) rfl (fun W1 hW1 => rfl) (KpS.refl _ _ _) ?_
      simp only [Act.put, List.setIfInBounds_toArray, List.set_cons_zero, List.set_cons_succ]
      have RR2 := RR.out
      rw [h64] at RR2
      refine held_take (i := 5) (v := .slice ra 64 rc) rfl (by kernel_rfl) (by kernel_rfl) (by kernel_rfl) (fun _ _ _ h => h) rfl (fun W1 hW1 => rfl) (KpS.refl _ _ _) ?_
      simp only [Act.put, List.setIfInBounds_toArray, List.set_cons_zero, List.set_cons_succ]
      refine held_do (i := 6) (by kernel_rfl) rfl rfl (wp_enter (f := 29) (args := #[.slice ra 64 rc]) (by go_simp) (readHead_any w3.drew _ row (RR2.keep (Keeps.refl [] w3).drew (by intro _ _ _ _ _; simp)) (by omega)) ?_)
      rintro e w4 ⟨rfl, k4⟩
      obtain ⟨er, her⟩ : ∃ er, er = hdE row := ⟨_, rfl⟩
      rw [← her]
      have kk : KpS [w1.heap.size] w3.heap.size w3.drew w4 := (KpS.refl _ _ _).keeps k4 (Nat.le_refl _) (by simp)
      refine ⟨_, rfl, kk, ?_⟩
      simp only [Act.put, List.setIfInBounds_toArray, List.set_cons_zero, List.set_cons_succ]
      refine held_take (i := 7) (v := .tuple #[hdV (hdG row), .int .i64 er]) rfl (by kernel_rfl) (by kernel_rfl) (by kernel_rfl) (fun _ _ _ h => h) rfl (fun W1 hW1 => rfl) (kk) ?_
      simp only [Act.put, List.setIfInBounds_toArray, List.set_cons_zero, List.set_cons_succ]
      refine held_take (i := 8) (v := hdV (hdG row)) rfl (by kernel_rfl) (by kernel_rfl) (by kernel_rfl) (fun _ _ _ h => h) rfl (fun W1 hW1 => by go_simp) (kk) ?_
      simp only [Act.put, List.setIfInBounds_toArray, List.set_cons_zero, List.set_cons_succ]
      refine held_take (i := 9) (v := .int .i64 er) rfl (by kernel_rfl) (by kernel_rfl) (by kernel_rfl) (fun _ _ _ h => h) rfl (fun W1 hW1 => by go_simp) (kk) ?_
      simp only [Act.put, List.setIfInBounds_toArray, List.set_cons_zero, List.set_cons_succ]
      refine held_take (i := 10) (v := .pointer (some ⟨w1.heap.size, k * 3, none⟩)) rfl (by kernel_rfl) (by kernel_rfl) (by kernel_rfl) (fun _ _ _ h => h) rfl (fun W1 hW1 => by go_simp) (kk) ?_
      simp only [Act.put, List.setIfInBounds_toArray, List.set_cons_zero, List.set_cons_succ]
      have S4 : SlotsAt w4 (w1.heap.size + 1) p w1.heap.size first (opS s first n k) := S3.out.keep (show Keeps [] w3 w4 from ⟨k4.os, k4.tape, k4.output, k4.size, k4.block⟩) (by simp) (by simp)
      have hth : w4.there w1.heap.size (k * 3) 3 := there_of S4.hds (k * 3) 3 (by have := hdsC_len (opS s first n k); simp; omega)
      refine held_do (i := 11) (by kernel_rfl) rfl rfl (wp_store_mid 72 _ _ rfl w1.heap.size (k * 3) (hdG row).cells.toArray rfl rfl hth (by rw [sHd]; rfl) (hdG row).one ?_)
      have kk5 : KpS [w1.heap.size] w3.heap.size w3.drew (w4.setCells w1.heap.size (k * 3) (hdG row).cells) := ((kk.setCell _ _ _ (.inl (by simp))).setCell _ _ _ (.inl (by simp))).setCell _ _ _ (.inl (by simp))
      refine ⟨kk5, ?_⟩
      simp only [Act.put]
      refine held_take (i := 12) (v := .int .i64 er) rfl (by kernel_rfl) (by kernel_rfl) (by kernel_rfl) (fun _ _ _ h => h) rfl (fun W1 hW1 => rfl) (kk5) ?_
      simp only [Act.put, List.setIfInBounds_toArray, List.set_cons_zero, List.set_cons_succ]
      refine wpAnyH_done (by kernel_rfl) ?_ _
      have hs5 := setHd_hds (T := 72) (hdG row) (i := k) (by omega) S4.hds
      have hq5 := (setHd_other w4 w1.heap.size (k * 3) (hdG row) (show w1.heap.size + 1 ≠ w1.heap.size by omega)).trans S4.blk
      rw [HSU.out] at hs5
      have S5 : Hid (SlotsAt (w4.setCells w1.heap.size (k * 3) (hdG row).cells) (w1.heap.size + 1) p w1.heap.size first (opS s first n (k + 1))) := hid ⟨by rw [opS_len]; rw [opS_len] at hq5; exact hq5, hs5, by omega, opS_ok _ _ _ _, by rw [opS_len]; omega⟩
      have K5 : Hid (Keeps [w1.heap.size] w2 (w4.setCells w1.heap.size (k * 3) (hdG row).cells)) := hid (Q2.out.trans ((K3.out.mono (by simp)).trans ⟨kk5.os, kk5.tape, kk5.output, kk5.size, kk5.block⟩))
      have HER := hid her
      clear kk kk5 hs5 hq5 S4 hth cQ k4 her
      by_cases hk1 : k < k0
      · have e0 : er = 0 := by rw [HER.out]; exact HGE.out.1 hk1
        subst e0
        go_wp2_with fail
        go_roundw
        case rel => exact ⟨k + 1, by omega, by go_num, S5.out, K5.out⟩
        case measure => simp [intOf]; omega
      · have e0 : er = 4 := by rw [HER.out]; exact HGE.out.2 (by omega)
        subst e0
        have KZ := hid ((K1.out.trans KA.out).trans' K5.out (fun i hi hm => by simp at hm; omega))
        go_wp2_with fail
        go_ret2
        exact ⟨rfl, KZ.out⟩
theorem lOpen_neg (w : World) (p : Nat) (first : Int) (hf : first < 0) : Calls Try.prog 9 #[.pointer (some ⟨p, 0, none⟩), .int .i64 first] w fun e w' => e = .returned (.tuple #[.pointer none, .int .i64 1]) ∧ w = w' := by
  go_enter Try.func9, Try.ntmps9
  go_wp2_with fail
  go_ret2
  exact ⟨rfl, rfl⟩

set_option maxRecDepth 100000 in
set_option maxHeartbeats 3200000 in
theorem lGet_dead (w : World) (q p g first : Nat) (hs : List Hd) (S : SlotsAt w q p g first hs) (s : DS) (F : List Nat) (K : Nat) (D : DiskAt w p s F K) (hdd : s.dead = true) (i : Int) (ht : takeE hs i = 0) :
    Calls Try.prog 14 #[.pointer (some ⟨q, 0, none⟩), .int .i64 i] w fun e w' => e = .returned (.tuple #[.slice none 0 0, .int .i64 14]) ∧ Keeps [] w w' := by
  have HS := hid S
  have HD := hid D
  have HTE := hid ht
  have HDD := hid hdd
  clear ht S D hdd
  have kA : Keeps [] w (((w.alloc (.cells #[.pointer (some ⟨q, 0, none⟩)] 34)).alloc (.cells #[.slice none 0 0] 31)).alloc (.cells #[.int .i64 0] 25)) := (((Keeps.refl [] w).alloc _).alloc _).alloc _
  have b1 : (((w.alloc (.cells #[.pointer (some ⟨q, 0, none⟩)] 34)).alloc (.cells #[.slice none 0 0] 31)).alloc (.cells #[.int .i64 0] 25)).heap[w.heap.size + 1]? = some (.cells #[.slice none 0 0] 31 (0, 0)) := by
    refine (Below.heap_alloc _ _ _ (by simp)).trans ?_
    exact heap_alloc2_new w _ _
  have b2 : (((w.alloc (.cells #[.pointer (some ⟨q, 0, none⟩)] 34)).alloc (.cells #[.slice none 0 0] 31)).alloc (.cells #[.int .i64 0] 25)).heap[w.heap.size + 2]? = some (.cells #[.int .i64 0] 25 (0, 0)) := by
    have := heap_alloc_new ((w.alloc (.cells #[.pointer (some ⟨q, 0, none⟩)] 34)).alloc (.cells #[.slice none 0 0] 31)) (.cells #[.int .i64 0] 25)
    simpa using this
  have b0 : (((w.alloc (.cells #[.pointer (some ⟨q, 0, none⟩)] 34)).alloc (.cells #[.slice none 0 0] 31)).alloc (.cells #[.int .i64 0] 25)).heap[w.heap.size]? = some (.cells #[.pointer (some ⟨q, 0, none⟩)] 34 (0, 0)) := by
    refine (Below.heap_alloc _ _ _ (by simp; omega)).trans ?_
    exact heap_alloc2_old w _ _
  have KA := hid kA
  have B0 := hid b0
  have B1 := hid b1
  have B2 := hid b2
  clear kA b0 b1 b2
  go_enter Try.func14, Try.ntmps14
  go_wp2_with fail
  generalize ((w.alloc (.cells #[.pointer (some ⟨q, 0, none⟩)] 34)).alloc (.cells #[.slice none 0 0] 31)).alloc (.cells #[.int .i64 0] 25) = wA at KA B0 B1 B2 ⊢
  have c1 : wA.cell? ⟨w.heap.size + 1, 0, none⟩ = some (.slice none 0 0) := cell_of_row _ _ 0 _ _ (0, 0) B1.out
  have f1 : wA.frozen? ⟨w.heap.size + 1, 0, none⟩ = false := by simp [World.frozen?, B1.out]
  have c2 : wA.cell? ⟨w.heap.size + 2, 0, none⟩ = some (.int .i64 0) := cell_of_row _ _ 0 _ _ (0, 0) B2.out
  have f2 : wA.frozen? ⟨w.heap.size + 2, 0, none⟩ = false := by simp [World.frozen?, B2.out]
  have c0 : wA.cell? ⟨w.heap.size, 0, none⟩ = some (.pointer (some ⟨q, 0, none⟩)) := cell_of_row _ _ 0 _ _ (0, 0) B0.out
  have cq := (HS.out.keep KA.out (by simp) (by simp)).c0
  have TK := lTake_any wA q p g first hs (HS.out.keep KA.out (by simp) (by simp)) i
  rw [HTE.out] at TK
  have TKH := hid TK
  have WL := lWell_any wA p s F K (HD.out.keep KA.out (by simp))
  rw [HDD.out] at WL
  have WLH := hid WL
  clear TK WL
  refine TKH.out.mono ?_
  rintro e w1 ⟨rfl, rfl⟩
  go_wp2_with fail
  refine WLH.out.mono ?_
  rintro e w2 ⟨rfl, k2⟩
  have K2 := hid (KA.out.trans k2)
  have b1 := (k2.block _ (lt_of_block B1.out) (by simp)).trans B1.out
  have b2 := (k2.block _ (lt_of_block B2.out) (by simp)).trans B2.out
  have X1 := hid b1
  have X2 := hid b2
  clear c1 f1 c2 f2 c0 cq TKH WLH k2
  have c1 : w2.cell? ⟨w.heap.size + 1, 0, none⟩ = some (.slice none 0 0) := cell_of_row _ _ 0 _ _ (0, 0) X1.out
  have f1 : w2.frozen? ⟨w.heap.size + 1, 0, none⟩ = false := by simp [World.frozen?, X1.out]
  have x2 := (Below.heap_setCell w2 ⟨w.heap.size + 1, 0, none⟩ (.slice none 0 0) (w.heap.size + 2) (show w.heap.size + 2 ≠ w.heap.size + 1 by omega)).trans X2.out
  have c2 : (w2.setCell ⟨w.heap.size + 1, 0, none⟩ (.slice none 0 0)).cell? ⟨w.heap.size + 2, 0, none⟩ = some (.int .i64 0) := cell_of_row _ _ 0 _ _ (0, 0) x2
  have f2 : (w2.setCell ⟨w.heap.size + 1, 0, none⟩ (.slice none 0 0)).frozen? ⟨w.heap.size + 2, 0, none⟩ = false := by simp [World.frozen?, x2]
  have X2H := hid x2
  clear x2 b1 b2
  go_wp2_with fail
  have y1 : ((w2.setCell ⟨w.heap.size + 1, 0, none⟩ (.slice none 0 0)).setCell ⟨w.heap.size + 2, 0, none⟩ (.int .i64 14)).heap[w.heap.size + 1]? = some (.cells #[.slice none 0 0] 31 (0, 0)) :=
    (Below.heap_setCell _ _ _ _ (show w.heap.size + 1 ≠ w.heap.size + 2 by omega)).trans (heap_setCell_same _ _ _ _ _ _ X1.out)
  have y2 : ((w2.setCell ⟨w.heap.size + 1, 0, none⟩ (.slice none 0 0)).setCell ⟨w.heap.size + 2, 0, none⟩ (.int .i64 14)).heap[w.heap.size + 2]? = some (.cells #[.int .i64 14] 25 (0, 0)) := heap_setCell_same _ _ _ _ _ _ X2H.out
  refine bodyPost_ret (results_cells2 rfl _ _ ⟨w.heap.size + 1, 0, none⟩ ⟨w.heap.size + 2, 0, none⟩ (.slice none 0 0) (.int .i64 14) rfl rfl (loadSl_var (cell_of_row _ _ 0 _ _ (0, 0) y1)) (loadErr_var (cell_of_row _ _ 0 _ _ (0, 0) y2))) rfl ?_
  exact ⟨rfl, (K2.out.setCell (Or.inr (show w.heap.size ≤ w.heap.size + 1 by omega)) _).setCell (Or.inr (show w.heap.size ≤ w.heap.size + 2 by omega)) _⟩

end Go.Proofs.Ytiljhjegfklgmaa
