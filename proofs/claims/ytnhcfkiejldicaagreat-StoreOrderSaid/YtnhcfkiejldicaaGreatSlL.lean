/- Slots: Open. -/
import Derived.Test.YtnhcfkiejldicaaGreatSlK
namespace Go.Proofs.YtnhcfkiejldicaaGreat
open Go.RowKit Go.Shelf

theorem rdCount_ok40 {zs k r : List Int} (hb : ∀ z ∈ zs, 0 ≤ z ∧ z ≤ 255) (h : rdCount 40 zs = .ok (k, r)) : k.length ≤ 40 ∧ ∀ z ∈ k, 0 ≤ z ∧ z ≤ 255 := by
  unfold rdCount at h
  split at h
  · cases h
  · split at h
    · cases h
    · split at h
      · cases h
      · rename_i h3
        split at h
        · cases h
        · injection h with h
          injection h with h _
          subst h
          refine ⟨?_, fun z hz => hb z (List.mem_of_mem_drop (List.mem_of_mem_take hz))⟩
          rw [List.length_take]
          omega
theorem hdOf_ok {zs : List Int} {h : Hd} (hb : ∀ z ∈ zs, 0 ≤ z ∧ z ≤ 255) (e : hdOf zs = some h) : h.Ok := by
  have z0 : Hd.Ok hd0 := ⟨by simp [hd0], by simp [hd0], by simp [hd0], fun _ => rfl⟩
  unfold hdOf at e
  have hr1 : ∀ {b r}, rdBool zs = .ok (b, r) → ∀ z ∈ r, 0 ≤ z ∧ z ≤ 255 := fun {b r} h1 => by
    unfold rdBool at h1
    split at h1
    · cases h1
    · split at h1
      · cases h1
      · injection h1 with h1; injection h1 with _ h1; subst h1; exact fun z hz => hb z (List.mem_of_mem_drop hz)
  split at e
  · cases e
  · split at e
    · injection e with e; subst e; exact z0
    · cases e
  · rename_i r h1
    split at e
    · cases e
    · rename_i n r2 h2
      have hn := rdHeld_pos hb h1 h2
      have hn2 : n ≤ 448 ∧ ∀ z ∈ r2, 0 ≤ z ∧ z ≤ 255 := by
        unfold rdHeld at h2
        split at h2
        · cases h2
        · rename_i m rr hm
          split at h2
          · cases h2
          · injection h2 with h2
            injection h2 with h2 h2'
            subst h2; subst h2'
            refine ⟨by omega, ?_⟩
            unfold rdNum at hm
            split at hm
            · cases hm
            · split at hm
              · cases hm
              · injection hm with hm
                injection hm with _ hm
                subst hm
                exact fun z hz => hr1 h1 z (List.mem_of_mem_drop hz)
      split at e
      · cases e
      · rename_i k r3 h3
        split at e
        · injection e with e
          subst e
          have := rdCount_ok40 hn2.2 h3
          exact ⟨this.1, this.2, by show n.toNat ≤ 448; omega, fun h => by cases h⟩
        · cases e
theorem hdG_ok {zs : List Int} (hb : ∀ z ∈ zs, 0 ≤ z ∧ z ≤ 255) : (hdG zs).Ok := by
  unfold hdG
  cases e : hdOf zs with
  | none => exact ⟨by simp [hd0], by simp [hd0], by simp [hd0], fun _ => rfl⟩
  | some h => exact hdOf_ok hb e

/-- The heads of a disk's slots, so far as they were read. -/
def opS (s : DS) (first n k : Nat) : List Hd := (List.range n).map fun j => if j < k then hdG (s.now (first + j * 8)).1 else hd0
def headsS (s : DS) (first n : Nat) : List Hd := (List.range n).map fun j => hdG (s.now (first + j * 8)).1
theorem opS_len (s : DS) (first n k : Nat) : (opS s first n k).length = n := by simp [opS]
theorem opS_all (s : DS) (first n : Nat) : opS s first n n = headsS s first n := by
  unfold opS headsS
  refine List.map_congr_left fun j hj => ?_
  rw [if_pos (List.mem_range.1 hj)]
theorem opS_zero (s : DS) (first n : Nat) : opS s first n 0 = List.replicate n hd0 := by
  unfold opS
  rw [List.eq_replicate_iff]
  refine ⟨by simp, fun x hx => ?_⟩
  obtain ⟨j, _, rfl⟩ := List.mem_map.1 hx
  simp
theorem opS_succ (s : DS) (first n k : Nat) (hk : k < n) : (opS s first n k).set k (hdG (s.now (first + k * 8)).1) = opS s first n (k + 1) := by
  apply List.ext_getElem?
  intro j
  by_cases e : j = k
  · subst e
    rw [List.getElem?_set_self (by rw [opS_len]; exact hk)]
    simp [opS, hk]
  · rw [List.getElem?_set_ne (fun h => e h.symm)]
    by_cases hj : j < n
    · simp only [opS, List.getElem?_map, List.getElem?_range hj, Option.map_some]
      have : (j < k) = (j < k + 1) := by simp; omega
      simp only [this]
    · rw [List.getElem?_eq_none (by rw [opS_len]; omega), List.getElem?_eq_none (by rw [opS_len]; omega)]
theorem opS_ok (s : DS) (first n k : Nat) : ∀ h ∈ opS s first n k, h.Ok := by
  intro h hh
  obtain ⟨j, _, rfl⟩ := List.mem_map.1 hh
  split
  · exact hdG_ok (s.now _).2.2
  · exact ⟨by simp [hd0], by simp [hd0], by simp [hd0], fun _ => rfl⟩
/-- Every head is one. -/
def goodS (s : DS) (first n : Nat) : Prop := ∀ j, j < n → hdE (s.now (first + j * 8)).1 = 0

theorem madeHd (n : Nat) : madeCells (hdV hd0).cells (n * 3) = (hdsC (List.replicate n hd0)).toArray := by
  apply Array.ext'
  have h3 : (hdV hd0).cells = #[.bool false, .int .i64 0, .string ⟨#[]⟩] := rfl
  rw [h3]
  apply List.ext_getElem?
  intro k
  by_cases hk : k < n * 3
  · have hq : k / 3 < (List.replicate n hd0).length := by simp; omega
    have := hdsC_at (List.replicate n hd0) (k / 3) hq (k % 3) (by omega)
    rw [show k / 3 * 3 + k % 3 = k by omega] at this
    simp only [List.getElem_replicate] at this
    rw [this]
    simp only [madeCells, Array.toList_map, Array.toList_range, List.getElem?_map, List.getElem?_range hk, Option.map_some]
    have h3' : k % 3 = 0 ∨ k % 3 = 1 ∨ k % 3 = 2 := by omega
    rcases h3' with h | h | h <;> simp [h, hd0, Hd.cells] <;> rfl
  · have hl := hdsC_len (List.replicate n hd0)
    rw [List.getElem?_eq_none (by simp [madeCells]; omega), List.getElem?_eq_none (by simp at hl ⊢; omega)]

theorem iHd3 : (Tryz.prog.info? 100).map (fun i => (i.zero, i.size, i.bytes)) = some (some (hdV hd0), 3, 32) := by kernel_rfl
theorem run_makeHds (n : Nat) (hn : n ≤ 520) (w : World) :
    (Instr.makeSlice 90 (.int .i64 n) (.int .i64 n)).run Tryz.prog w = .ok (.slice (some ⟨w.heap.size, 0, none⟩) n n) (w.alloc (.cells (hdsC (List.replicate n hd0)).toArray 100)) := by
  obtain ⟨i, hi, hzz⟩ := Option.map_eq_some_iff.1 iHd3
  simp only [Prod.mk.injEq] at hzz
  obtain ⟨hz, hs, hb⟩ := hzz
  have := run_makeSlice (P := Tryz.prog) w 90 100 i (hdV hd0) Tryz.underlying90 hi hz .i64 .i64 n n (by omega) (Int.le_refl _) (by rw [hs]; simp; omega) (by rw [hb]; omega) (by omega)
  rw [hs] at this
  simp only [Int.toNat_natCast] at this
  rw [this, madeHd]

set_option maxRecDepth 100000 in
set_option maxHeartbeats 6400000 in
theorem lOpen_good (w : World) (p : Nat) (s : DS) (F : List Nat) (K : Nat) (D : DiskAt w p s F K) (first n : Nat) (hf : first ≤ s.cnt) (hn : n = (s.cnt - first) / 8) (hd : s.dead = false) (hg : goodS s first n) :
    Calls Tryz.prog 46 #[.pointer (some ⟨p, 0, none⟩), .int .i64 first] w fun e w' => ∃ q g, e = .returned (.tuple #[.pointer (some ⟨q, 0, none⟩), .int .i64 0]) ∧ SlAt w' q p g first (headsS s first n) s F K ∧ w.heap.size ≤ q ∧ w.heap.size ≤ g ∧ Keeps [] w w' := by
  have HD := hid D
  have HG := hid hg
  have hcnt := D.1.hi
  have hlo := D.1.lo
  have lF : ∀ j ∈ F, j < w.heap.size := fun j hj => by obtain ⟨m, dm⟩ := D.dm; exact dm.lt j hj
  have hn520 : n ≤ 520 := by omega
  have hfit : first + n * 8 ≤ s.cnt := by omega
  have SC := hid (sectorsAt_any w p s F K D)
  have WL := lWell_any w p s F K D
  rw [hd] at WL
  have WLH := hid WL
  have HDD := hid hd
  have t1 : ¬ (first : Int) > (s.cnt : Int) := by omega
  have tq : ((s.cnt : Int) - (first : Int)).tdiv 8 = (n : Int) := by
    have e : (s.cnt : Int) - (first : Int) = ((s.cnt - first : Nat) : Int) := by omega
    rw [e, hn]
    exact Int.ofNat_tdiv _ _
  have HMK := run_makeHds n hn520
  clear D hg WL hd hn
  go_enter Tryz.func46, Tryz.ntmps46
  go_wp2_with fail
  refine SC.out.mono ?_
  rintro e _ ⟨rfl, rfl⟩
  go_wp2_with fail
  refine WLH.out.mono ?_
  rintro e w1 ⟨rfl, k1⟩
  have K1 := hid k1
  have D1 := hid (HD.out.keep k1 (by simp))
  have SC1 := hid (sectorsAt_any w1 p s F K D1.out)
  clear k1
  go_wp2_with fail
  refine SC1.out.mono ?_
  rintro e _ ⟨rfl, rfl⟩
  go_wp2_with fail
  have zA : ((w1.alloc (.cells (hdsC (List.replicate n hd0)).toArray 100)).alloc (.cells #[.pointer (some ⟨p, 0, none⟩), .int .i64 first, .slice (some ⟨w1.heap.size, 0, none⟩) n n] 92)).heap.size = w1.heap.size + 2 := by simp
  have gA := heap_alloc2_old w1 (.cells (hdsC (List.replicate n hd0)).toArray 100) (.cells #[.pointer (some ⟨p, 0, none⟩), .int .i64 first, .slice (some ⟨w1.heap.size, 0, none⟩) n n] 92)
  have bA := heap_alloc2_new w1 (.cells (hdsC (List.replicate n hd0)).toArray 100) (.cells #[.pointer (some ⟨p, 0, none⟩), .int .i64 first, .slice (some ⟨w1.heap.size, 0, none⟩) n n] 92)
  have kA : Keeps [] w1 ((w1.alloc (.cells (hdsC (List.replicate n hd0)).toArray 100)).alloc (.cells #[.pointer (some ⟨p, 0, none⟩), .int .i64 first, .slice (some ⟨w1.heap.size, 0, none⟩) n n] 92)) := ((Keeps.refl [] w1).alloc _).alloc _
  have S0 : SlotsAt ((w1.alloc (.cells (hdsC (List.replicate n hd0)).toArray 100)).alloc (.cells #[.pointer (some ⟨p, 0, none⟩), .int .i64 first, .slice (some ⟨w1.heap.size, 0, none⟩) n n] 92)) (w1.heap.size + 1) p w1.heap.size first (opS s first n 0) := by
    rw [opS_zero]
    refine ⟨by rw [List.length_replicate]; exact bA, gA, by omega, fun h hh => ?_, by rw [List.length_replicate]; omega⟩
    obtain rfl := (List.mem_replicate.1 hh).2
    exact ⟨by simp [hd0], by simp [hd0], by simp [hd0], fun _ => rfl⟩
  have S0H := hid S0
  have KA := hid kA
  have D2 := hid (D1.out.keep kA (by simp))
  clear gA bA kA S0
  generalize (w1.alloc (.cells (hdsC (List.replicate n hd0)).toArray 100)).alloc (.cells #[.pointer (some ⟨p, 0, none⟩), .int .i64 first, .slice (some ⟨w1.heap.size, 0, none⟩) n n] 92) = w2 at zA S0H KA D2 ⊢
  have hw1 := K1.out.size
  have ZA := hid zA
  clear zA tq HMK t1
  have gF : w1.heap.size ∉ F := fun hm => by have := lF _ hm; omega
  have qF : w1.heap.size + 1 ∉ F := fun hm => by have := lF _ hm; omega
  go_loopw [40] (fun i wr => ∃ (k : Nat), k ≤ n ∧ i = .int .i64 k ∧ SlotsAt wr (w1.heap.size + 1) p w1.heap.size first (opS s first n k) ∧ Keeps [w1.heap.size] w2 wr) (fun i _ => n - (intOf i).toNat)
  case atStart => exact ⟨0, by omega, rfl, S0H.out, Keeps.refl _ _⟩
  case round =>
    obtain ⟨k, hk, rfl, q1, q2⟩ := hrel
    have Q1 := hid q1
    have Q2 := hid q2
    have hzr : w2.heap.size ≤ wr.heap.size := q2.size
    clear q1 q2
    by_cases hlt : k < n
    · have hlt' : (k : Int) < (n : Int) := by omega
      have LB := hid (lBegin_any wr (w1.heap.size + 1) p w1.heap.size first _ Q1.out k (by omega) (by omega))
      have DR := hid (D2.out.keep Q2.out (by intro b hb hm; simp at hm; subst hm; exact gF hb))
      have eE : readE s ((first + k * 8 : Nat) : Int) = 0 := by
        unfold readE
        rw [HDD.out]
        simp only [Bool.false_eq_true, if_false]
        rw [if_pos (by omega)]
      have eB : readB s ((first + k * 8 : Nat) : Int) = (s.now (first + k * 8)).1 := by
        unfold readB
        rw [HDD.out]
        rw [Int.toNat_natCast]
        simp
        omega
      have RD := readAt_any wr p s F K DR.out ((first + k * 8 : Nat) : Int)
      rw [eE, eB] at RD
      have h64 := (s.now (first + k * 8)).2.1
      have hge := HG.out k hlt
      have hsu := opS_succ s first n k hlt
      have hok := hdG_ok (s.now (first + k * 8)).2.2
      generalize (s.now (first + k * 8)).1 = row at RD h64 hge hsu hok
      have RDH := hid RD
      have HGE := hid hge
      have HSU := hid hsu
      have HOK := hid hok
      clear RD eE eB hge hsu hok
      go_wp2_with fail
      refine LB.out.mono ?_
      rintro e _ ⟨rfl, rfl⟩
      go_wp2_with fail
      refine RDH.out.mono ?_
      rintro e w3 ⟨rv, rfl, rr, -, k3⟩
      obtain ⟨ra, rc, rfl, hrr⟩ := id rr
      have RR := hid rr
      have K3 := hid k3
      have S3 := hid (Q1.out.keep k3 (by simp) (by simp))
      have z3 : wr.heap.size ≤ w3.heap.size := k3.size
      clear rr k3 hrr
      go_wp2_with fail
      have hol := opS_len s first n k
      refine wp_region_any (by kernel_rfl) (wpAny_of_held (S := KpS [w1.heap.size] w3.heap.size w3.drew) _ _ _ _ ?_)
      change wpAnyH _ _ _ _ _ _ _ _ w3.drew
      have cQ : ∀ W1, KpS [w1.heap.size] w3.heap.size w3.drew W1 → W1.cell? ⟨w1.heap.size + 1, 2, none⟩ = some (.slice (some ⟨w1.heap.size, 0, none⟩) n n) := fun W1 h => h.cell (by rw [World.cell?_drew]; have := S3.out.c2; rw [hol] at this; exact this) (by have := S3.out.ltq; omega) (by simp)
      refine held_take (i := 0) (v := .pointer (some ⟨w1.heap.size + 1, 0, none⟩)) rfl (by kernel_rfl) (by kernel_rfl) (by kernel_rfl) (fun _ _ _ h => h) rfl (fun W1 hW1 => rfl) (KpS.refl _ _ _) ?_
      simp only [Act.put, List.setIfInBounds_toArray, List.set_cons_zero, List.set_cons_succ]
      refine held_take (i := 1) (v := .pointer (some ⟨w1.heap.size + 1, 0, none⟩)) rfl (by kernel_rfl) (by kernel_rfl) (by kernel_rfl) (fun _ _ _ h => h) rfl (fun W1 hW1 => by go_simp) (KpS.refl _ _ _) ?_
      simp only [Act.put, List.setIfInBounds_toArray, List.set_cons_zero, List.set_cons_succ]
      refine held_take (i := 2) (v := .pointer (some ⟨w1.heap.size + 1, 2, none⟩)) rfl (by kernel_rfl) (by kernel_rfl) (by kernel_rfl) (fun _ _ _ h => h) rfl (fun W1 hW1 => by go_simp) (KpS.refl _ _ _) ?_
      simp only [Act.put, List.setIfInBounds_toArray, List.set_cons_zero, List.set_cons_succ]
      refine held_take (i := 3) (v := .slice (some ⟨w1.heap.size, 0, none⟩) n n) rfl (by kernel_rfl) (by kernel_rfl) (by kernel_rfl) (fun _ _ _ h => h) rfl (fun W1 hW1 => exec_load _ _ _ _ rfl rfl (run_loadCell W1 _ _ _ (cQ W1 hW1) (agg_no _ (by kernel_rfl)))) (KpS.refl _ _ _) ?_
      simp only [Act.put, List.setIfInBounds_toArray, List.set_cons_zero, List.set_cons_succ]
      refine held_take (i := 4) (v := .int .i64 k) rfl (by kernel_rfl) (by kernel_rfl) (by kernel_rfl) (fun _ _ _ h => h) rfl (fun W1 hW1 => rfl) (KpS.refl _ _ _) ?_
      simp only [Act.put, List.setIfInBounds_toArray, List.set_cons_zero, List.set_cons_succ]
      have RR2 := RR.out
      rw [h64] at RR2
      refine held_take (i := 5) (v := .slice ra 64 rc) rfl (by kernel_rfl) (by kernel_rfl) (by kernel_rfl) (fun _ _ _ h => h) rfl (fun W1 hW1 => rfl) (KpS.refl _ _ _) ?_
      simp only [Act.put, List.setIfInBounds_toArray, List.set_cons_zero, List.set_cons_succ]
      refine held_do (i := 6) (by kernel_rfl) rfl rfl (wp_enter (f := 77) (args := #[.slice ra 64 rc]) (by go_simp) (readHead_any w3.drew _ row (RR2.keep (Keeps.refl [] w3).drew (by intro _ _ _ _ _; simp)) (by omega)) ?_)
      rintro e w4 ⟨rfl, k4⟩
      rw [HGE.out]
      have kk : KpS [w1.heap.size] w3.heap.size w3.drew w4 := (KpS.refl _ _ _).keeps k4 (Nat.le_refl _) (by simp)
      refine ⟨_, rfl, kk, ?_⟩
      simp only [Act.put, List.setIfInBounds_toArray, List.set_cons_zero, List.set_cons_succ]
      refine held_take (i := 7) (v := .tuple #[hdV (hdG row), .int .i64 0]) rfl (by kernel_rfl) (by kernel_rfl) (by kernel_rfl) (fun _ _ _ h => h) rfl (fun W1 hW1 => rfl) (kk) ?_
      simp only [Act.put, List.setIfInBounds_toArray, List.set_cons_zero, List.set_cons_succ]
      refine held_take (i := 8) (v := hdV (hdG row)) rfl (by kernel_rfl) (by kernel_rfl) (by kernel_rfl) (fun _ _ _ h => h) rfl (fun W1 hW1 => by go_simp) (kk) ?_
      simp only [Act.put, List.setIfInBounds_toArray, List.set_cons_zero, List.set_cons_succ]
      refine held_take (i := 9) (v := .int .i64 0) rfl (by kernel_rfl) (by kernel_rfl) (by kernel_rfl) (fun _ _ _ h => h) rfl (fun W1 hW1 => by go_simp) (kk) ?_
      simp only [Act.put, List.setIfInBounds_toArray, List.set_cons_zero, List.set_cons_succ]
      refine held_take (i := 10) (v := .pointer (some ⟨w1.heap.size, k * 3, none⟩)) rfl (by kernel_rfl) (by kernel_rfl) (by kernel_rfl) (fun _ _ _ h => h) rfl (fun W1 hW1 => by go_simp) (kk) ?_
      simp only [Act.put, List.setIfInBounds_toArray, List.set_cons_zero, List.set_cons_succ]
      have S4 : SlotsAt w4 (w1.heap.size + 1) p w1.heap.size first (opS s first n k) := S3.out.keep (show Keeps [] w3 w4 from ⟨k4.os, k4.tape, k4.output, k4.size, k4.block⟩) (by simp) (by simp)
      have hth : w4.there w1.heap.size (k * 3) 3 := there_of S4.hds (k * 3) 3 (by have := hdsC_len (opS s first n k); simp; omega)
      refine held_do (i := 11) (by kernel_rfl) rfl rfl (wp_store_mid 100 _ _ rfl w1.heap.size (k * 3) (hdG row).cells.toArray rfl rfl hth (by rw [sHd]; rfl) (hdG row).one ?_)
      have kk5 : KpS [w1.heap.size] w3.heap.size w3.drew (w4.setCells w1.heap.size (k * 3) (hdG row).cells) := ((kk.setCell _ _ _ (.inl (by simp))).setCell _ _ _ (.inl (by simp))).setCell _ _ _ (.inl (by simp))
      refine ⟨kk5, ?_⟩
      simp only [Act.put]
      refine held_take (i := 12) (v := .int .i64 0) rfl (by kernel_rfl) (by kernel_rfl) (by kernel_rfl) (fun _ _ _ h => h) rfl (fun W1 hW1 => rfl) (kk5) ?_
      simp only [Act.put, List.setIfInBounds_toArray, List.set_cons_zero, List.set_cons_succ]
      refine wpAnyH_done (by kernel_rfl) ?_ _
      have hs5 := setHd_hds (T := 100) (hdG row) (i := k) (by omega) S4.hds
      have hq5 := (setHd_other w4 w1.heap.size (k * 3) (hdG row) (show w1.heap.size + 1 ≠ w1.heap.size by omega)).trans S4.blk
      rw [HSU.out] at hs5
      have S5 : Hid (SlotsAt (w4.setCells w1.heap.size (k * 3) (hdG row).cells) (w1.heap.size + 1) p w1.heap.size first (opS s first n (k + 1))) := hid ⟨by rw [opS_len]; rw [opS_len] at hq5; exact hq5, hs5, by omega, opS_ok _ _ _ _, by rw [opS_len]; omega⟩
      have K5 : Hid (Keeps [w1.heap.size] w2 (w4.setCells w1.heap.size (k * 3) (hdG row).cells)) := hid (Q2.out.trans ((K3.out.mono (by simp)).trans ⟨kk5.os, kk5.tape, kk5.output, kk5.size, kk5.block⟩))
      clear kk kk5 hs5 hq5 S4 hth cQ k4
      go_wp2_with fail
      go_roundw
      case rel => exact ⟨k + 1, by omega, by go_num, S5.out, K5.out⟩
      case measure => simp [intOf]; omega
    · have : k = n := by omega
      subst this
      go_wp2_with fail
      go_ret2
      refine ⟨w1.heap.size + 1, w1.heap.size, rfl, ⟨?_, (D2.out.keep Q2.out (by intro b hb hm; simp at hm; subst hm; exact gF hb)), qF, gF, ?_⟩, by omega, by omega, ?_⟩
      · rw [← opS_all]; exact Q1.out
      · simp only [headsS, List.length_map, List.length_range]; omega
      · exact K1.out.trans' (KA.out.trans' Q2.out (fun j hj hm => by simp at hm; omega)) (fun j hj hm => by simp at hm)
end Go.Proofs.YtnhcfkiejldicaaGreat
