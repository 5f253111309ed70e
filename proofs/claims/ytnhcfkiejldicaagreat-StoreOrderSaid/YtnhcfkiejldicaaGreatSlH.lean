/- Slots: hold: a row's parts are written behind a head, and last. -/
import Derived.Test.YtnhcfkiejldicaaGreatSlG
namespace Go.Proofs.YtnhcfkiejldicaaGreat
open Go.RowKit Go.Shelf
attribute [local go_sem] Oper.semAt_some

/-- The parts written, in the order of their coming. -/
def holdL (s : DS) (n : Nat) (b : List Int) (pre : List Nat) : DS := pre.zipIdx.foldl (fun s x => writeS s (n + x.2 : Nat) (pad64 (chk b x.1))) s
theorem holdL_snoc (s : DS) (n : Nat) (b : List Int) (pre : List Nat) (x : Nat) : holdL s n b (pre ++ [x]) = writeS (holdL s n b pre) (n + pre.length : Nat) (pad64 (chk b x)) := by
  simp [holdL, List.zipIdx_append]
theorem holdL_range (s : DS) (n : Nat) (b : List Int) : ∀ k, holdL s n b (List.range k) = holdW s n b k
  | 0 => rfl
  | k + 1 => by rw [List.range_succ, holdL_snoc, holdL_range s n b k, List.length_range, holdW]
theorem holdL_cnt (s : DS) (n : Nat) (b : List Int) (pre : List Nat) : (holdL s n b pre).cnt = s.cnt := by
  unfold holdL
  generalize pre.zipIdx = l
  induction l generalizing s with
  | nil => rfl
  | cons x l ih => rw [List.foldl_cons, ih, writeS_cnt]

theorem row_part {w : World} {g off cap : Nat} {zs : List Int} (h : RowAt w (.slice (some ⟨g, off, none⟩) zs.length cap) zs) (k : Nat) (hk : k * 64 < zs.length) :
    RowAt w (.slice (some ⟨g, off + k * 64, none⟩) (csz zs.length k) (csz zs.length k)) (chk zs k) := by
  obtain ⟨a, cp, e, h1, h2, h3, h4, h5⟩ := h
  injection e with e1 e2 e3
  subst e1; subst e3
  refine ⟨some ⟨g, off + k * 64, none⟩, csz zs.length k, by rw [chk_len], by rw [chk_len]; omega, by unfold csz maxLen; omega, by simp, fun z hz => h4 z (List.mem_of_mem_drop (List.mem_of_mem_take hz)), fun ad had j u hu => ?_⟩
  obtain rfl := Option.some.inj had
  have hj : j < (chk zs k).length := by simpa using (List.getElem?_eq_some_iff.1 hu).1
  rw [chk_len] at hj
  have hj2 : k * 64 + j < zs.length := by unfold csz at hj; omega
  have := h5 ⟨g, off, none⟩ rfl (k * 64 + j) u (by
    rw [← hu]
    simp only [chk, List.getElem?_map, List.getElem?_take, List.getElem?_drop]
    rw [if_pos (by unfold csz at hj; omega)])
  rw [Addr.add_mid] at this ⊢
  rw [show off + k * 64 + j = off + (k * 64 + j) by omega]
  exact this

theorem DM.grown {w w' : World} {p m : Nat} {s : DS} {F : List Nat} {k n₀ : Nat} {row : Option Nat} (h : DM w p m s F k) (hg : w.grownBy w' row) (hr : ∀ r, row = some r → n₀ ≤ r ∧ ∃ o : Obj, w.heap[r]? = some o ∧ o.isCells = false) (hp : p < n₀) (hm : m < n₀) : DM w' p m s F k := by
  obtain ⟨ho, lv, n, hi, rfl, hk⟩ := h
  have low : ∀ b, b < n₀ → b < w.heap.size → w'.heap[b]? = w.heap[b]? := fun b hb hb2 => hg.block b hb2 (fun e => by have := (hr b e.symm).1; omega)
  refine ⟨ho, lv, n, ⟨(low p hp hi.lt).trans hi.blk, hi.map.block (low m hm hi.map.lt), ?_⟩, rfl, hk⟩
  refine ⟨hi.row.1, ?_⟩
  rcases hi.row.2 with h2 | ⟨g, cap, cur, rfl, a1, a2, a3⟩
  · exact .inl h2
  · refine .inr ⟨g, cap, cur, rfl, a1, (hg.block g (lt_of_block a2) (fun e => ?_)).trans a2, a3⟩
    obtain ⟨_, o, ho, hc⟩ := hr g e.symm
    rw [a2] at ho
    cases ho
    cases hc
theorem DM.put {w : World} {p m : Nat} {s : DS} {F : List Nat} {k D : Nat} {x : Option (List Deferred)} (h : DM w p m s F k) (hD : w.heap[D]? = some (.deferred x)) (o : Obj) (hp : p ≠ D) (hm : m ≠ D) : DM (w.putObj D o) p m s F k := by
  obtain ⟨ho, lv, n, hi, rfl, hk⟩ := h
  refine ⟨ho, lv, n, ⟨(World.putObj_heap_other (by omega)).trans hi.blk, hi.map.block (World.putObj_heap_other (by omega)), ?_⟩, rfl, hk⟩
  refine ⟨hi.row.1, ?_⟩
  rcases hi.row.2 with h2 | ⟨g, cap, cur, rfl, a1, a2, a3⟩
  · exact .inl h2
  · refine .inr ⟨g, cap, cur, rfl, a1, (World.putObj_heap_other (fun e => ?_)).trans a2, a3⟩
    subst e
    rw [a2] at hD
    cases hD
theorem KpS.setCell {S : List Nat} {n₀ : Nat} {A B : World} (h : KpS S n₀ A B) (b o : Nat) (v : Value) (hb : b ∈ S ∨ n₀ ≤ b) : KpS S n₀ A (B.setCell ⟨b, o, none⟩ v) :=
  h.trans ⟨rfl, rfl, rfl, by simp [World.setCell], fun k hk hs => Below.heap_setCell _ _ _ _ (fun e => by subst e; rcases hb with hb | hb; exact hs hb; omega)⟩
theorem results_cell1 {fn : Func} {p : Tmp} {t : TypeId} (h : fn.results = #[.cell p t]) (tmps : Array Value) (w : World) (a : Addr) (x : Value) (hp : tmps.getD p undef = .pointer (some a)) (hx : (loadVar t a).run Tryz.prog w = .ok x w) : (results fn tmps).run Tryz.prog w = .ok x w := by
  have hp' : tmps[p]?.getD undef = .pointer (some a) := by simpa using hp
  simp [results, h, hp', asAddr, hx]
/-- Its blocks but for the map's are cells. -/
theorem DM.cellsOf {w : World} {p m : Nat} {s : DS} {F : List Nat} {k l : Nat} {o : Obj} (h : DM w p m s F k) (hm : l ∈ F) (hp : l ≠ p) (hmm : l ≠ m) (h0 : w.heap[l]? = some o) (ho : o.isCells = false) : False := by
  obtain ⟨_, lv, n, hi, rfl, _⟩ := h
  simp only [foot, List.mem_cons, Option.mem_toList] at hm
  rcases hm with hm | hm | hm
  · exact hp hm
  · exact hmm hm
  · rcases hi.row.2 with ⟨rfl, _⟩ | ⟨g, cap, cur, rfl, a1, a2, a3⟩
    · simp [Value.ownBlock] at hm
    · simp [Value.ownBlock] at hm
      subst hm
      rw [a2] at h0
      cases h0
      cases ho
theorem DM.lt {w : World} {p m : Nat} {s : DS} {F : List Nat} {k : Nat} (h : DM w p m s F k) : ∀ b ∈ F, b < w.heap.size := by
  obtain ⟨ho, lv, n, hi, rfl, hk⟩ := h
  exact hi.foot_lt
theorem DM.pm {w : World} {p m : Nat} {s : DS} {F : List Nat} {k : Nat} (h : DM w p m s F k) : p ∈ F ∧ m ∈ F := by
  obtain ⟨ho, lv, n, hi, rfl, hk⟩ := h
  exact ⟨by simp [foot], by simp [foot]⟩

set_option maxRecDepth 100000 in
set_option maxHeartbeats 6400000 in
theorem hold_in (n : Nat) (hn : 4 ≤ n) (w : World) (q p g first : Nat) (hs : List Hd) (S : SlotsAt w q p g first hs) (m : Nat) (s : DS) (F : List Nat) (K : Nat) (D : DM w p m s F K) (hK : K ≤ 500000000) (hq : q ∉ F) (hgF : g ∉ F)
    (i bg : Nat) (hbg : bg = first + i * 8) (hi : i < hs.length) (hf : first + hs.length * 8 ≤ s.cnt) (hc : s.cnt ≤ 4160) (bv : Value) (zs : List Int) (hb : RowAt w bv zs) (ho : Off F bv zs) (hl : zs.length ≤ 448) :
    CallsIn Fence.wide n Tryz.prog 57 #[.pointer (some ⟨q, 0, none⟩), .int .i64 i, bv] w fun e w' => e = .returned (.int .i64 (deadE (holdS s (bg + 1) zs))) ∧ ∃ F', DiskAt w' p (holdS s (bg + 1) zs) F' (K + 20) ∧ Keeps F w w' ∧ Fresh w F F' := by
  have h1 : 1 ≤ n := by omega
  have HS := hid S
  have HD := hid D
  have HB := hid hb
  have HO := hid ho
  obtain ⟨a, cap, rfl, hh⟩ := id hb
  have hcp : zs.length ≤ cap := hh.1
  have hq0 := S.ltq
  clear hh S D hb ho
  refine callsIn_of_wp_marks Tryz.func57 rfl trivial ?_ rfl
  simp only [Tryz.ntmps57, List.size_toArray, List.length_cons, List.length_nil, Nat.reduceAdd, Nat.reduceSub, Array.replicate_succ, Array.replicate_zero, List.push_toArray, List.append_toArray, List.nil_append, List.cons_append]
  gi_wp2
  have kA : Keeps [] w ((w.alloc (.cells #[.pointer (some ⟨q, 0, none⟩)] 54)).alloc (.cells #[.int .i64 0] 25)) := ((Keeps.refl [] w).alloc _).alloc _
  have zA : ((w.alloc (.cells #[.pointer (some ⟨q, 0, none⟩)] 54)).alloc (.cells #[.int .i64 0] 25)).heap.size = w.heap.size + 2 := by simp
  have gA := heap_alloc2_old w (.cells #[.pointer (some ⟨q, 0, none⟩)] 54) (.cells #[.int .i64 0] 25)
  have bA := heap_alloc2_new w (.cells #[.pointer (some ⟨q, 0, none⟩)] 54) (.cells #[.int .i64 0] 25)
  generalize (w.alloc (.cells #[.pointer (some ⟨q, 0, none⟩)] 54)).alloc (.cells #[.int .i64 0] 25) = wA at kA zA gA bA ⊢
  have LB := lBegin_any wA q p g first hs (HS.out.keep kA (by simp) (by simp)) i (by omega) (by omega)
  rw [← hbg] at LB
  have LBH := hid LB
  have hb7 : bg + 8 ≤ s.cnt := by omega
  clear LB hbg
  refine ⟨trivial, (callsIn_wide.2 LBH.out).mono ?_⟩
  rintro e w1 ⟨rfl, rfl⟩
  gi_wp2
  have kB : Keeps [] w (wA.alloc (.cells #[.int .i64 ((bg : Int) + 1)] 3)) := kA.alloc _
  have zB : (wA.alloc (.cells #[.int .i64 ((bg : Int) + 1)] 3)).heap.size = w.heap.size + 3 := by simp; omega
  have g0 := (Below.heap_alloc wA (.cells #[.int .i64 ((bg : Int) + 1)] 3) w.heap.size (by omega)).trans gA
  have g1 := (Below.heap_alloc wA (.cells #[.int .i64 ((bg : Int) + 1)] 3) (w.heap.size + 1) (by omega)).trans bA
  have g2 := heap_alloc_new wA (.cells #[.int .i64 ((bg : Int) + 1)] 3)
  rw [zA] at g2
  generalize wA.alloc (.cells #[.int .i64 ((bg : Int) + 1)] 3) = wB at kB zB g0 g1 g2 ⊢
  clear kA zA gA bA LBH
  refine ⟨trivial, (callsIn_wide.2 (chunk_any wB a zs.length cap)).mono ?_⟩
  rintro e w3 ⟨rfl, rfl⟩
  rw [zB]
  gi_wp2
  have z3 : ((wB.alloc (.cells #[.slice a zs.length cap] 22)).alloc (.cells #[.int .i64 64] 3)).heap.size = w.heap.size + 5 := by simp; omega
  have k3 : Keeps [] w ((wB.alloc (.cells #[.slice a zs.length cap] 22)).alloc (.cells #[.int .i64 64] 3)) := (kB.alloc _).alloc _
  have q1 := cell_of_row _ _ 0 _ _ (0, 0) (heap_alloc2_old wB (.cells #[.slice a zs.length cap] 22) (.cells #[.int .i64 64] 3))
  have q2 := cell_of_row _ _ 0 _ _ (0, 0) (heap_alloc2_new wB (.cells #[.slice a zs.length cap] 22) (.cells #[.int .i64 64] 3))
  rw [zB] at q1 q2
  have kC : Keeps [] wB ((wB.alloc (.cells #[.slice a zs.length cap] 22)).alloc (.cells #[.int .i64 64] 3)) := ((Keeps.refl [] wB).alloc _).alloc _
  have h0 := (kC.block w.heap.size (by omega) (by simp)).trans g0
  have h1' := (kC.block (w.heap.size + 1) (by omega) (by simp)).trans g1
  have h2 := (kC.block (w.heap.size + 2) (by omega) (by simp)).trans g2
  generalize (wB.alloc (.cells #[.slice a zs.length cap] 22)).alloc (.cells #[.int .i64 64] 3) = w3 at z3 k3 q1 q2 kC h0 h1' h2 ⊢
  clear kB zB g0 g1 g2 kC
  have S3 := hid (HS.out.keep k3 (by simp) (by simp))
  have D3 := hid (HD.out.keep k3 (by simp))
  have B3 := hid (HB.out.keep k3 (by intro _ _ _ _ _; simp))
  have lF := HD.out.lt
  have hpF := HD.out.pm
  have hp0 := lF p hpF.1
  have hm0 := lF m hpF.2
  have nF : ∀ j, w.heap.size ≤ j → j ∉ F := fun j hj hm => by have := lF j hm; omega
  have hg0 := HS.out.ltg
  obtain ⟨ga, goff, ha⟩ : ∃ ga goff, 0 < zs.length → a = some ⟨ga, goff, none⟩ := by
    by_cases hz : 0 < zs.length
    · obtain ⟨g', off', cap', e, _⟩ := HB.out.open hz
      injection e with e _ _
      exact ⟨g', off', fun _ => e⟩
    · exact ⟨0, 0, fun h => absurd h hz⟩
  have hb3 : w.heap.size + 3 < w3.heap.size ∧ w.heap.size + 3 ∉ (w.heap.size + 2) :: (w.heap.size + 1) :: F := ⟨by omega, by simp; exact nF _ (by omega)⟩
  have hb4 : w.heap.size + 4 < w3.heap.size ∧ w.heap.size + 4 ∉ (w.heap.size + 2) :: (w.heap.size + 1) :: F := ⟨by omega, by simp; exact nF _ (by omega)⟩
  have HC := hid (chunkP_stops (n - 1) (by omega) (w.heap.size + 3) (w.heap.size + 4) ga goff cap w3.heap.size zs.length a ((w.heap.size + 2) :: (w.heap.size + 1) :: F) (by omega) hcp ha w3 q1 q2 hb3 hb4)
  refine wpIn_rangeFunc_ownH rfl h1 (gf := 90) (lb := #[.pointer (some ⟨w.heap.size + 3, 0, none⟩), .pointer (some ⟨w.heap.size + 4, 0, none⟩)]) rfl trivial (fun _ _ => rfl) HC.out KpS.trans (KpS.putObj (Nat.le_refl _)) (Below.refl _ _) (fun _ => rfl)
    (fun pre W => KpS ((w.heap.size + 2) :: (w.heap.size + 1) :: F) w3.heap.size w3 W ∧ pre.length ≤ nch zs.length ∧ (∃ F', DM W p m (holdL s (bg + 1) zs (pre.map (·.1))) F' (K + 2 * pre.length) ∧ Fresh w3 F F') ∧ W.heap[w.heap.size + 2]? = some (.cells #[.int .i64 ((bg : Int) + 1 + pre.length)] 3 (0, 0)) ∧ W.heap[w.heap.size + 1]? = some (.cells #[.int .i64 0] 25 (0, 0)))
    (fun c pre W => c = .ret ∧ KpS ((w.heap.size + 2) :: (w.heap.size + 1) :: F) w3.heap.size w3 W ∧ pre.length ≤ nch zs.length ∧ (∃ F', DM W p m (holdL s (bg + 1) zs (pre.map (·.1))) F' (K + 2 * pre.length) ∧ Fresh w3 F F') ∧ (holdL s (bg + 1) zs (pre.map (·.1))).dead = true ∧ W.heap[w.heap.size + 1]? = some (.cells #[.int .i64 14] 25 (0, 0)))
    ?own ?ownx ⟨KpS.refl _ _ _, by simp, ⟨F, D3.out, fun b hb => Or.inl hb⟩, by rw [h2]; simp, h1'⟩
    (fun x a' W => a' = { tmps := #[.pointer (some ⟨q, 0, none⟩), .int .i64 i, .slice a zs.length cap, .pointer (some ⟨w.heap.size, 0, none⟩), undef, undef, .pointer (some ⟨w.heap.size + 1, 0, none⟩), .pointer (some ⟨w.heap.size + 2, 0, none⟩), .slice (some ⟨ga, goff + x.1 * 64, none⟩) (csz zs.length x.1) (csz zs.length x.1), undef, .pointer (some ⟨q, 0, none⟩), .int .i64 i, .int .i64 bg, .int .i64 ((bg : Int) + 1), .slice a zs.length cap, .func (.func 90) #[] #[.pointer (some ⟨w.heap.size + 3, 0, none⟩), .pointer (some ⟨w.heap.size + 3 + 1, 0, none⟩)], .slice (some ⟨ga, goff + x.1 * 64, none⟩) (csz zs.length x.1) (csz zs.length x.1), undef, undef, undef, undef, undef, undef, undef, undef, undef, undef, undef, undef, undef, undef], defers := [] })
    (fun _ _ => fun _ _ _ _ hs _ _ => hs) ?assign ?body ?done ?stop
  case own =>
    rintro pre A B' row ⟨h1, h2, ⟨F', d1, d2⟩, h4, h5⟩ hg hr
    have hlow : ∀ k, k < w3.heap.size → B'.heap[k]? = A.heap[k]? := fun k hk => hg.block k (by have := h1.size; omega) (fun e => by have := (hr k e.symm).1; omega)
    exact ⟨h1.trans ⟨hg.os, hg.tape, hg.output, hg.size, fun k hk _ => hlow k hk⟩, h2, ⟨F', d1.grown hg hr (by omega) (by omega), d2⟩, (hlow _ (by omega)).trans h4, (hlow _ (by omega)).trans h5⟩
  case ownx =>
    rintro c pre A B' row ⟨h0, h1, h2, ⟨F', d1, d2⟩, h4, h5⟩ hg hr
    have hlow : ∀ k, k < w3.heap.size → B'.heap[k]? = A.heap[k]? := fun k hk => hg.block k (by have := h1.size; omega) (fun e => by have := (hr k e.symm).1; omega)
    exact ⟨h0, h1.trans ⟨hg.os, hg.tape, hg.output, hg.size, fun k hk _ => hlow k hk⟩, h2, ⟨F', d1.grown hg hr (by omega) (by omega), d2⟩, h4, (hlow _ (by omega)).trans h5⟩
  case assign =>
    rintro l pre x W K hI hC
    refine round_plain (by kernel_rfl) noOut_then ?_
    simp only [List.zip_toArray, List.zip_cons_cons, List.zip_nil_right, List.foldl_toArray, List.foldl_cons, List.foldl_nil, List.setIfInBounds_toArray, List.set_cons_zero, List.set_cons_succ]
    refine wpList_is rfl (.slice (some ⟨ga, goff + x.1 * 64, none⟩) (csz zs.length x.1) (csz zs.length x.1)) W rfl ?_
    simp only [Act.put, List.setIfInBounds_toArray, List.set_cons_zero, List.set_cons_succ]
    refine wpList_nil ?_
    exact hC _ _ ⟨Nat.le_refl _, fun k o _ hk _ => hk⟩ (KpS.refl _ _ _) hI rfl
  case body =>
    rintro l pre x a' W hl2 _ ⟨hKp, hl', ⟨F1, d1, fr1⟩, hB, hR⟩ rfl hlen
    have hx : x.1 * 64 < zs.length := by have := x.2; unfold nch at this; omega
    have HKd := hid hKp
    have hsz := hKp.size
    have h7 : nch zs.length ≤ 7 := by unfold nch; omega
    have c0 : W.cell? ⟨w.heap.size, 0, none⟩ = some (.pointer (some ⟨q, 0, none⟩)) := hKp.cell (cell_of_row _ _ 0 _ _ (0, 0) h0) (by omega) (by simp; exact nF _ (by omega))
    have cn : W.cell? ⟨w.heap.size + 2, 0, none⟩ = some (.int .i64 ((bg : Int) + 1 + pre.length)) := cell_of_row W _ 0 _ _ (0, 0) hB
    have hq1 : q ∉ F1 := fun hm => by rcases fr1 q hm with h | h; exact hq h; omega
    have SW := S3.out.keep hKp.toKeeps (by simp; exact ⟨by omega, by omega, hq⟩) (by simp; exact ⟨by omega, by omega, hgF⟩)
    obtain rfl := ha (by omega)
    have RW := (row_part B3.out x.1 hx).keep hKp.toKeeps (fun ad nn cc e hne hm => by
      injection e with e _ _
      have e' := (Option.some.inj e)
      subst e'
      simp only [List.mem_cons] at hm
      have hgl : ga < w.heap.size := by
        obtain ⟨g', off', cap', e2, _, hcc⟩ := HB.out.open (by omega)
        injection e2 with e2 _ _
        have e3 := Option.some.inj e2
        injection e3 with e3 _ _
        subst e3
        exact World.block_lt_of_cell? w _ (hcc 0 (by omega))
      rcases hm with hm | hm | hm
      · have hm : ga = w.heap.size + 2 := hm
        omega
      · have hm : ga = w.heap.size + 1 := hm
        omega
      · exact HO.out ⟨ga, goff, none⟩ _ _ rfl (by rintro rfl; simp at hx) hm)
    have hcnt : bg + 1 + pre.length < (holdL s (bg + 1) zs (pre.map (·.1))).cnt := by
      rw [holdL_cnt]; omega
    have notF : ∀ (l : Nat) (o : Obj), w3.heap.size ≤ l → W.heap[l]? = some o → o.isCells = false → l ∈ F1 → False := fun l o hl h0 ho hm => d1.cellsOf hm (by omega) (by omega) h0 ho
    have LW := lWrite_any W q p g first hs SW m _ F1 _ d1 (by omega) hq1 ((bg + 1 + pre.length : Nat) : Int) _ (chk zs x.1) RW (chk_le _ _)
    have hwe := writeE_is hcnt (pad64_len (chk_le zs x.1))
    rw [pad64_len (chk_le zs x.1)] at hwe
    rw [hwe] at LW
    have hsn : writeS (holdL s (bg + 1) zs (pre.map (·.1))) ((bg + 1 + pre.length : Nat) : Int) (pad64 (chk zs x.1)) = holdL s (bg + 1) zs ((pre ++ [x]).map (·.1)) := by
      rw [List.map_append, List.map_cons, List.map_nil, holdL_snoc, List.length_map]
    rw [hsn] at LW
    have HB' := hid hB
    have HR' := hid hR
    have FR := hid fr1
    have e2 : ((bg + 1 + pre.length : Nat) : Int) = (bg : Int) + 1 + pre.length := by omega
    rw [e2] at LW
    generalize hS2 : holdL s (bg + 1) zs ((pre ++ [x]).map (·.1)) = s2 at LW
    have HS2 := hid hS2
    clear hS2
    have LWH := hid LW
    clear LW hwe hsn hB hR fr1 RW SW d1 hKp e2
    have hlen1 : (pre ++ [x]).length = pre.length + 1 := by simp
    by_cases hd2 : s2.dead = true
    · have e14 : deadE s2 = 14 := by simp [deadE, hd2]
      have LW := LWH.out
      rw [e14] at LW
      have LW2 := hid LW
      have HD2 := hid hd2
      clear LW LWH e14 hd2
      gi_wp2
      refine ⟨trivial, fun h => by simp [Fence.wide] at h, (CallsIn.inRound l (callsIn_wide.2 LW2.out)).mono ?_⟩
      rintro e W2 ⟨rfl, F2, d2, k2, fr2⟩
      have b1 := (k2.block (w.heap.size + 1) (by omega) (by intro hm; rcases FR.out _ hm with h | h; exact nF _ (by omega) h; omega)).trans HR'.out
      have b2 := (k2.block (w.heap.size + 2) (by omega) (by intro hm; rcases FR.out _ hm with h | h; exact nF _ (by omega) h; omega)).trans HB'.out
      have kk : KpS ((w.heap.size + 2) :: (w.heap.size + 1) :: F) w3.heap.size W W2 := (KpS.refl _ _ _).keeps k2 (by omega) (fun j hj hj2 => by rcases FR.out _ hj with h | h; simp [h]; omega)
      have ff : Fresh w3 F F2 := fun b hb => by
        rcases fr2 b hb with h | h
        · exact FR.out b h
        · exact .inr (by omega)
      have DD := hid d2
      have KK := hid kk
      have FF := hid ff
      have BB1 := hid b1
      have BB2 := hid b2
      have hW2 : W.heap.size ≤ W2.heap.size := k2.size
      have HF1 : Hid (∀ b ∈ F1, b < w3.heap.size ∨ w3.heap.size ≤ b) := hid fun b _ => by omega
      have KW := hid k2
      have hpos : ∀ l : Nat, ∀ o : Obj, w3.heap.size ≤ l → W.heap[l]? = some o → o.isCells = false → W2.heap[l]? = some o := fun l o hl h0 ho => (k2.block l (lt_of_block h0) (fun hm => notF l o hl h0 ho hm)).trans h0
      have HPOS := hid hpos
      have c2 : W2.cell? ⟨w.heap.size + 1, 0, none⟩ = some (.int .i64 0) := cell_of_row _ _ 0 _ _ (0, 0) b1
      have f2 : W2.frozen? ⟨w.heap.size + 1, 0, none⟩ = false := by simp [World.frozen?, b1]
      clear b1 b2 kk ff d2 fr2 k2 hpos
      gi_wp2
      have n1 : w.heap.size + 1 ∉ F2 := fun hm => by rcases FF.out _ hm with h | h; exact nF _ (by omega) h; omega
      refine ⟨⟨by simpa [World.setCell] using hW2, fun k o hk h0 ho => (Below.heap_setCell _ _ _ _ (show k ≠ w.heap.size + 1 by omega)).trans (HPOS.out k o hk h0 ho)⟩, rfl, HKd.out.trans (KK.out.setCell _ _ _ (.inl (by simp))), by rw [hlen1]; omega, ⟨F2, ?_, FF.out⟩, by rw [HS2.out]; exact HD2.out, ?_⟩
      · rw [HS2.out, hlen1]
        exact (DD.out.keep ((Keeps.refl [w.heap.size + 1] W2).setCell (.inl (by simp)) _) (fun b hb hm => by simp at hm; subst hm; exact n1 hb)).mono (by omega)
      · rw [heap_setCell_same _ _ _ _ _ _ BB1.out]; rfl
    · have e0 : deadE s2 = 0 := by simp [deadE, hd2]
      have LW := LWH.out
      rw [e0] at LW
      have LW2 := hid LW
      clear LW LWH e0 hd2
      gi_wp2
      refine ⟨trivial, fun h => by simp [Fence.wide] at h, (CallsIn.inRound l (callsIn_wide.2 LW2.out)).mono ?_⟩
      rintro e W2 ⟨rfl, F2, d2, k2, fr2⟩
      have b1 := (k2.block (w.heap.size + 1) (by omega) (by intro hm; rcases FR.out _ hm with h | h; exact nF _ (by omega) h; omega)).trans HR'.out
      have b2 := (k2.block (w.heap.size + 2) (by omega) (by intro hm; rcases FR.out _ hm with h | h; exact nF _ (by omega) h; omega)).trans HB'.out
      have kk : KpS ((w.heap.size + 2) :: (w.heap.size + 1) :: F) w3.heap.size W W2 := (KpS.refl _ _ _).keeps k2 (by omega) (fun j hj hj2 => by rcases FR.out _ hj with h | h; simp [h]; omega)
      have ff : Fresh w3 F F2 := fun b hb => by
        rcases fr2 b hb with h | h
        · exact FR.out b h
        · exact .inr (by omega)
      have DD := hid d2
      have KK := hid kk
      have FF := hid ff
      have BB1 := hid b1
      have BB2 := hid b2
      have hW2 : W.heap.size ≤ W2.heap.size := k2.size
      have HF1 : Hid (∀ b ∈ F1, b < w3.heap.size ∨ w3.heap.size ≤ b) := hid fun b _ => by omega
      have KW := hid k2
      have hpos : ∀ l : Nat, ∀ o : Obj, w3.heap.size ≤ l → W.heap[l]? = some o → o.isCells = false → W2.heap[l]? = some o := fun l o hl h0 ho => (k2.block l (lt_of_block h0) (fun hm => notF l o hl h0 ho hm)).trans h0
      have HPOS := hid hpos
      have c2 : W2.cell? ⟨w.heap.size + 2, 0, none⟩ = some (.int .i64 ((bg : Int) + 1 + pre.length)) := cell_of_row _ _ 0 _ _ (0, 0) b2
      have f2 : W2.frozen? ⟨w.heap.size + 2, 0, none⟩ = false := by simp [World.frozen?, b2]
      clear b1 b2 kk ff d2 fr2 k2 hpos
      gi_wp2
      have n1 : w.heap.size + 2 ∉ F2 := fun hm => by rcases FF.out _ hm with h | h; exact nF _ (by omega) h; omega
      refine ⟨⟨by simpa [World.setCell] using hW2, fun k o hk h0 ho => (Below.heap_setCell _ _ _ _ (show k ≠ w.heap.size + 2 by omega)).trans (HPOS.out k o hk h0 ho)⟩, KK.out.setCell _ _ _ (.inl (by simp)), HKd.out.trans (KK.out.setCell _ _ _ (.inl (by simp))), by rw [hlen1]; omega, ⟨F2, ?_, FF.out⟩, ?_, ?_⟩
      · rw [HS2.out, hlen1]
        exact (DD.out.keep ((Keeps.refl [w.heap.size + 2] W2).setCell (.inl (by simp)) _) (fun b hb hm => by simp at hm; subst hm; exact n1 hb)).mono (by omega)
      · rw [heap_setCell_same _ _ _ _ _ _ BB2.out, hlen1]
        simp
        omega
      · exact (Below.heap_setCell _ _ _ _ (by simp)).trans BB1.out
  case done =>
    rintro Dd ys W hD hys ⟨hKp, hl', ⟨F1, d1, fr1⟩, hB, hR⟩ hDD
    have hyl : ys.length = nch zs.length := by simpa using congrArg List.length hys
    have h7 : nch zs.length ≤ 7 := by unfold nch; omega
    have hst : holdL s (bg + 1) zs (ys.map (·.1)) = holdW s (bg + 1) zs (nch zs.length) := by rw [hys, holdL_range]
    rw [hst] at d1
    have hsz := hKp.size
    have c0 : W.cell? ⟨w.heap.size, 0, none⟩ = some (.pointer (some ⟨q, 0, none⟩)) := hKp.cell (cell_of_row _ _ 0 _ _ (0, 0) h0) (by omega) (by simp; exact nF _ (by omega))
    have cq : W.cell? ⟨q, 0, none⟩ = some (.pointer (some ⟨p, 0, none⟩)) := hKp.cell S3.out.c0 (by omega) (by simp; exact ⟨by omega, by omega, hq⟩)
    have SY := sync_any W p _ F1 _ d1.at_ (by omega)
    rw [syncE_is] at SY
    have hsy : syncS (holdW s (bg + 1) zs (nch zs.length)) = holdS s (bg + 1) zs := rfl
    rw [hsy] at SY
    have n1 : w.heap.size + 1 ∉ F1 := fun hm => by rcases fr1 _ hm with h | h; exact nF _ (by omega) h; omega
    have nD : Dd ∉ F1 := fun hm => d1.cellsOf hm (by omega) (by omega) hDD rfl
    generalize hS2 : holdS s (bg + 1) zs = s2 at SY
    have HS2 := hid hS2
    clear hS2
    have SYH := hid SY
    have HKd := hid hKp
    have FR := hid fr1
    have HR' := hid hR
    have HDD := hid hDD
    clear SY hsy d1 hKp fr1 hR hDD hst hB hys
    gi_wp2
    refine ⟨trivial, (callsIn_wide.2 SYH.out).mono ?_⟩
    rintro e W4 ⟨rfl, F4, d4, k4, fr4⟩
    have b1 := (k4.block (w.heap.size + 1) (lt_of_block HR'.out) n1).trans HR'.out
    have bD := (k4.block Dd (lt_of_block HDD.out) nD).trans HDD.out
    have c2 : W4.cell? ⟨w.heap.size + 1, 0, none⟩ = some (.int .i64 0) := cell_of_row _ _ 0 _ _ (0, 0) b1
    have f2 : W4.frozen? ⟨w.heap.size + 1, 0, none⟩ = false := by simp [World.frozen?, b1]
    have B1 := hid b1
    have BD := hid bD
    have D4 := hid d4
    have K4 := hid k4
    have F4' : Hid (Fresh w3 F F4) := hid fun b hb => by
      rcases fr4 b hb with h | h
      · exact FR.out b h
      · exact .inr (by omega)
    have hD4 := hid d4.dm
    have nD4 : Hid (Dd ∉ F4) := hid fun hm => by
      rcases fr4 _ hm with h | h
      · exact nD h
      · have := lt_of_block HDD.out; omega
    clear b1 bD d4 k4 fr4
    gi_wp2
    have bD2 : (W4.setCell ⟨w.heap.size + 1, 0, none⟩ (.int .i64 (deadE s2))).heap[Dd]? = some (.deferred (some [])) := by rw [Below.heap_setCell _ _ _ _ (show Dd ≠ w.heap.size + 1 by omega)]; exact BD.out
    refine ⟨by simp, .inl ⟨_, _, rfl, run_takeDeferred bD2, ?_⟩⟩
    have n4 : w.heap.size + 1 ∉ F4 := fun hm => by rcases F4'.out _ hm with h | h; exact nF _ (by omega) h; omega
    refine ⟨_, results_cell1 rfl _ _ ⟨w.heap.size + 1, 0, none⟩ (.int .i64 (deadE s2)) rfl (loadErr_var (cell_of_one ((World.putObj_heap_other (by omega)).trans (heap_setCell_same _ _ _ _ _ _ B1.out)))), by rw [HS2.out], F4, ?_, ?_, fun b hb => (F4'.out b hb).imp id (fun h => by omega)⟩
    · obtain ⟨m4, dm4⟩ := hD4.out
      have dm5 := dm4.keep (show Keeps [w.heap.size + 1] W4 (W4.setCell ⟨w.heap.size + 1, 0, none⟩ (.int .i64 (deadE s2))) from (Keeps.refl _ _).setCell (.inl (by simp)) _) (fun b hb hm => by simp at hm; subst hm; exact n4 hb)
      have hmem := dm4.pm
      have hl4 := dm4.lt
      have hne : ∀ b ∈ F4, b ≠ Dd := fun b hb e => by subst e; exact nD4.out hb
      rw [HS2.out]
      exact (((dm5.put bD2 (.deferred none) (hne _ hmem.1) (hne _ hmem.2))).mono (by omega)).at_
    · have kf : Keeps F w W4 := ((k3.mono (by simp)).trans' HKd.out.toKeeps (fun j hj hm => by
        simp only [List.mem_cons] at hm
        rcases hm with hm | hm | hm
        · omega
        · omega
        · exact hm)).trans' K4.out (fun j hj hm => by
          rcases FR.out _ hm with h | h
          · exact h
          · omega)
      refine (kf.setCell (Or.inr ?_) _).putObj ?_ _
      · show w.heap.size ≤ w.heap.size + 1
        omega
      · omega
  case stop =>
    rintro Dd c pre W hD hSp ⟨rfl, hKp, hl', ⟨F1, d1, fr1⟩, hdead, hR⟩ hDD
    have hSp' : pre.map (·.1) = List.range pre.length := hSp
    rw [hSp', holdL_range] at d1 hdead
    have hst := holdS_dead hl' hdead
    have h7 : nch zs.length ≤ 7 := by unfold nch; omega
    have hsz := hKp.size
    have n1 : w.heap.size + 1 ∉ F1 := fun hm => by rcases fr1 _ hm with h | h; exact nF _ (by omega) h; omega
    have nD : Dd ∉ F1 := fun hm => d1.cellsOf hm (by omega) (by omega) hDD rfl
    gi_wp2
    refine ⟨by simp, .inl ⟨_, _, rfl, run_takeDeferred hDD, ?_⟩⟩
    refine ⟨_, results_cell1 rfl _ _ ⟨w.heap.size + 1, 0, none⟩ (.int .i64 14) rfl (loadErr_var (cell_of_one ((World.putObj_heap_other (by omega)).trans hR))), by simp [deadE, hdead], F1, ?_, ?_, fun b hb => (fr1 b hb).imp id (fun h => by omega)⟩
    · have hmem := d1.pm
      exact ((d1.put hDD (.deferred none) (fun e => nD (e ▸ hmem.1)) (fun e => nD (e ▸ hmem.2))).mono (by omega)).at_
    · have kf : Keeps F w W := (k3.mono (by simp)).trans' hKp.toKeeps (fun j hj hm => by
        simp only [List.mem_cons] at hm
        rcases hm with hm | hm | hm
        · omega
        · omega
        · exact hm)
      exact kf.putObj (by omega) _
end Go.Proofs.YtnhcfkiejldicaaGreat
