/- SlH, SlI, SlJ, SlK, SlL, SlN, SlO, SlP. -/
import Derived.Test.YtiljhjegfklgmaaSlJa
import Derived.Test.YtiljhjegfklgmaaSame
import Derived.Test.YtiljhjegfklgmaaOpenC
import Derived.ProofKit
import Derived.OpenShut
import Derived.SizedLaws
import Derived.Deep.Slices
import Derived.BigQuiet
/- Slots: hold: a row's parts are written behind a head, and last. -/
namespace Go.Proofs.Ytiljhjegfklgmaa
open Go.RowKit Go.Shelf
attribute [local go_sem] Oper.semAt_some

/-- The parts written, in the order of their coming. -/
def holdL (s : DS) (n : Nat) (b : List Int) (pre : List Nat) : DS := pre.zipIdx.foldl (fun s x => writeS s (n + x.2 : Nat) (pad64 (chk b x.1))) s
theorem holdL_snoc (s : DS) (n : Nat) (b : List Int) (pre : List Nat) (x : Nat) : holdL s n b (pre ++ [x]) = writeS (holdL s n b pre) (n + pre.length : Nat) (pad64 (chk b x)) := by
  simp [holdL, List.zipIdx_append]
theorem holdL_range (s : DS) (n : Nat) (b : List Int) : ∀ k, holdL s n b (List.range k) = holdW s n b k
  | 0 => rfl
  | k + 1 => by rw [List.range_succ, holdL_snoc, holdL_range s n b k, List.length_range, holdW]
theorem holdL_cnt (s : DS) (n : Nat) (b : List Int) (pre : List Nat) : (holdL s n b pre).cnt = s.cnt := by
  unfold holdL
  generalize pre.zipIdx = l
  induction l generalizing s with
  | nil => rfl
  | cons x l ih => rw [List.foldl_cons, ih, writeS_cnt]

theorem row_part {w : World} {g off cap : Nat} {zs : List Int} (h : RowAt w (.slice (some ⟨g, off, none⟩) zs.length cap) zs) (k : Nat) (hk : k * 64 < zs.length) :
    RowAt w (.slice (some ⟨g, off + k * 64, none⟩) (csz zs.length k) (csz zs.length k)) (chk zs k) := by
  obtain ⟨a, cp, e, h1, h2, h3, h4, h5⟩ := h
  injection e with e1 e2 e3
  subst e1; subst e3
  refine ⟨some ⟨g, off + k * 64, none⟩, csz zs.length k, by rw [chk_len], by rw [chk_len]; omega, by unfold csz maxLen; omega, by simp, fun z hz => h4 z (List.mem_of_mem_drop (List.mem_of_mem_take hz)), fun ad had j u hu => ?_⟩
  obtain rfl := Option.some.inj had
  have hj : j < (chk zs k).length := by simpa using (List.getElem?_eq_some_iff.1 hu).1
  rw [chk_len] at hj
  have hj2 : k * 64 + j < zs.length := by unfold csz at hj; omega
  have := h5 ⟨g, off, none⟩ rfl (k * 64 + j) u (by
    rw [← hu]
    simp only [chk, List.getElem?_map, List.getElem?_take, List.getElem?_drop]
    rw [if_pos (by unfold csz at hj; omega)])
  rw [Addr.add_mid] at this ⊢
  rw [show off + k * 64 + j = off + (k * 64 + j) by omega]
  exact this

theorem DM.grown {w w' : World} {p m : Nat} {s : DS} {F : List Nat} {k n₀ : Nat} {row : Option Nat} (h : DM w p m s F k) (hg : w.grownBy w' row) (hr : ∀ r, row = some r → n₀ ≤ r ∧ ∃ o : Obj, w.heap[r]? = some o ∧ o.isCells = false) (hp : p < n₀) (hm : m < n₀) : DM w' p m s F k := by
  obtain ⟨ho, lv, n, hi, rfl, hk⟩ := h
  have low : ∀ b, b < n₀ → b < w.heap.size → w'.heap[b]? = w.heap[b]? := fun b hb hb2 => hg.block b hb2 (fun e => by have := (hr b e.symm).1; omega)
  refine ⟨ho, lv, n, ⟨(low p hp hi.lt).trans hi.blk, hi.map.block (low m hm hi.map.lt), ?_⟩, rfl, hk⟩
  refine ⟨hi.row.1, ?_⟩
  rcases hi.row.2 with h2 | ⟨g, cap, cur, rfl, a1, a2, a3⟩
  · exact .inl h2
  · refine .inr ⟨g, cap, cur, rfl, a1, (hg.block g (lt_of_block a2) (fun e => ?_)).trans a2, a3⟩
    obtain ⟨_, o, ho, hc⟩ := hr g e.symm
    rw [a2] at ho
    cases ho
    cases hc
theorem DM.put {w : World} {p m : Nat} {s : DS} {F : List Nat} {k D : Nat} {x : Option (List Deferred)} (h : DM w p m s F k) (hD : w.heap[D]? = some (.deferred x)) (o : Obj) (hp : p ≠ D) (hm : m ≠ D) : DM (w.putObj D o) p m s F k := by
  obtain ⟨ho, lv, n, hi, rfl, hk⟩ := h
  refine ⟨ho, lv, n, ⟨(World.putObj_heap_other (by omega)).trans hi.blk, hi.map.block (World.putObj_heap_other (by omega)), ?_⟩, rfl, hk⟩
  refine ⟨hi.row.1, ?_⟩
  rcases hi.row.2 with h2 | ⟨g, cap, cur, rfl, a1, a2, a3⟩
  · exact .inl h2
  · refine .inr ⟨g, cap, cur, rfl, a1, (World.putObj_heap_other (fun e => ?_)).trans a2, a3⟩
    subst e
    rw [a2] at hD
    cases hD
theorem KpS.setCell {S : List Nat} {n₀ : Nat} {A B : World} (h : KpS S n₀ A B) (b o : Nat) (v : Value) (hb : b ∈ S ∨ n₀ ≤ b) : KpS S n₀ A (B.setCell ⟨b, o, none⟩ v) :=
  h.trans ⟨rfl, rfl, rfl, by simp [World.setCell], fun k hk hs => Below.heap_setCell _ _ _ _ (fun e => by subst e; rcases hb with hb | hb; exact hs hb; omega)⟩
theorem results_cell1 {fn : Func} {p : Tmp} {t : TypeId} (h : fn.results = #[.cell p t]) (tmps : Array Value) (w : World) (a : Addr) (x : Value) (hp : tmps.getD p undef = .pointer (some a)) (hx : (loadVar t a).run Try.prog w = .ok x w) : (results fn tmps).run Try.prog w = .ok x w := by
  have hp' : tmps[p]?.getD undef = .pointer (some a) := by simpa using hp
  simp [results, h, hp', asAddr, hx]
/-- Its blocks but for the map's are cells. -/
theorem DM.cellsOf {w : World} {p m : Nat} {s : DS} {F : List Nat} {k l : Nat} {o : Obj} (h : DM w p m s F k) (hm : l ∈ F) (hp : l ≠ p) (hmm : l ≠ m) (h0 : w.heap[l]? = some o) (ho : o.isCells = false) : False := by
  obtain ⟨_, lv, n, hi, rfl, _⟩ := h
  simp only [foot, List.mem_cons, Option.mem_toList] at hm
  rcases hm with hm | hm | hm
  · exact hp hm
  · exact hmm hm
  · rcases hi.row.2 with ⟨rfl, _⟩ | ⟨g, cap, cur, rfl, a1, a2, a3⟩
    · simp [Value.ownBlock] at hm
    · simp [Value.ownBlock] at hm
      subst hm
      rw [a2] at h0
      cases h0
      cases ho
theorem DM.lt {w : World} {p m : Nat} {s : DS} {F : List Nat} {k : Nat} (h : DM w p m s F k) : ∀ b ∈ F, b < w.heap.size := by
  obtain ⟨ho, lv, n, hi, rfl, hk⟩ := h
  exact hi.foot_lt
theorem DM.pm {w : World} {p m : Nat} {s : DS} {F : List Nat} {k : Nat} (h : DM w p m s F k) : p ∈ F ∧ m ∈ F := by
  obtain ⟨ho, lv, n, hi, rfl, hk⟩ := h
  exact ⟨by simp [foot], by simp [foot]⟩

set_option maxRecDepth 100000 in
set_option maxHeartbeats 6400000 in
theorem hold_in (n : Nat) (hn : 4 ≤ n) (w : World) (q p g first : Nat) (hs : List Hd) (S : SlotsAt w q p g first hs) (m : Nat) (s : DS) (F : List Nat) (K : Nat) (D : DM w p m s F K) (hK : K ≤ 500000000) (hq : q ∉ F) (hgF : g ∉ F)
    (i bg : Nat) (hbg : bg = first + i * 8) (hi : i < hs.length) (hf : first + hs.length * 8 ≤ s.cnt) (hc : s.cnt ≤ 4160) (bv : Value) (zs : List Int) (hb : RowAt w bv zs) (ho : Off F bv zs) (hl : zs.length ≤ 448) :
    CallsIn Fence.wide n Try.prog 38 #[.pointer (some ⟨q, 0, none⟩), .int .i64 i, bv] w fun e w' => e = .returned (.int .i64 (deadE (holdS s (bg + 1) zs))) ∧ ∃ F', DiskAt w' p (holdS s (bg + 1) zs) F' (K + 20) ∧ Keeps F w w' ∧ Fresh w F F' := by
  have h1 : 1 ≤ n := by omega
  have HS := hid S
  have HD := hid D
  have HB := hid hb
  have HO := hid ho
  obtain ⟨a, cap, rfl, hh⟩ := id hb
  have hcp : zs.length ≤ cap := hh.1
  have hq0 := S.ltq
  clear hh S D hb ho
  refine callsIn_of_wp_marks Try.func38 rfl trivial ?_ rfl
  simp only [Try.ntmps38, List.size_toArray, List.length_cons, List.length_nil, Nat.reduceAdd, Nat.reduceSub, Array.replicate_succ, Array.replicate_zero, List.push_toArray, List.append_toArray, List.nil_append, List.cons_append]
  gi_wp2
  have kA : Keeps [] w ((w.alloc (.cells #[.pointer (some ⟨q, 0, none⟩)] 34)).alloc (.cells #[.int .i64 0] 25)) := ((Keeps.refl [] w).alloc _).alloc _
  have zA : ((w.alloc (.cells #[.pointer (some ⟨q, 0, none⟩)] 34)).alloc (.cells #[.int .i64 0] 25)).heap.size = w.heap.size + 2 := by simp
  have gA := heap_alloc2_old w (.cells #[.pointer (some ⟨q, 0, none⟩)] 34) (.cells #[.int .i64 0] 25)
  have bA := heap_alloc2_new w (.cells #[.pointer (some ⟨q, 0, none⟩)] 34) (.cells #[.int .i64 0] 25)
  generalize (w.alloc (.cells #[.pointer (some ⟨q, 0, none⟩)] 34)).alloc (.cells #[.int .i64 0] 25) = wA at kA zA gA bA ⊢
  have LB := lBegin_any wA q p g first hs (HS.out.keep kA (by simp) (by simp)) i (by omega) (by omega)
  rw [← hbg] at LB
  have LBH := hid LB
  have hb7 : bg + 8 ≤ s.cnt := by omega
  clear LB hbg
  refine ⟨trivial, (callsIn_wide.2 LBH.out).mono ?_⟩
  rintro e w1 ⟨rfl, rfl⟩
  gi_wp2
  have kB : Keeps [] w (wA.alloc (.cells #[.int .i64 ((bg : Int) + 1)] 3)) := kA.alloc _
  have zB : (wA.alloc (.cells #[.int .i64 ((bg : Int) + 1)] 3)).heap.size = w.heap.size + 3 := by simp; omega
  have g0 := (Below.heap_alloc wA (.cells #[.int .i64 ((bg : Int) + 1)] 3) w.heap.size (by omega)).trans gA
  have g1 := (Below.heap_alloc wA (.cells #[.int .i64 ((bg : Int) + 1)] 3) (w.heap.size + 1) (by omega)).trans bA
  have g2 := heap_alloc_new wA (.cells #[.int .i64 ((bg : Int) + 1)] 3)
  rw [zA] at g2
  generalize wA.alloc (.cells #[.int .i64 ((bg : Int) + 1)] 3) = wB at kB zB g0 g1 g2 ⊢
  clear kA zA gA bA LBH
  refine ⟨trivial, (callsIn_wide.2 (chunk_any wB a zs.length cap)).mono ?_⟩
  rintro e w3 ⟨rfl, rfl⟩
  rw [zB]
  gi_wp2
  have z3 : ((wB.alloc (.cells #[.slice a zs.length cap] 31)).alloc (.cells #[.int .i64 64] 3)).heap.size = w.heap.size + 5 := by simp; omega
  have k3 : Keeps [] w ((wB.alloc (.cells #[.slice a zs.length cap] 31)).alloc (.cells #[.int .i64 64] 3)) := (kB.alloc _).alloc _
  have q1 := cell_of_row _ _ 0 _ _ (0, 0) (heap_alloc2_old wB (.cells #[.slice a zs.length cap] 31) (.cells #[.int .i64 64] 3))
  have q2 := cell_of_row _ _ 0 _ _ (0, 0) (heap_alloc2_new wB (.cells #[.slice a zs.length cap] 31) (.cells #[.int .i64 64] 3))
  rw [zB] at q1 q2
  have kC : Keeps [] wB ((wB.alloc (.cells #[.slice a zs.length cap] 31)).alloc (.cells #[.int .i64 64] 3)) := ((Keeps.refl [] wB).alloc _).alloc _
  have h0 := (kC.block w.heap.size (by omega) (by simp)).trans g0
  have h1' := (kC.block (w.heap.size + 1) (by omega) (by simp)).trans g1
  have h2 := (kC.block (w.heap.size + 2) (by omega) (by simp)).trans g2
  generalize (wB.alloc (.cells #[.slice a zs.length cap] 31)).alloc (.cells #[.int .i64 64] 3) = w3 at z3 k3 q1 q2 kC h0 h1' h2 ⊢
  clear kB zB g0 g1 g2 kC
  have S3 := hid (HS.out.keep k3 (by simp) (by simp))
  have D3 := hid (HD.out.keep k3 (by simp))
  have B3 := hid (HB.out.keep k3 (by intro _ _ _ _ _; simp))
  have lF := HD.out.lt
  have hpF := HD.out.pm
  have hp0 := lF p hpF.1
  have hm0 := lF m hpF.2
  have nF : ∀ j, w.heap.size ≤ j → j ∉ F := fun j hj hm => by have := lF j hm; omega
  have hg0 := HS.out.ltg
  obtain ⟨ga, goff, ha⟩ : ∃ ga goff, 0 < zs.length → a = some ⟨ga, goff, none⟩ := by
    by_cases hz : 0 < zs.length
    · obtain ⟨g', off', cap', e, _⟩ := HB.out.open hz
      injection e with e _ _
      exact ⟨g', off', fun _ => e⟩
    · exact ⟨0, 0, fun h => absurd h hz⟩
  have hb3 : w.heap.size + 3 < w3.heap.size ∧ w.heap.size + 3 ∉ (w.heap.size + 2) :: (w.heap.size + 1) :: F := ⟨by omega, by simp; exact nF _ (by omega)⟩
  have hb4 : w.heap.size + 4 < w3.heap.size ∧ w.heap.size + 4 ∉ (w.heap.size + 2) :: (w.heap.size + 1) :: F := ⟨by omega, by simp; exact nF _ (by omega)⟩
  have HC := hid (chunkP_stops (n - 1) (by omega) (w.heap.size + 3) (w.heap.size + 4) ga goff cap w3.heap.size zs.length a ((w.heap.size + 2) :: (w.heap.size + 1) :: F) (by omega) hcp ha w3 q1 q2 hb3 hb4)
  refine wpIn_rangeFunc_ownH rfl h1 (gf := 58) (lb := #[.pointer (some ⟨w.heap.size + 3, 0, none⟩), .pointer (some ⟨w.heap.size + 4, 0, none⟩)]) rfl trivial (fun _ _ => rfl) HC.out KpS.trans (KpS.putObj (Nat.le_refl _)) (Below.refl _ _) (fun _ => rfl)
    (fun pre W => KpS ((w.heap.size + 2) :: (w.heap.size + 1) :: F) w3.heap.size w3 W ∧ pre.length ≤ nch zs.length ∧ (∃ F', DM W p m (holdL s (bg + 1) zs (pre.map (·.1))) F' (K + 2 * pre.length) ∧ Fresh w3 F F') ∧ W.heap[w.heap.size + 2]? = some (.cells #[.int .i64 ((bg : Int) + 1 + pre.length)] 3 (0, 0)) ∧ W.heap[w.heap.size + 1]? = some (.cells #[.int .i64 0] 25 (0, 0)))
    (fun c pre W => c = .ret ∧ KpS ((w.heap.size + 2) :: (w.heap.size + 1) :: F) w3.heap.size w3 W ∧ pre.length ≤ nch zs.length ∧ (∃ F', DM W p m (holdL s (bg + 1) zs (pre.map (·.1))) F' (K + 2 * pre.length) ∧ Fresh w3 F F') ∧ (holdL s (bg + 1) zs (pre.map (·.1))).dead = true ∧ W.heap[w.heap.size + 1]? = some (.cells #[.int .i64 14] 25 (0, 0)))
    ?own ?ownx ⟨KpS.refl _ _ _, by simp, ⟨F, D3.out, fun b hb => Or.inl hb⟩, by rw [h2]; simp, h1'⟩
    (fun x a' W => a' = { tmps := #[.pointer (some ⟨q, 0, none⟩), .int .i64 i, .slice a zs.length cap, .pointer (some ⟨w.heap.size, 0, none⟩), undef, undef, .pointer (some ⟨w.heap.size + 1, 0, none⟩), .pointer (some ⟨w.heap.size + 2, 0, none⟩), .slice (some ⟨ga, goff + x.1 * 64, none⟩) (csz zs.length x.1) (csz zs.length x.1), undef, .pointer (some ⟨q, 0, none⟩), .int .i64 i, .int .i64 bg, .int .i64 ((bg : Int) + 1), .slice a zs.length cap, .func (.func 58) #[] #[.pointer (some ⟨w.heap.size + 3, 0, none⟩), .pointer (some ⟨w.heap.size + 3 + 1, 0, none⟩)], .slice (some ⟨ga, goff + x.1 * 64, none⟩) (csz zs.length x.1) (csz zs.length x.1), undef, undef, undef, undef, undef, undef, undef, undef, undef, undef, undef, undef, undef, undef], defers := [] })
    (fun _ _ => fun _ _ _ _ hs _ _ => hs) ?assign ?body ?done ?stop
  case own =>
    rintro pre A B' row ⟨h1, h2, ⟨F', d1, d2⟩, h4, h5⟩ hg hr
    have hlow : ∀ k, k < w3.heap.size → B'.heap[k]? = A.heap[k]? := fun k hk => hg.block k (by have := h1.size; omega) (fun e => by have := (hr k e.symm).1; omega)
    exact ⟨h1.trans ⟨hg.os, hg.tape, hg.output, hg.size, fun k hk _ => hlow k hk⟩, h2, ⟨F', d1.grown hg hr (by omega) (by omega), d2⟩, (hlow _ (by omega)).trans h4, (hlow _ (by omega)).trans h5⟩
  case ownx =>
    rintro c pre A B' row ⟨h0, h1, h2, ⟨F', d1, d2⟩, h4, h5⟩ hg hr
    have hlow : ∀ k, k < w3.heap.size → B'.heap[k]? = A.heap[k]? := fun k hk => hg.block k (by have := h1.size; omega) (fun e => by have := (hr k e.symm).1; omega)
    exact ⟨h0, h1.trans ⟨hg.os, hg.tape, hg.output, hg.size, fun k hk _ => hlow k hk⟩, h2, ⟨F', d1.grown hg hr (by omega) (by omega), d2⟩, h4, (hlow _ (by omega)).trans h5⟩
  case assign =>
    rintro l pre x W K hI hC
    refine round_plain (by kernel_rfl) noOut_then ?_
    simp only [List.zip_toArray, List.zip_cons_cons, List.zip_nil_right, List.foldl_toArray, List.foldl_cons, List.foldl_nil, List.setIfInBounds_toArray, List.set_cons_zero, List.set_cons_succ]
    refine wpList_is rfl (.slice (some ⟨ga, goff + x.1 * 64, none⟩) (csz zs.length x.1) (csz zs.length x.1)) W rfl ?_
    simp only [Act.put, List.setIfInBounds_toArray, List.set_cons_zero, List.set_cons_succ]
    refine wpList_nil ?_
    exact hC _ _ ⟨Nat.le_refl _, fun k o _ hk _ => hk⟩ (KpS.refl _ _ _) hI rfl
  case body =>
    rintro l pre x a' W hl2 _ ⟨hKp, hl', ⟨F1, d1, fr1⟩, hB, hR⟩ rfl hlen
    have hx : x.1 * 64 < zs.length := by have := x.2; unfold nch at this; omega
    have HKd := hid hKp
    have hsz := hKp.size
    have h7 : nch zs.length ≤ 7 := by unfold nch; omega
    have c0 : W.cell? ⟨w.heap.size, 0, none⟩ = some (.pointer (some ⟨q, 0, none⟩)) := hKp.cell (cell_of_row _ _ 0 _ _ (0, 0) h0) (by omega) (by simp; exact nF _ (by omega))
    have cn : W.cell? ⟨w.heap.size + 2, 0, none⟩ = some (.int .i64 ((bg : Int) + 1 + pre.length)) := cell_of_row W _ 0 _ _ (0, 0) hB
    have hq1 : q ∉ F1 := fun hm => by rcases fr1 q hm with h | h; exact hq h; omega
    have SW := S3.out.keep hKp.toKeeps (by simp; exact ⟨by omega, by omega, hq⟩) (by simp; exact ⟨by omega, by omega, hgF⟩)
    obtain rfl := ha (by omega)
    have RW := (row_part B3.out x.1 hx).keep hKp.toKeeps (fun ad nn cc e hne hm => by
      injection e with e _ _
      have e' := (Option.some.inj e)
      subst e'
      simp only [List.mem_cons] at hm
      have hgl : ga < w.heap.size := by
        obtain ⟨g', off', cap', e2, _, hcc⟩ := HB.out.open (by omega)
        injection e2 with e2 _ _
        have e3 := Option.some.inj e2
        injection e3 with e3 _ _
        subst e3
        exact World.block_lt_of_cell? w _ (hcc 0 (by omega))
      rcases hm with hm | hm | hm
      · have hm : ga = w.heap.size + 2 := hm
        omega
      · have hm : ga = w.heap.size + 1 := hm
        omega
      · exact HO.out ⟨ga, goff, none⟩ _ _ rfl (by rintro rfl; simp at hx) hm)
    have hcnt : bg + 1 + pre.length < (holdL s (bg + 1) zs (pre.map (·.1))).cnt := by
      rw [holdL_cnt]; omega
    have notF : ∀ (l : Nat) (o : Obj), w3.heap.size ≤ l → W.heap[l]? = some o → o.isCells = false → l ∈ F1 → False := fun l o hl h0 ho hm => d1.cellsOf hm (by omega) (by omega) h0 ho
    have LW := lWrite_any W q p g first hs SW m _ F1 _ d1 (by omega) hq1 ((bg + 1 + pre.length : Nat) : Int) _ (chk zs x.1) RW (chk_le _ _)
    have hwe := writeE_is hcnt (pad64_len (chk_le zs x.1))
    rw [pad64_len (chk_le zs x.1)] at hwe
    rw [hwe] at LW
    have hsn : writeS (holdL s (bg + 1) zs (pre.map (·.1))) ((bg + 1 + pre.length : Nat) : Int) (pad64 (chk zs x.1)) = holdL s (bg + 1) zs ((pre ++ [x]).map (·.1)) := by
      rw [List.map_append, List.map_cons, List.map_nil, holdL_snoc, List.length_map]
    rw [hsn] at LW
    have HB' := hid hB
    have HR' := hid hR
    have FR := hid fr1
    have e2 : ((bg + 1 + pre.length : Nat) : Int) = (bg : Int) + 1 + pre.length := by omega
    rw [e2] at LW
    generalize hS2 : holdL s (bg + 1) zs ((pre ++ [x]).map (·.1)) = s2 at LW
    have HS2 := hid hS2
    clear hS2
    have LWH := hid LW
    clear LW hwe hsn hB hR fr1 RW SW d1 hKp e2
    have hlen1 : (pre ++ [x]).length = pre.length + 1 := by simp
    by_cases hd2 : s2.dead = true
    · have e14 : deadE s2 = 14 := by simp [deadE, hd2]
      have LW := LWH.out
      rw [e14] at LW
      have LW2 := hid LW
      have HD2 := hid hd2
      clear LW LWH e14 hd2
      gi_wp2
      refine ⟨trivial, fun h => by simp [Fence.wide] at h, (CallsIn.inRound l (callsIn_wide.2 LW2.out)).mono ?_⟩
      rintro e W2 ⟨rfl, F2, d2, k2, fr2⟩
      have b1 := (k2.block (w.heap.size + 1) (by omega) (by intro hm; rcases FR.out _ hm with h | h; exact nF _ (by omega) h; omega)).trans HR'.out
      have b2 := (k2.block (w.heap.size + 2) (by omega) (by intro hm; rcases FR.out _ hm with h | h; exact nF _ (by omega) h; omega)).trans HB'.out
      have kk : KpS ((w.heap.size + 2) :: (w.heap.size + 1) :: F) w3.heap.size W W2 := (KpS.refl _ _ _).keeps k2 (by omega) (fun j hj hj2 => by rcases FR.out _ hj with h | h; simp [h]; omega)
      have ff : Fresh w3 F F2 := fun b hb => by
        rcases fr2 b hb with h | h
        · exact FR.out b h
        · exact .inr (by omega)
      have DD := hid d2
      have KK := hid kk
      have FF := hid ff
      have BB1 := hid b1
      have BB2 := hid b2
      have hW2 : W.heap.size ≤ W2.heap.size := k2.size
      have HF1 : Hid (∀ b ∈ F1, b < w3.heap.size ∨ w3.heap.size ≤ b) := hid fun b _ => by omega
      have KW := hid k2
      have hpos : ∀ l : Nat, ∀ o : Obj, w3.heap.size ≤ l → W.heap[l]? = some o → o.isCells = false → W2.heap[l]? = some o := fun l o hl h0 ho => (k2.block l (lt_of_block h0) (fun hm => notF l o hl h0 ho hm)).trans h0
      have HPOS := hid hpos
      have c2 : W2.cell? ⟨w.heap.size + 1, 0, none⟩ = some (.int .i64 0) := cell_of_row _ _ 0 _ _ (0, 0) b1
      have f2 : W2.frozen? ⟨w.heap.size + 1, 0, none⟩ = false := by simp [World.frozen?, b1]
      clear b1 b2 kk ff d2 fr2 k2 hpos
      gi_wp2
      have n1 : w.heap.size + 1 ∉ F2 := fun hm => by rcases FF.out _ hm with h | h; exact nF _ (by omega) h; omega
      refine ⟨⟨by simpa [World.setCell] using hW2, fun k o hk h0 ho => (Below.heap_setCell _ _ _ _ (show k ≠ w.heap.size + 1 by omega)).trans (HPOS.out k o hk h0 ho)⟩, rfl, HKd.out.trans (KK.out.setCell _ _ _ (.inl (by simp))), by rw [hlen1]; omega, ⟨F2, ?_, FF.out⟩, by rw [HS2.out]; exact HD2.out, ?_⟩
      · rw [HS2.out, hlen1]
        exact (DD.out.keep ((Keeps.refl [w.heap.size + 1] W2).setCell (.inl (by simp)) _) (fun b hb hm => by simp at hm; subst hm; exact n1 hb)).mono (by omega)
      · rw [heap_setCell_same _ _ _ _ _ _ BB1.out]; rfl
    · have e0 : deadE s2 = 0 := by simp [deadE, hd2]
      have LW := LWH.out
      rw [e0] at LW
      have LW2 := hid LW
      clear LW LWH e0 hd2
      gi_wp2
      refine ⟨trivial, fun h => by simp [Fence.wide] at h, (CallsIn.inRound l (callsIn_wide.2 LW2.out)).mono ?_⟩
      rintro e W2 ⟨rfl, F2, d2, k2, fr2⟩
      have b1 := (k2.block (w.heap.size + 1) (by omega) (by intro hm; rcases FR.out _ hm with h | h; exact nF _ (by omega) h; omega)).trans HR'.out
      have b2 := (k2.block (w.heap.size + 2) (by omega) (by intro hm; rcases FR.out _ hm with h | h; exact nF _ (by omega) h; omega)).trans HB'.out
      have kk : KpS ((w.heap.size + 2) :: (w.heap.size + 1) :: F) w3.heap.size W W2 := (KpS.refl _ _ _).keeps k2 (by omega) (fun j hj hj2 => by rcases FR.out _ hj with h | h; simp [h]; omega)
      have ff : Fresh w3 F F2 := fun b hb => by
        rcases fr2 b hb with h | h
        · exact FR.out b h
        · exact .inr (by omega)
      have DD := hid d2
      have KK := hid kk
      have FF := hid ff
      have BB1 := hid b1
      have BB2 := hid b2
      have hW2 : W.heap.size ≤ W2.heap.size := k2.size
      have HF1 : Hid (∀ b ∈ F1, b < w3.heap.size ∨ w3.heap.size ≤ b) := hid fun b _ => by omega
      have KW := hid k2
      have hpos : ∀ l : Nat, ∀ o : Obj, w3.heap.size ≤ l → W.heap[l]? = some o → o.isCells = false → W2.heap[l]? = some o := fun l o hl h0 ho => (k2.block l (lt_of_block h0) (fun hm => notF l o hl h0 ho hm)).trans h0
      have HPOS := hid hpos
      have c2 : W2.cell? ⟨w.heap.size + 2, 0, none⟩ = some (.int .i64 ((bg : Int) + 1 + pre.length)) := cell_of_row _ _ 0 _ _ (0, 0) b2
      have f2 : W2.frozen? ⟨w.heap.size + 2, 0, none⟩ = false := by simp [World.frozen?, b2]
      clear b1 b2 kk ff d2 fr2 k2 hpos
      gi_wp2
      have n1 : w.heap.size + 2 ∉ F2 := fun hm => by rcases FF.out _ hm with h | h; exact nF _ (by omega) h; omega
      refine ⟨⟨by simpa [World.setCell] using hW2, fun k o hk h0 ho => (Below.heap_setCell _ _ _ _ (show k ≠ w.heap.size + 2 by omega)).trans (HPOS.out k o hk h0 ho)⟩, KK.out.setCell _ _ _ (.inl (by simp)), HKd.out.trans (KK.out.setCell _ _ _ (.inl (by simp))), by rw [hlen1]; omega, ⟨F2, ?_, FF.out⟩, ?_, ?_⟩
      · rw [HS2.out, hlen1]
        exact (DD.out.keep ((Keeps.refl [w.heap.size + 2] W2).setCell (.inl (by simp)) _) (fun b hb hm => by simp at hm; subst hm; exact n1 hb)).mono (by omega)
      · rw [heap_setCell_same _ _ _ _ _ _ BB2.out, hlen1]
        simp
        omega
      · exact (Below.heap_setCell _ _ _ _ (by simp)).trans BB1.out
  case done =>
    rintro Dd ys W hD hys ⟨hKp, hl', ⟨F1, d1, fr1⟩, hB, hR⟩ hDD
    have hyl : ys.length = nch zs.length := by simpa using congrArg List.length hys
    have h7 : nch zs.length ≤ 7 := by unfold nch; omega
    have hst : holdL s (bg + 1) zs (ys.map (·.1)) = holdW s (bg + 1) zs (nch zs.length) := by rw [hys, holdL_range]
    rw [hst] at d1
    have hsz := hKp.size
    have c0 : W.cell? ⟨w.heap.size, 0, none⟩ = some (.pointer (some ⟨q, 0, none⟩)) := hKp.cell (cell_of_row _ _ 0 _ _ (0, 0) h0) (by omega) (by simp; exact nF _ (by omega))
    have cq : W.cell? ⟨q, 0, none⟩ = some (.pointer (some ⟨p, 0, none⟩)) := hKp.cell S3.out.c0 (by omega) (by simp; exact ⟨by omega, by omega, hq⟩)
    have SY := sync_any W p _ F1 _ d1.at_ (by omega)
    rw [syncE_is] at SY
    have hsy : syncS (holdW s (bg + 1) zs (nch zs.length)) = holdS s (bg + 1) zs := rfl
    rw [hsy] at SY
    have n1 : w.heap.size + 1 ∉ F1 := fun hm => by rcases fr1 _ hm with h | h; exact nF _ (by omega) h; omega
    have nD : Dd ∉ F1 := fun hm => d1.cellsOf hm (by omega) (by omega) hDD rfl
    generalize hS2 : holdS s (bg + 1) zs = s2 at SY
    have HS2 := hid hS2
    clear hS2
    have SYH := hid SY
    have HKd := hid hKp
    have FR := hid fr1
    have HR' := hid hR
    have HDD := hid hDD
    clear SY hsy d1 hKp fr1 hR hDD hst hB hys
    gi_wp2
    refine ⟨trivial, (callsIn_wide.2 SYH.out).mono ?_⟩
    rintro e W4 ⟨rfl, F4, d4, k4, fr4⟩
    have b1 := (k4.block (w.heap.size + 1) (lt_of_block HR'.out) n1).trans HR'.out
    have bD := (k4.block Dd (lt_of_block HDD.out) nD).trans HDD.out
    have c2 : W4.cell? ⟨w.heap.size + 1, 0, none⟩ = some (.int .i64 0) := cell_of_row _ _ 0 _ _ (0, 0) b1
    have f2 : W4.frozen? ⟨w.heap.size + 1, 0, none⟩ = false := by simp [World.frozen?, b1]
    have B1 := hid b1
    have BD := hid bD
    have D4 := hid d4
    have K4 := hid k4
    have F4' : Hid (Fresh w3 F F4) := hid fun b hb => by
      rcases fr4 b hb with h | h
      · exact FR.out b h
      · exact .inr (by omega)
    have hD4 := hid d4.dm
    have nD4 : Hid (Dd ∉ F4) := hid fun hm => by
      rcases fr4 _ hm with h | h
      · exact nD h
      · have := lt_of_block HDD.out; omega
    clear b1 bD d4 k4 fr4
    gi_wp2
    have bD2 : (W4.setCell ⟨w.heap.size + 1, 0, none⟩ (.int .i64 (deadE s2))).heap[Dd]? = some (.deferred (some [])) := by rw [Below.heap_setCell _ _ _ _ (show Dd ≠ w.heap.size + 1 by omega)]; exact BD.out
    refine ⟨by simp, .inl ⟨_, _, rfl, run_takeDeferred bD2, ?_⟩⟩
    have n4 : w.heap.size + 1 ∉ F4 := fun hm => by rcases F4'.out _ hm with h | h; exact nF _ (by omega) h; omega
    refine ⟨_, results_cell1 rfl _ _ ⟨w.heap.size + 1, 0, none⟩ (.int .i64 (deadE s2)) rfl (loadErr_var (cell_of_one ((World.putObj_heap_other (by omega)).trans (heap_setCell_same _ _ _ _ _ _ B1.out)))), by rw [HS2.out], F4, ?_, ?_, fun b hb => (F4'.out b hb).imp id (fun h => by omega)⟩
    · obtain ⟨m4, dm4⟩ := hD4.out
      have dm5 := dm4.keep (show Keeps [w.heap.size + 1] W4 (W4.setCell ⟨w.heap.size + 1, 0, none⟩ (.int .i64 (deadE s2))) from (Keeps.refl _ _).setCell (.inl (by simp)) _) (fun b hb hm => by simp at hm; subst hm; exact n4 hb)
      have hmem := dm4.pm
      have hl4 := dm4.lt
      have hne : ∀ b ∈ F4, b ≠ Dd := fun b hb e => by subst e; exact nD4.out hb
      rw [HS2.out]
      exact (((dm5.put bD2 (.deferred none) (hne _ hmem.1) (hne _ hmem.2))).mono (by omega)).at_
    · have kf : Keeps F w W4 := ((k3.mono (by simp)).trans' HKd.out.toKeeps (fun j hj hm => by
        simp only [List.mem_cons] at hm
        rcases hm with hm | hm | hm
        · omega
        · omega
        · exact hm)).trans' K4.out (fun j hj hm => by
          rcases FR.out _ hm with h | h
          · exact h
          · omega)
      refine (kf.setCell (Or.inr ?_) _).putObj ?_ _
      · show w.heap.size ≤ w.heap.size + 1
        omega
      · omega
  case stop =>
    rintro Dd c pre W hD hSp ⟨rfl, hKp, hl', ⟨F1, d1, fr1⟩, hdead, hR⟩ hDD
    have hSp' : pre.map (·.1) = List.range pre.length := hSp
    rw [hSp', holdL_range] at d1 hdead
    have hst := holdS_dead hl' hdead
    have h7 : nch zs.length ≤ 7 := by unfold nch; omega
    have hsz := hKp.size
    have n1 : w.heap.size + 1 ∉ F1 := fun hm => by rcases fr1 _ hm with h | h; exact nF _ (by omega) h; omega
    have nD : Dd ∉ F1 := fun hm => d1.cellsOf hm (by omega) (by omega) hDD rfl
    gi_wp2
    refine ⟨by simp, .inl ⟨_, _, rfl, run_takeDeferred hDD, ?_⟩⟩
    refine ⟨_, results_cell1 rfl _ _ ⟨w.heap.size + 1, 0, none⟩ (.int .i64 14) rfl (loadErr_var (cell_of_one ((World.putObj_heap_other (by omega)).trans hR))), by simp [deadE, hdead], F1, ?_, ?_, fun b hb => (fr1 b hb).imp id (fun h => by omega)⟩
    · have hmem := d1.pm
      exact ((d1.put hDD (.deferred none) (fun e => nD (e ▸ hmem.1)) (fun e => nD (e ▸ hmem.2))).mono (by omega)).at_
    · have kf : Keeps F w W := (k3.mono (by simp)).trans' hKp.toKeeps (fun j hj hm => by
        simp only [List.mem_cons] at hm
        rcases hm with hm | hm | hm
        · omega
        · omega
        · exact hm)
      exact kf.putObj (by omega) _
end Go.Proofs.Ytiljhjegfklgmaa


/- Slots: mark: a head is written, and lasts; Put and Clear. -/
namespace Go.Proofs.Ytiljhjegfklgmaa
open Go.RowKit Go.Shelf

theorem loadHd_run (W : World) (b off : Nat) (h : Hd) (hc : W.rangeAt b off h.cells) : (Instr.loadAt 72 (.pointer (some ⟨b, off, none⟩))).run Try.prog W = .ok (hdV h) W :=
  run_loadAt_mid W b off 72 h.cells _ hc uHd rfl (by rw [sHd]; rfl)
theorem wpList_boxHd {ops : Array Oper} {rest : List Oper} {o : Oper} {a : Act} {w : World} {Q : Exit → Act → World → Prop} (hgd : o.guard = none) (x : Operand) (ho : o.op = .box 72 x) (h : Hd) (hx : a.eval x = hdV h)
    (hk : wpList Try.prog ops Q rest (a.put o.dst (.pointer (some ⟨w.heap.size, 0, none⟩))) (w.alloc (.cells h.cells.toArray 72))) : wpList Try.prog ops Q (o :: rest) a w := by
  refine wpList_is hgd _ _ ?_ hk
  simp [execOp, ho, Instr.box, newVar, newRow, hx, hdV, Value.cells, Result.andThen]
theorem deadE_cases (s : DS) : (s.dead = true ∧ deadE s = 14) ∨ (s.dead = false ∧ deadE s = 0) := by
  cases h : s.dead
  · exact .inr ⟨rfl, by simp [deadE, h]⟩
  · exact .inl ⟨rfl, by simp [deadE, h]⟩

/-- What mark leaves. -/
def MarkPost (w : World) (q p g first : Nat) (hs : List Hd) (i : Nat) (h : Hd) (s2 : DS) (F : List Nat) (K : Nat) (e : Ending) (w' : World) : Prop :=
  e = .returned (.int .i64 (deadE s2)) ∧ ∃ F', DiskAt w' p s2 F' K ∧ SlotsAt w' q p g first (if s2.dead then hs else hs.set i h) ∧ Keeps (g :: F) w w' ∧ Fresh w F F'

set_option maxRecDepth 100000 in
set_option maxHeartbeats 6400000 in
theorem lMark_any (w : World) (q p g first : Nat) (hs : List Hd) (S : SlotsAt w q p g first hs) (m : Nat) (s : DS) (F : List Nat) (K : Nat) (D : DM w p m s F K) (hK : K ≤ 500000000) (hq : q ∉ F) (hgF : g ∉ F)
    (i bg : Nat) (hbg : bg = first + i * 8) (hi : i < hs.length) (hf : first + hs.length * 8 ≤ s.cnt) (hc : s.cnt ≤ 4160) (h : Hd) (ok : h.Ok) :
    Calls Try.prog 39 #[.pointer (some ⟨q, 0, none⟩), .int .i64 i, hdV h] w (MarkPost w q p g first hs i h (markS s bg h) F (K + 20)) := by
  have HS := hid S
  have HD := hid D
  have HOK := hid ok
  have hlb := headB_len h ok
  have hgs := S.ltg
  have hqs := S.ltq
  have hqg := S.ne
  have lF := D.lt
  have nF : ∀ j, w.heap.size ≤ j → j ∉ F := fun j hj hm => by have := lF j hm; omega
  obtain ⟨s2, hs2⟩ : ∃ x, x = markS s bg h := ⟨_, rfl⟩
  rw [← hs2]
  have HM2 : Hid (syncS (writeS s bg (pad64 (headB h))) = s2) := hid hs2.symm
  clear S D ok hs2
  go_enter Try.func39, Try.ntmps39
  go_wp2_with (first | (refine wpList_boxHd rfl _ rfl _ rfl ?_) | (refine wpList_loadHd rfl _ rfl w.heap.size 0 rfl h (rangeNew _ _ _) ?_) | fail)
  have kA : Keeps [] w (w.alloc (.cells h.cells.toArray 72)) := (Keeps.refl [] w).alloc _
  have gA := heap_alloc_new w (.cells h.cells.toArray 72)
  have zA : (w.alloc (.cells h.cells.toArray 72)).heap.size = w.heap.size + 1 := by simp
  generalize w.alloc (.cells h.cells.toArray 72) = w1 at kA gA zA ⊢
  refine (lBytes_any h HOK.out w1).mono ?_
  rintro e w2 ⟨_, rfl, rB, ⟨ba, bn, bc, rfl⟩, kB⟩
  have RB2 := hid rB
  have K2 := hid (kA.trans kB)
  have G2 := hid ((kB.block _ (lt_of_block gA) (by simp)).trans gA)
  have z2 : w1.heap.size ≤ w2.heap.size := kB.size
  clear rB kB kA gA
  have S2 := hid (HS.out.keep K2.out (by simp) (by simp))
  have D2 := hid (HD.out.keep K2.out (by simp))
  have LB := lBegin_any w2 q p g first hs S2.out i (by omega) (by omega)
  rw [← hbg] at LB
  have LBH := hid LB
  have hb8 : bg + 8 ≤ s.cnt := by omega
  have LW := lWrite_any w2 q p g first hs S2.out m s F K D2.out (by omega) hq (bg : Int) _ (headB h) RB2.out (by omega)
  have hwe := writeE_is (s := s) (k := bg) (zs := pad64 (headB h)) (by omega) (pad64_len (by omega))
  rw [pad64_len (by omega)] at hwe
  rw [hwe] at LW
  have hcs : (writeS s (bg : Int) (pad64 (headB h))).cnt = s.cnt := writeS_cnt _ _ _
  have hm2 := HM2.out
  clear HM2
  generalize writeS s (bg : Int) (pad64 (headB h)) = s1 at LW hcs hm2
  have HM2 := hid hm2
  have LWH := hid LW
  clear LB LW hwe hbg hm2
  go_wp2_with fail
  refine LBH.out.mono ?_
  rintro e w3 ⟨rfl, rfl⟩
  go_wp2_with fail
  refine LWH.out.mono ?_
  rintro e w4 ⟨rfl, F4, d4, k4, fr4⟩
  have D4 := hid d4
  have g4 := (k4.block _ (lt_of_block G2.out) (nF _ (Nat.le_refl _))).trans G2.out
  have G4 := hid g4
  have K4 := hid ((K2.out.mono (by simp)).trans k4)
  have FR4 : Hid (Fresh w F F4) := hid fun b hb => (fr4 b hb).imp id (fun h => by omega)
  have hq4 : q ∉ F4 := fun hm => by rcases FR4.out _ hm with h | h; exact hq h; omega
  have hg4 : g ∉ F4 := fun hm => by rcases FR4.out _ hm with h | h; exact hgF h; omega
  have hn4 : w.heap.size ∉ F4 := fun hm => by rcases fr4 _ hm with h | h; exact nF _ (Nat.le_refl _) h; omega
  have S4 := hid (S2.out.keep k4 hq hgF)
  have z4 : w2.heap.size ≤ w4.heap.size := k4.size
  clear d4 k4 fr4 g4
  rcases deadE_cases s1 with ⟨hd, he⟩ | ⟨hd, he⟩
  · rw [he]
    have HD1 := hid hd
    clear hd he
    go_wp2_with fail
    go_ret
    have e12 : s1 = s2 := (syncS_dead HD1.out).symm.trans HM2.out
    rw [← e12]
    exact ⟨by simp [deadE, HD1.out], F4, (D4.out.mono (by omega)).at_, by rw [HD1.out]; exact S4.out, K4.out.mono (by intro k _ hk; simp [hk]), FR4.out⟩
  · rw [he]
    have c4 := S4.out.c0
    have SY := sync_any w4 p s1 F4 (K + 2) D4.out.at_ (by omega)
    rw [syncE_is] at SY
    rw [HM2.out] at SY
    have SYH := hid SY
    clear SY hd he
    go_wp2_with fail
    refine SYH.out.mono ?_
    rintro e w5 ⟨rfl, F5, d5, k5, fr5⟩
    have D5 := hid d5
    have S5 := hid (S4.out.keep k5 hq4 hg4)
    have G5 := hid ((k5.block _ (lt_of_block G4.out) hn4).trans G4.out)
    have K5 : Hid (Keeps F w w5) := hid (K4.out.trans' k5 (fun j hj hm => by rcases FR4.out _ hm with h | h; exact h; omega))
    have FR5 : Hid (Fresh w F F5) := hid fun b hb => by
      rcases fr5 b hb with h | h
      · exact FR4.out b h
      · exact .inr (by omega)
    have hg5 : g ∉ F5 := fun hm => by rcases FR5.out _ hm with h | h; exact hgF h; omega
    have z5 : w4.heap.size ≤ w5.heap.size := k5.size
    clear d5 k5 fr5 c4
    rcases deadE_cases s2 with ⟨hd, he⟩ | ⟨hd, he⟩
    · rw [he]
      have HD1 := hid hd
      clear hd he
      go_wp2_with fail
      go_ret
      exact ⟨by simp [deadE, HD1.out], F5, D5.out.mono (by omega), by rw [HD1.out]; exact S5.out, K5.out.mono (by intro k _ hk; simp [hk]), FR5.out⟩
    · rw [he]
      have HD1 := hid hd
      clear hd he
      go_wp2_with fail
      refine wp_region_any (by kernel_rfl) (wpAny_of_held (S := KpS [g] w5.heap.size w5.drew) _ _ _ _ ?_)
      change wpAnyH _ _ _ _ _ _ _ _ w5.drew
      have hlt : (i : Int) < (hs.length : Int) := by omega
      have cQ : ∀ W1, KpS [g] w5.heap.size w5.drew W1 → W1.cell? ⟨q, 2, none⟩ = some (.slice (some ⟨g, 0, none⟩) hs.length hs.length) := fun W1 h => h.cell (by rw [World.cell?_drew]; exact S5.out.c2) (by omega) (by simp; omega)
      have cH : ∀ W1, KpS [g] w5.heap.size w5.drew W1 → W1.rangeAt w.heap.size 0 h.cells := fun W1 hh => hh.range (fun j u hu => by rw [World.cell?_drew, Nat.zero_add, cell_of_row w5 w.heap.size j _ _ (0, 0) G5.out]; simpa using hu) (by omega) (by simp; omega)
      refine held_take (i := 0) (v := .pointer (some ⟨q, 0, none⟩)) rfl (by kernel_rfl) (by kernel_rfl) (by kernel_rfl) (fun _ _ _ h => h) rfl (fun W1 hW1 => rfl) (KpS.refl _ _ _) ?_
      simp only [Act.put, List.setIfInBounds_toArray, List.set_cons_zero, List.set_cons_succ]
      refine held_take (i := 1) (v := .pointer (some ⟨q, 0, none⟩)) rfl (by kernel_rfl) (by kernel_rfl) (by kernel_rfl) (fun _ _ _ h => h) rfl (fun W1 hW1 => by go_simp) (KpS.refl _ _ _) ?_
      simp only [Act.put, List.setIfInBounds_toArray, List.set_cons_zero, List.set_cons_succ]
      refine held_take (i := 2) (v := .pointer (some ⟨q, 2, none⟩)) rfl (by kernel_rfl) (by kernel_rfl) (by kernel_rfl) (fun _ _ _ h => h) rfl (fun W1 hW1 => by go_simp) (KpS.refl _ _ _) ?_
      simp only [Act.put, List.setIfInBounds_toArray, List.set_cons_zero, List.set_cons_succ]
      refine held_take (i := 3) (v := .slice (some ⟨g, 0, none⟩) hs.length hs.length) rfl (by kernel_rfl) (by kernel_rfl) (by kernel_rfl) (fun _ _ _ h => h) rfl (fun W1 hW1 => exec_load _ _ _ _ rfl rfl (run_loadCell W1 _ _ _ (cQ W1 hW1) (agg_no _ (by kernel_rfl)))) (KpS.refl _ _ _) ?_
      simp only [Act.put, List.setIfInBounds_toArray, List.set_cons_zero, List.set_cons_succ]
      refine held_take (i := 4) (v := .int .i64 i) rfl (by kernel_rfl) (by kernel_rfl) (by kernel_rfl) (fun _ _ _ h => h) rfl (fun W1 hW1 => rfl) (KpS.refl _ _ _) ?_
      simp only [Act.put, List.setIfInBounds_toArray, List.set_cons_zero, List.set_cons_succ]
      refine held_take (i := 5) (v := hdV h) rfl (by kernel_rfl) (by kernel_rfl) (by kernel_rfl) (fun _ _ _ h => h) rfl (fun W1 hW1 => exec_load _ _ _ _ rfl rfl (loadHd_run W1 _ _ h (cH W1 hW1))) (KpS.refl _ _ _) ?_
      simp only [Act.put, List.setIfInBounds_toArray, List.set_cons_zero, List.set_cons_succ]
      refine held_take (i := 6) (v := .pointer (some ⟨g, i * 3, none⟩)) rfl (by kernel_rfl) (by kernel_rfl) (by kernel_rfl) (fun _ _ _ h => h) rfl (fun W1 hW1 => by go_simp) (KpS.refl _ _ _) ?_
      simp only [Act.put, List.setIfInBounds_toArray, List.set_cons_zero, List.set_cons_succ]
      have hth : (w5.drew).there g (i * 3) 3 := there_of (w := w5.drew) S5.out.hds (i * 3) 3 (by have := hdsC_len hs; simp; omega)
      refine held_do (i := 7) (by kernel_rfl) rfl rfl (wp_store_mid 72 _ _ rfl g (i * 3) h.cells.toArray rfl rfl hth (by rw [sHd]; rfl) h.one ?_)
      have kk : KpS [g] w5.heap.size w5.drew (w5.drew.setCells g (i * 3) h.cells) := ((KpS.refl _ _ _).setCell _ _ _ (.inl (by simp))).setCell _ _ _ (.inl (by simp)) |>.setCell _ _ _ (.inl (by simp))
      refine ⟨kk, ?_⟩
      refine wpAnyH_done (by kernel_rfl) ?_ _
      have hs5 := setHd_hds (w := w5.drew) (T := 72) h hi S5.out.hds
      have hq5 := (setHd_other w5.drew g (i * 3) h hqg).trans S5.out.blk
      have S6 : Hid (SlotsAt (w5.drew.setCells g (i * 3) h.cells) q p g first (hs.set i h)) := hid ⟨by rw [List.length_set]; exact hq5, hs5, hqg, fun x hx => by
        rcases List.mem_or_eq_of_mem_set hx with hx | hx
        · exact S5.out.ok x hx
        · rw [hx]; exact HOK.out, by rw [List.length_set]; exact S5.out.few⟩
      have K6 : Hid (Keeps (g :: F) w (w5.drew.setCells g (i * 3) h.cells)) := hid (setHd_keeps ((K5.out.drew).mono (by intro k _ hk; simp [hk])) h (.inl (by simp)))
      have D6 : Hid (DiskAt (w5.drew.setCells g (i * 3) h.cells) p s2 F5 (K + 20)) := hid ((D5.out.mono (by omega)).keep (setHd_keeps (S := [g]) ((Keeps.refl [g] w5).drew) h (.inl (by simp))) (fun b hb hm => by simp at hm; subst hm; exact hg5 hb))
      clear kk hs5 hq5 cQ cH hth
      go_wp2_with fail
      go_ret
      exact ⟨by simp [deadE, HD1.out], F5, D6.out, by rw [HD1.out]; exact S6.out, K6.out, FR5.out⟩
end Go.Proofs.Ytiljhjegfklgmaa


/- Slots: Put and Clear. -/
namespace Go.Proofs.Ytiljhjegfklgmaa
open Go.RowKit Go.Shelf

/-- Slots over a disk. -/
structure SlAt (w : World) (q p g first : Nat) (hs : List Hd) (s : DS) (F : List Nat) (K : Nat) : Prop where
  sl : SlotsAt w q p g first hs
  dk : DiskAt w p s F K
  hq : q ∉ F
  hg : g ∉ F
  fit : first + hs.length * 8 ≤ s.cnt
theorem SlAt.cnt {w : World} {q p g first : Nat} {hs : List Hd} {s : DS} {F : List Nat} {K : Nat} (h : SlAt w q p g first hs s F K) : s.cnt ≤ 4160 := h.dk.1.hi
theorem SlAt.keep {w w' : World} {q p g first : Nat} {hs : List Hd} {s : DS} {F S : List Nat} {K : Nat} (h : SlAt w q p g first hs s F K) (k : Keeps S w w') (h1 : q ∉ S) (h2 : g ∉ S) (h3 : ∀ b ∈ F, b ∉ S) : SlAt w' q p g first hs s F K :=
  ⟨h.sl.keep k h1 h2, h.dk.keep k h3, h.hq, h.hg, h.fit⟩
theorem SlAt.mono {w : World} {q p g first : Nat} {hs : List Hd} {s : DS} {F : List Nat} {K K' : Nat} (h : SlAt w q p g first hs s F K) (hk : K ≤ K') : SlAt w q p g first hs s F K' :=
  ⟨h.sl, h.dk.mono hk, h.hq, h.hg, h.fit⟩

def putD (s : DS) (bg : Nat) (key b : List Int) : DS := markS (holdS s (bg + 1) b) bg ⟨true, b.length, key⟩
theorem markS_cnt (s : DS) (n : Nat) (h : Hd) : (markS s n h).cnt = s.cnt := by rw [markS, syncS_cnt, writeS_cnt]
theorem putD_cnt (s : DS) (bg : Nat) (key b : List Int) : (putD s bg key b).cnt = s.cnt := by rw [putD, markS_cnt, holdS_cnt]
theorem markS_dead {s : DS} (h : s.dead = true) (n : Nat) (hd : Hd) : markS s n hd = s := by rw [markS, writeS_dead h, syncS_dead h]
/-- Is it done, but for death? -/
def putOk (hs : List Hd) (i : Int) (key b : List Int) : Bool := hasS hs i && decide (key.length ≤ 40) && decide (b.length ≤ 448) && !usedS hs i
def putE (hs : List Hd) (first : Nat) (s : DS) (i : Int) (key b : List Int) : Int :=
  if hasS hs i = false then 1 else if 40 < key.length ∨ 448 < b.length then 3 else if usedS hs i then 7 else deadE (putD s (first + i.toNat * 8) key b)
def putS (hs : List Hd) (first : Nat) (s : DS) (i : Int) (key b : List Int) : DS := if putOk hs i key b then putD s (first + i.toNat * 8) key b else s
def putH (hs : List Hd) (first : Nat) (s : DS) (i : Int) (key b : List Int) : List Hd :=
  if putOk hs i key b && !(putD s (first + i.toNat * 8) key b).dead then hs.set i.toNat ⟨true, b.length, key⟩ else hs
def clearOk (hs : List Hd) (i : Int) : Bool := hasS hs i && usedS hs i
def clearE (hs : List Hd) (first : Nat) (s : DS) (i : Int) : Int := if takeE hs i = 0 then deadE (markS s (first + i.toNat * 8) hd0) else takeE hs i
def clearS (hs : List Hd) (first : Nat) (s : DS) (i : Int) : DS := if clearOk hs i then markS s (first + i.toNat * 8) hd0 else s
def clearH (hs : List Hd) (first : Nat) (s : DS) (i : Int) : List Hd := if clearOk hs i && !(markS s (first + i.toNat * 8) hd0).dead then hs.set i.toNat hd0 else hs

def SlPost (w : World) (q p g first : Nat) (hs : List Hd) (s : DS) (F : List Nat) (K : Nat) (er : Int) (e : Ending) (w' : World) : Prop :=
  e = .returned (.int .i64 er) ∧ ∃ F', SlAt w' q p g first hs s F' K ∧ Keeps (g :: F) w w' ∧ Fresh w F F'

theorem fresh_refl (w : World) (F : List Nat) : Fresh w F F := fun _ hb => Or.inl hb

set_option maxRecDepth 100000 in
set_option maxHeartbeats 6400000 in
theorem lPut_any (w : World) (q p g first : Nat) (hs : List Hd) (s : DS) (F : List Nat) (K : Nat) (H : SlAt w q p g first hs s F K) (hK : K ≤ 400000000) (i : Int) (kv : Value) (key : List Int) (hkr : RowAt w kv key) (hko : Off F kv key) (bv : Value) (b : List Int) (hbr : RowAt w bv b) (hbo : Off F bv b) :
    Calls Try.prog 13 #[.pointer (some ⟨q, 0, none⟩), .int .i64 i, kv, bv] w (SlPost w q p g first (putH hs first s i key b) (putS hs first s i key b) F (K + 40) (putE hs first s i key b)) := by
  have HH := hid H
  have HS := hid H.sl
  have hcnt := H.cnt
  have hfit := H.fit
  have lF : ∀ j ∈ F, j < w.heap.size := fun j hj => by obtain ⟨m, dm⟩ := H.dk.dm; exact dm.lt j hj
  have HKR := hid hkr
  have HBR := hid hbr
  have HKO := hid hko
  have HBO := hid hbo
  obtain ⟨ka, kc, rfl, hk1⟩ := id hkr
  obtain ⟨ba, bc, rfl, hb1⟩ := id hbr
  have same : putOk hs i key b = false → SlPost w q p g first (putH hs first s i key b) (putS hs first s i key b) F (K + 40) (putE hs first s i key b) (.returned (.int .i64 (putE hs first s i key b))) w := fun h => by
    refine ⟨rfl, F, ?_, Keeps.refl _ _, fresh_refl _ _⟩
    simp only [putH, putS, h, Bool.false_and, Bool.false_eq_true, if_false]
    exact H.mono (by omega)
  have SAME := hid same
  clear H hk1 hb1 hkr hbr hko hbo same
  by_cases hh : hasS hs i = true
  · by_cases hl : 40 < key.length ∨ 448 < b.length
    · have ee : putE hs first s i key b = 3 := by simp only [putE, hh, hl, if_true]; simp
      have eo : putOk hs i key b = false := by simp [putOk]; omega
      have PP := SAME.out eo
      rw [ee] at PP ⊢
      have HP := hid PP
      have hh' := hid hh
      clear hh ee eo PP SAME
      rcases hl with hl | hl
      · have t0 : (40 : Int) < (key.length : Int) := by omega
        clear hl
        go_enter Try.func13, Try.ntmps13
        go_wp2_with fail
        refine (lMade_any w q p g first hs HS.out).mono ?_
        rintro e w' ⟨rfl, rfl⟩
        go_wp2_with fail
        refine (lHas_any w q p g first hs HS.out i).mono ?_
        rintro e w' ⟨rfl, rfl⟩
        rw [hh'.out]
        go_wp2_with fail
        go_ret
        exact HP.out
      · have t0 : (448 : Int) < (b.length : Int) := by omega
        clear hl
        by_cases hl2 : (40 : Int) < (key.length : Int)
        · go_enter Try.func13, Try.ntmps13
          go_wp2_with fail
          refine (lMade_any w q p g first hs HS.out).mono ?_
          rintro e w' ⟨rfl, rfl⟩
          go_wp2_with fail
          refine (lHas_any w q p g first hs HS.out i).mono ?_
          rintro e w' ⟨rfl, rfl⟩
          rw [hh'.out]
          go_wp2_with fail
          go_ret
          exact HP.out
        · go_enter Try.func13, Try.ntmps13
          go_wp2_with fail
          refine (lMade_any w q p g first hs HS.out).mono ?_
          rintro e w' ⟨rfl, rfl⟩
          go_wp2_with fail
          refine (lHas_any w q p g first hs HS.out i).mono ?_
          rintro e w' ⟨rfl, rfl⟩
          rw [hh'.out]
          go_wp2_with fail
          go_ret
          exact HP.out
    · have t0 : ¬ (40 : Int) < (key.length : Int) := by omega
      have t1 : ¬ (448 : Int) < (b.length : Int) := by omega
      cases hu : usedS hs i with
      | true =>
        have ee : putE hs first s i key b = 7 := by simp only [putE, hh, hl, hu, if_true]; simp
        have eo : putOk hs i key b = false := by simp [putOk, hu]
        have PP := SAME.out eo
        rw [ee] at PP ⊢
        have HP := hid PP
        have hh' := hid hh
        have HU := hid hu
        clear hh ee eo PP SAME hl hu
        go_enter Try.func13, Try.ntmps13
        go_wp2_with fail
        refine (lMade_any w q p g first hs HS.out).mono ?_
        rintro e w' ⟨rfl, rfl⟩
        go_wp2_with fail
        refine (lHas_any w q p g first hs HS.out i).mono ?_
        rintro e w' ⟨rfl, rfl⟩
        rw [hh'.out]
        go_wp2_with fail
        refine (lUsed_any w q p g first hs HS.out i).mono ?_
        rintro e w' ⟨rfl, rfl⟩
        rw [HU.out]
        go_wp2_with fail
        go_ret
        exact HP.out
      | false =>
        obtain ⟨k, rfl⟩ : ∃ k : Nat, i = k := by
          simp [hasS] at hh
          exact Int.eq_ofNat_of_zero_le hh.1
        have hk : k < hs.length := by simp [hasS] at hh; omega
        obtain ⟨bg, hbg⟩ : ∃ x, x = first + k * 8 := ⟨_, rfl⟩
        have ee : putE hs first s k key b = deadE (putD s bg key b) := by simp only [putE, hh, hl, hu, hbg, if_false, Int.toNat_natCast]; simp
        have eo : putOk hs k key b = true := by simp [putOk, hu, hh]; omega
        have es : putS hs first s k key b = putD s bg key b := by simp only [putS, eo, hbg, if_true, Int.toNat_natCast]
        have eh : putH hs first s k key b = if (putD s bg key b).dead then hs else hs.set k ⟨true, b.length, key⟩ := by
          simp only [putH, eo, hbg, Bool.true_and, Int.toNat_natCast]
          cases (putD s (first + k * 8) key b).dead <;> rfl
        rw [ee, es, eh]
        have hh' := hid hh
        have HU := hid hu
        have hkl : key.length ≤ 40 := by omega
        have hbl : b.length ≤ 448 := by omega
        clear hh ee eo es eh SAME hl hu
        have okh : Hd.Ok ⟨true, b.length, key⟩ := ⟨hkl, HKR.out.bytes, hbl, fun h => by cases h⟩
        have HOK := hid okh
        clear okh
        obtain ⟨m, dm⟩ := HH.out.dk.dm
        have DMH := hid dm
        clear dm
        obtain ⟨s2, hs2⟩ : ∃ x, x = putD s bg key b := ⟨_, rfl⟩
        rw [← hs2]
        obtain ⟨hn, hhn⟩ : ∃ x, x = if s2.dead then hs else hs.set k ⟨true, b.length, key⟩ := ⟨_, rfl⟩
        rw [← hhn]
        have HHN := hid hhn
        clear hhn
        have HM := callsIn_wide.1 (hold_in 9 (by omega) w q p g first hs HS.out m s F K DMH.out (by omega) HH.out.hq HH.out.hg k bg hbg hk hfit hcnt _ b HBR.out HBO.out hbl)
        have hcs := holdS_cnt s (bg + 1) b
        have hpd : putD s bg key b = markS (holdS s (bg + 1) b) bg ⟨true, b.length, key⟩ := rfl
        rw [hpd] at hs2
        generalize holdS s (bg + 1) b = s1 at HM hcs hs2
        have HMH := hid HM
        have HS2 := hid hs2
        have HBG := hid hbg
        clear HM hpd hs2 hbg
        go_enter Try.func13, Try.ntmps13
        go_wp2_with fail
        refine (lMade_any w q p g first hs HS.out).mono ?_
        rintro e w' ⟨rfl, rfl⟩
        go_wp2_with fail
        refine (lHas_any w q p g first hs HS.out k).mono ?_
        rintro e w' ⟨rfl, rfl⟩
        rw [hh'.out]
        go_wp2_with fail
        refine (lUsed_any w q p g first hs HS.out k).mono ?_
        rintro e w' ⟨rfl, rfl⟩
        rw [HU.out]
        go_wp2_with fail
        refine HMH.out.mono ?_
        rintro e w3 ⟨rfl, F3, d3, k3, fr3⟩
        have hq3 : q ∉ F3 := fun hm => by rcases fr3 _ hm with h | h; exact HH.out.hq h; have := HS.out.ltq; omega
        have hg3 : g ∉ F3 := fun hm => by rcases fr3 _ hm with h | h; exact HH.out.hg h; have := HS.out.ltg; omega
        have S3 := hid (HS.out.keep k3 HH.out.hq HH.out.hg)
        have D3 := hid d3
        have K3 := hid k3
        have FR3 := hid fr3
        have cv := conv_row (HKR.out.keep k3 HKO.out)
        clear d3 k3 fr3
        rcases deadE_cases s1 with ⟨hd, he⟩ | ⟨hd, he⟩
        · rw [he]
          have E12 : Hid (s2 = s1) := hid (by rw [HS2.out, markS_dead hd])
          have HD1 := hid hd
          clear hd he cv
          go_wp2_with fail
          go_ret
          have e12 := E12.out
          have ehn := HHN.out
          subst e12
          rw [if_pos HD1.out] at ehn
          subst ehn
          exact ⟨by simp [deadE, HD1.out], F3, ⟨S3.out, D3.out.mono (by omega), hq3, hg3, by omega⟩, K3.out.mono (by intro k _ hk; simp [hk]), FR3.out⟩
        · rw [he]
          clear hd he
          obtain ⟨m3, dm3⟩ := D3.out.dm
          have MK := lMark_any w3 q p g first hs S3.out m3 s1 F3 (K + 20) dm3 (by omega) hq3 hg3 k bg HBG.out hk (by omega) (by omega) ⟨true, b.length, key⟩ HOK.out
          rw [← HS2.out] at MK
          unfold MarkPost at MK
          rw [← HHN.out] at MK
          have MKH := hid MK
          clear MK dm3
          go_wp2_with fail
          refine MKH.out.mono ?_
          rintro e w4 ⟨rfl, F4, d4, s4, k4, fr4⟩
          have D4 := hid d4
          have S4 := hid s4
          have K4 := hid k4
          have FR4 := hid fr4
          clear d4 s4 k4 fr4
          go_wp2_with fail
          go_ret
          have z3 := K3.out.size
          have hc2 : s2.cnt = s1.cnt := by rw [HS2.out, markS_cnt]
          have hl2 : hn.length = hs.length := by
            rw [HHN.out]
            split
            · rfl
            · rw [List.length_set]
          refine ⟨rfl, F4, ⟨S4.out, D4.out, fun hm => ?_, fun hm => ?_, ?_⟩, ?_, fun j hj => ?_⟩
          · rcases FR4.out _ hm with h | h
            · exact hq3 h
            · have := HS.out.ltq; omega
          · rcases FR4.out _ hm with h | h
            · exact hg3 h
            · have := HS.out.ltg; omega
          · omega
          · refine (K3.out.mono (by intro k _ hk; simp [hk])).trans' K4.out (fun j hj hm => ?_)
            simp only [List.mem_cons] at hm ⊢
            rcases hm with hm | hm
            · exact .inl hm
            · rcases FR3.out _ hm with h | h
              · exact .inr h
              · omega
          · rcases FR4.out _ hj with h | h
            · exact FR3.out _ h
            · exact .inr (by omega)
  · have hh2 : hasS hs i = false := by simpa using hh
    have ee : putE hs first s i key b = 1 := by simp only [putE, hh2, if_true]
    have eo : putOk hs i key b = false := by simp [putOk, hh2]
    have PP := SAME.out eo
    rw [ee] at PP ⊢
    have HP := hid PP
    have hh' := hid hh2
    clear hh hh2 ee eo PP SAME
    go_enter Try.func13, Try.ntmps13
    go_wp2_with fail
    refine (lMade_any w q p g first hs HS.out).mono ?_
    rintro e w' ⟨rfl, rfl⟩
    go_wp2_with fail
    refine (lHas_any w q p g first hs HS.out i).mono ?_
    rintro e w' ⟨rfl, rfl⟩
    rw [hh'.out]
    go_wp2_with fail
    go_ret
    exact HP.out

end Go.Proofs.Ytiljhjegfklgmaa


/- Slots: Get. -/
namespace Go.Proofs.Ytiljhjegfklgmaa
open Go.RowKit Go.Shelf
attribute [local go_sem] Oper.semAt_some

theorem lWell_any (w : World) (p : Nat) (s : DS) (F : List Nat) (K : Nat) (D : DiskAt w p s F K) :
    Calls Try.prog 26 #[.pointer (some ⟨p, 0, none⟩)] w fun e w' => e = .returned (.bool (!s.dead)) ∧ Keeps [] w w' := by
  have HD := hid D
  have he : readE s 0 = deadE s := by
    have := D.1.lo
    unfold readE deadE
    cases s.dead
    · simp; omega
    · simp
  have RD := readAt_any w p s F K D 0
  rw [he] at RD
  have RDH := hid RD
  clear RD D he
  cases hd : s.dead with
  | true =>
    have e14 : deadE s = 14 := by simp [deadE, hd]
    have HE := hid e14
    clear hd e14
    go_enter Try.func26, Try.ntmps26
    go_wp2_with fail
    refine RDH.out.mono ?_
    rw [HE.out]
    rintro e w' ⟨v, rfl, -, -, k⟩
    have K1 := hid k
    clear k
    go_wp2_with fail
    go_ret
    exact ⟨rfl, K1.out⟩
  | false =>
    have e0 : deadE s = 0 := by simp [deadE, hd]
    have HE := hid e0
    clear hd e0
    go_enter Try.func26, Try.ntmps26
    go_wp2_with fail
    refine RDH.out.mono ?_
    rw [HE.out]
    rintro e w' ⟨v, rfl, -, -, k⟩
    have K1 := hid k
    clear k
    go_wp2_with fail
    go_ret
    exact ⟨rfl, K1.out⟩

section
variable {P : Program} {ops : Array Oper} {Q : Exit → Act → World → Prop}
theorem at_op {i : Nat} {o : Oper} {a : Act} {w : World} {K : Act → World → Prop} (ho' : ops.toList[i]? = some o) (hg : o.guard = none) (h : o.wp P a w K Q) : wpOp P ops Q i K a w := by
  have ho : ops[i]? = some o := by simpa using ho'
  have hw : Region.wanted o (yielded ops a.tmps) = true := by simp [Region.wanted, hg]
  unfold wpOp
  simp only [ho, hw, if_true]
  exact Or.inl h
theorem wp_stored {o : Oper} {a : Act} {w w' : World} {K : Act → World → Prop} (hrun : (execOp a.eval o).run P w = .ok .skip w') (h : K (a.put o.dst undef) w') : o.wp P a w K Q := by
  unfold Oper.wp
  rw [hrun]
  exact h
end
theorem exec_mk {ρ : Operand → Value} {o : Oper} {w w' : World} {t : TypeId} {u v r : Value} (x y : Operand) (ho : o.op = .makeSlice t x y) (hx : ρ x = u) (hy : ρ y = v) (h : (Instr.makeSlice t u v).run Try.prog w = .ok r w') : (execOp ρ o).run Try.prog w = .ok (.value r) w' := by
  simp [execOp, ho, hx, hy, h, Result.andThen]

def getE (hs : List Hd) (s : DS) (i : Int) : Int := if takeE hs i = 0 then deadE s else takeE hs i

/-- The bytes read, part by part. -/
def fillC (s : DS) (bg hl : Nat) (pre : List Nat) : List Int := pre.zipIdx.foldl (fun c x => splice c (x.1 * 64) ((s.now (bg + 1 + x.2)).1.take (csz hl x.1))) (List.replicate hl 0)
theorem fillC_nil (s : DS) (bg hl : Nat) : fillC s bg hl [] = List.replicate hl 0 := rfl
theorem fillC_snoc (s : DS) (bg hl : Nat) (pre : List Nat) (x : Nat) : fillC s bg hl (pre ++ [x]) = splice (fillC s bg hl pre) (x * 64) ((s.now (bg + 1 + pre.length)).1.take (csz hl x)) := by
  simp [fillC, List.zipIdx_append]
theorem fillC_len (s : DS) (bg hl : Nat) (pre : List Nat) (h : ∀ x ∈ pre, x < nch hl) : (fillC s bg hl pre).length = hl := by
  unfold fillC
  have key : ∀ (l : List (Nat × Nat)) (c : List Int), c.length = hl → (∀ x ∈ l, x.1 < nch hl) → (l.foldl (fun c x => splice c (x.1 * 64) ((s.now (bg + 1 + x.2)).1.take (csz hl x.1))) c).length = hl := by
    intro l
    induction l with
    | nil => intro c hc _; exact hc
    | cons x l ih =>
      intro c hc hx
      rw [List.foldl_cons]
      refine ih _ ?_ (fun y hy => hx y (by simp [hy]))
      have := hx x (by simp)
      rw [length_splice _ _ _ (by rw [List.length_take, (s.now _).2.1, hc]; unfold nch at this; unfold csz; omega), hc]
  refine key _ _ (by simp) (fun x hx => ?_)
  have := List.fst_mem_of_mem_zipIdx hx
  exact h _ this
theorem fillC_at (s : DS) (bg hl : Nat) : ∀ k, k ≤ nch hl → fillC s bg hl (List.range k) = (imageL (fun j => s.now (bg + 1 + j)) k).take hl ++ List.replicate (hl - k * 64) 0
  | 0, _ => by simp [fillC, imageL]
  | k + 1, h => by
    have hk : k * 64 < hl := by unfold nch at h; omega
    have hI := imageL_len (fun j => s.now (bg + 1 + j)) k
    rw [List.range_succ, fillC_snoc, fillC_at s bg hl k (by omega), List.length_range]
    have hrow := (s.now (bg + 1 + k)).2.1
    rw [List.take_of_length_le (by omega)]
    have e1 : (imageL (fun j => s.now (bg + 1 + j)) (k + 1)) = imageL (fun j => s.now (bg + 1 + j)) k ++ (s.now (bg + 1 + k)).1 := by
      unfold imageL
      rw [List.range_succ, List.flatMap_append]
      simp
    rw [e1]
    generalize imageL (fun j => s.now (bg + 1 + j)) k = A at hI ⊢
    generalize (s.now (bg + 1 + k)).1 = R at hrow ⊢
    unfold splice
    have d1 : (A ++ List.replicate (hl - k * 64) (0 : Int)).take (k * 64) = A := by rw [List.take_append_of_le_length (by omega), List.take_of_length_le (by omega)]
    have hc : (R.take (csz hl k)).length = csz hl k := by rw [List.length_take, hrow]; unfold csz; omega
    have d2 : (A ++ List.replicate (hl - k * 64) (0 : Int)).drop (k * 64 + csz hl k) = List.replicate (hl - (k + 1) * 64) 0 := by
      rw [List.drop_append, List.drop_eq_nil_of_le (by omega), List.nil_append, List.drop_replicate]
      congr 1
      unfold csz
      omega
    have d3 : (A ++ R).take hl = A ++ R.take (csz hl k) := by
      rw [List.take_append, List.take_of_length_le (by omega), hI]
      congr 1
      unfold csz
      by_cases h2 : hl - k * 64 ≤ 64
      · congr 1; omega
      · rw [List.take_of_length_le (by omega), List.take_of_length_le (by omega)]
    rw [d1, hc, d2, d3, List.append_assoc]
/-- The bytes that a slot holds. -/
def getB (s : DS) (bg hl : Nat) : List Int := (imageL (fun j => s.now (bg + 1 + j)) 7).take hl
theorem getB_byte (s : DS) (bg hl : Nat) : ∀ z ∈ getB s bg hl, 0 ≤ z ∧ z ≤ 255 := fun z hz => imageL_byte _ _ z (List.mem_of_mem_take hz)
theorem loadSl_var {w : World} {b : Nat} {a : Option Addr} {n c : Nat} (hb : w.cell? ⟨b, 0, none⟩ = some (.slice a n c)) : (loadVar 31 ⟨b, 0, none⟩).run Try.prog w = .ok (.slice a n c) w := by
  simp [loadVar, agg_no 31 (by kernel_rfl), hb, Result.andThen]
theorem imageL_take (f : Nat → Row) (k hl : Nat) (h : hl ≤ k * 64) : ∀ d, (imageL f (k + d)).take hl = (imageL f k).take hl
  | 0 => rfl
  | d + 1 => by
    rw [← imageL_take f k hl h d, show k + (d + 1) = k + d + 1 from rfl]
    have e : imageL f (k + d + 1) = imageL f (k + d) ++ (f (k + d)).1 := by
      unfold imageL
      rw [List.range_succ, List.flatMap_append]
      simp
    rw [e, List.take_append_of_le_length (by rw [imageL_len]; omega)]
theorem fillC_range (s : DS) (bg hl : Nat) (h : hl ≤ 448) : fillC s bg hl (List.range (nch hl)) = getB s bg hl := by
  rw [fillC_at s bg hl _ (Nat.le_refl _)]
  have e : hl - nch hl * 64 = 0 := by unfold nch; omega
  rw [e, List.replicate_zero, List.append_nil, getB]
  have h7 : nch hl + (7 - nch hl) = 7 := by unfold nch; omega
  rw [← h7, imageL_take _ _ _ (by unfold nch; omega)]

set_option maxRecDepth 100000 in
set_option maxHeartbeats 6400000 in
theorem get_in (n : Nat) (hn : 4 ≤ n) (w : World) (q p g first : Nat) (hs : List Hd) (s : DS) (F : List Nat) (K : Nat) (H : SlAt w q p g first hs s F K) (k bg : Nat) (hbg : bg = first + k * 8) (hk : k < hs.length) (hu : hs[k].used = true) (hd : s.dead = false) :
    CallsIn Fence.wide n Try.prog 14 #[.pointer (some ⟨q, 0, none⟩), .int .i64 k] w fun e w' => ∃ v, e = .returned (.tuple #[v, .int .i64 0]) ∧ RowAt w' v (getB s bg hs[k].held) ∧ NewV w v ∧ Keeps [] w w' := by
  have h1 : 1 ≤ n := by omega
  have HH := hid H
  have HS := hid H.sl
  have HD := hid H.dk
  have hcnt := H.cnt
  have hfit := H.fit
  have hq0 := H.sl.ltq
  have ht : takeE hs k = 0 := by
    have h2 : hasS hs k = true := by simp [hasS, hk]
    simp only [takeE, usedS, headS_at hk, h2, hu, if_true]
  have HT := hid ht
  have HDD := hid hd
  clear H hu hd ht
  refine callsIn_of_wp_marks Try.func14 rfl trivial ?_ rfl
  simp only [Try.ntmps14, List.size_toArray, List.length_cons, List.length_nil, Nat.reduceAdd, Nat.reduceSub, Array.replicate_succ, Array.replicate_zero, List.push_toArray, List.append_toArray, List.nil_append, List.cons_append]
  gi_wp2
  have kA : Keeps [] w (((w.alloc (.cells #[.pointer (some ⟨q, 0, none⟩)] 34)).alloc (.cells #[.slice none 0 0] 31)).alloc (.cells #[.int .i64 0] 25)) := (((Keeps.refl [] w).alloc _).alloc _).alloc _
  have zA : (((w.alloc (.cells #[.pointer (some ⟨q, 0, none⟩)] 34)).alloc (.cells #[.slice none 0 0] 31)).alloc (.cells #[.int .i64 0] 25)).heap.size = w.heap.size + 3 := by simp
  have b0 : (((w.alloc (.cells #[.pointer (some ⟨q, 0, none⟩)] 34)).alloc (.cells #[.slice none 0 0] 31)).alloc (.cells #[.int .i64 0] 25)).heap[w.heap.size]? = some (.cells #[.pointer (some ⟨q, 0, none⟩)] 34 (0, 0)) := (Below.heap_alloc _ _ _ (by simp; omega)).trans ((Below.heap_alloc _ _ _ (by simp)).trans (heap_alloc_new w _))
  have b1 : (((w.alloc (.cells #[.pointer (some ⟨q, 0, none⟩)] 34)).alloc (.cells #[.slice none 0 0] 31)).alloc (.cells #[.int .i64 0] 25)).heap[w.heap.size + 1]? = some (.cells #[.slice none 0 0] 31 (0, 0)) := by
    refine (Below.heap_alloc _ _ _ (by simp)).trans ?_
    exact heap_alloc2_new w _ _
  have b2 : (((w.alloc (.cells #[.pointer (some ⟨q, 0, none⟩)] 34)).alloc (.cells #[.slice none 0 0] 31)).alloc (.cells #[.int .i64 0] 25)).heap[w.heap.size + 2]? = some (.cells #[.int .i64 0] 25 (0, 0)) := by
    have := heap_alloc_new ((w.alloc (.cells #[.pointer (some ⟨q, 0, none⟩)] 34)).alloc (.cells #[.slice none 0 0] 31)) (.cells #[.int .i64 0] 25)
    simpa using this
  generalize ((w.alloc (.cells #[.pointer (some ⟨q, 0, none⟩)] 34)).alloc (.cells #[.slice none 0 0] 31)).alloc (.cells #[.int .i64 0] 25) = wA at kA zA b0 b1 b2 ⊢
  have SA := hid (HS.out.keep kA (by simp) (by simp))
  have DA := hid (HD.out.keep kA (by simp))
  have TK := lTake_any wA q p g first hs SA.out k
  rw [HT.out] at TK
  refine ⟨trivial, (callsIn_wide.2 TK).mono ?_⟩
  rintro e w1 ⟨rfl, rfl⟩
  have c0 : wA.cell? ⟨w.heap.size, 0, none⟩ = some (.pointer (some ⟨q, 0, none⟩)) := cell_of_row _ _ 0 _ _ (0, 0) b0
  have cq0 := SA.out.c0
  have WL := lWell_any wA p s F K DA.out
  rw [HDD.out] at WL
  have WLH := hid WL
  clear TK WL
  gi_wp2
  refine ⟨trivial, (callsIn_wide.2 WLH.out).mono ?_⟩
  rintro e w1 ⟨rfl, kW⟩
  have K1 := hid (kA.trans kW)
  have z1 : wA.heap.size ≤ w1.heap.size := kW.size
  have B0 := hid ((kW.block _ (lt_of_block b0) (by simp)).trans b0)
  have B1 := hid ((kW.block _ (lt_of_block b1) (by simp)).trans b1)
  have B2 := hid ((kW.block _ (lt_of_block b2) (by simp)).trans b2)
  have S1 := hid (HS.out.keep K1.out (by simp) (by simp))
  have D1 := hid (HD.out.keep K1.out (by simp))
  clear kW b0 b1 b2 c0 cq0 SA DA WLH kA
  gi_wp2
  rename_i KK hKK
  obtain ⟨hl, hhl⟩ : ∃ x, x = hs[k].held := ⟨_, rfl⟩
  have hl448 : hl ≤ 448 := by rw [hhl]; exact (HS.out.ok _ (List.getElem_mem hk)).held
  have hmk : ∀ w, (Instr.makeSlice 31 (.int .i64 hl) (.int .i64 hl)).run Try.prog w = .ok (.slice (some ⟨w.heap.size, 0, none⟩) hl hl) (w.alloc (.cells (madeCells #[.int .u8 0] hl) 5)) := fun w =>
    run_make_row' (P := Try.prog) 31 5 (.int .u8 0) 1 Try.underlying31 info5 rfl .i64 .i64 hl (by omega) (by omega) w
  have LB : ∀ W, SlotsAt W q p g first hs → Calls Try.prog 28 #[.pointer (some ⟨q, 0, none⟩), .int .i64 k] W fun e w' => e = .returned (.int .i64 bg) ∧ W = w' := fun W hW => by
    have := lBegin_any W q p g first hs hW k (by omega) (by omega)
    rw [← hbg] at this
    exact this
  have hlt : (k : Int) < (hs.length : Int) := by omega
  have hbgl : bg + 8 ≤ s.cnt := by omega
  have HL := hid hhl
  have HMK := hid hmk
  have HLB := hid LB
  clear hmk LB hbg
  refine wpIn_wide.2 (wp_region_noPanic (wp_region_any (by kernel_rfl) (wpAny_of_held (S := KpS [] w1.heap.size w1.drew) _ _ _ _ ?_)))
  change wpAnyH _ _ _ _ _ _ _ _ w1.drew
  have c0 : ∀ W1, KpS [] w1.heap.size w1.drew W1 → W1.cell? ⟨w.heap.size, 0, none⟩ = some (.pointer (some ⟨q, 0, none⟩)) := fun W1 h => h.cell (by rw [World.cell?_drew]; exact cell_of_row _ _ 0 _ _ (0, 0) B0.out) (by omega) (by simp)
  have cq : ∀ W1, KpS [] w1.heap.size w1.drew W1 → W1.cell? ⟨q, 2, none⟩ = some (.slice (some ⟨g, 0, none⟩) hs.length hs.length) := fun W1 h => h.cell (by rw [World.cell?_drew]; exact S1.out.c2) (by have := K1.out.size; omega) (by simp)
  have ch : ∀ W1, KpS [] w1.heap.size w1.drew W1 → W1.cell? ⟨g, k * 3 + 1, none⟩ = some (.int .i64 hl) := fun W1 h => h.cell (by rw [World.cell?_drew, hhl]; exact S1.out.n k hk) S1.out.ltg (by simp)
  clear hhl
  have kS : ∀ W1, KpS [] w1.heap.size w1.drew W1 → SlotsAt W1 q p g first hs := fun W1 h => S1.out.keep (w' := W1) (S := []) ⟨h.os, h.tape, h.output, h.size, fun j hj hm => h.block j hj hm⟩ (by simp) (by simp)
  -- what stands behind the region, wherever the two new blocks lie
  have KEY : ∀ (bs bn : Nat) (W : World), w1.heap.size ≤ bs → w1.heap.size ≤ bn → bs ≠ bn → KpS [] w1.heap.size w1.drew W → W.heap[bs]? = some (.cells (madeCells #[.int .u8 0] hl) 5 (0, 0)) → W.heap[bn]? = some (.cells #[.int .i64 ((bg : Int) + 1)] 3 (0, 0)) → KK { tmps := #[.pointer (some ⟨q, 0, none⟩), .int .i64 k, .pointer (some ⟨w.heap.size, 0, none⟩), undef, .pointer (some ⟨w.heap.size + 1, 0, none⟩), .pointer (some ⟨w.heap.size + 1 + 1, 0, none⟩), .int .i64 0, .slice (some ⟨bs, 0, none⟩) hl hl, .pointer (some ⟨bn, 0, none⟩), undef, undef, undef, .pointer (some ⟨q, 0, none⟩), .int .i64 k, .int .i64 0, .int .i64 0, .bool false, undef, .pointer (some ⟨q, 0, none⟩), .pointer (some ⟨q, 0, none⟩), .pointer (some ⟨q, 0, none⟩), .pointer (some ⟨p, 0, none⟩), .bool true, .bool false, .pointer (some ⟨q, 0, none⟩), .pointer (some ⟨q, 0, none⟩), .pointer (some ⟨q, 2, none⟩), .slice (some ⟨g, 0, none⟩) hs.length hs.length, .int .i64 k, .pointer (some ⟨g, k * 3, none⟩), .pointer (some ⟨g, k * 3 + 1, none⟩), .int .i64 hl, .slice (some ⟨bs, 0, none⟩) hl hl, .pointer (some ⟨q, 0, none⟩), .int .i64 k, .int .i64 bg, .int .i64 ((bg : Int) + 1), undef, undef, undef, undef, undef, undef, undef, undef, undef, undef, undef, undef, undef, undef, undef, undef, undef, undef, undef, undef, undef], defers := [] } W := by
    intro bs bn W hbs1 hbn1 hne kw hbs hbn
    clear HMK HLB c0 cq ch
    refine hKK _ _ ?_
    clear hKK
    gi_wp2
    refine ⟨trivial, (callsIn_wide.2 (chunk_any W (some ⟨bs, 0, none⟩) hl hl)).mono ?_⟩
    rintro e w3 ⟨rfl, rfl⟩
    gi_wp2
    have hzW : bs < W.heap.size ∧ bn < W.heap.size := ⟨lt_of_block hbs, lt_of_block hbn⟩
    have kC : Keeps [] W ((W.alloc (.cells #[.slice (some ⟨bs, 0, none⟩) hl hl] 31)).alloc (.cells #[.int .i64 64] 3)) := ((Keeps.refl [] W).alloc _).alloc _
    have z3 : ((W.alloc (.cells #[.slice (some ⟨bs, 0, none⟩) hl hl] 31)).alloc (.cells #[.int .i64 64] 3)).heap.size = W.heap.size + 2 := by simp
    have q1 := cell_of_row _ _ 0 _ _ (0, 0) (heap_alloc2_old W (.cells #[.slice (some ⟨bs, 0, none⟩) hl hl] 31) (.cells #[.int .i64 64] 3))
    have q2 := cell_of_row _ _ 0 _ _ (0, 0) (heap_alloc2_new W (.cells #[.slice (some ⟨bs, 0, none⟩) hl hl] 31) (.cells #[.int .i64 64] 3))
    have hs3 := (kC.block bs hzW.1 (by simp)).trans hbs
    have hn3 := (kC.block bn hzW.2 (by simp)).trans hbn
    have kw3 : Keeps [] w1 ((W.alloc (.cells #[.slice (some ⟨bs, 0, none⟩) hl hl] 31)).alloc (.cells #[.int .i64 64] 3)) := (show Keeps [] w1 W from ⟨kw.os, kw.tape, kw.output, kw.size, fun j hj hm => kw.block j hj hm⟩).trans kC
    have hW1 : w1.heap.size ≤ W.heap.size := kw.size
    generalize (W.alloc (.cells #[.slice (some ⟨bs, 0, none⟩) hl hl] 31)).alloc (.cells #[.int .i64 64] 3) = w3 at kC z3 q1 q2 hs3 hn3 kw3 ⊢
    have h13 := K1.out.size
    have k3 : Keeps [] w w3 := K1.out.trans kw3
    have K3 := hid k3
    have D3 := hid (HD.out.keep k3 (by simp))
    have S3 := hid (HS.out.keep k3 (by simp) (by simp))
    have x0 := (kw3.block w.heap.size (lt_of_block B0.out) (by simp)).trans B0.out
    have x1 := (kw3.block (w.heap.size + 1) (lt_of_block B1.out) (by simp)).trans B1.out
    have x2 := (kw3.block (w.heap.size + 2) (lt_of_block B2.out) (by simp)).trans B2.out
    have hlB : w.heap.size + 2 < w1.heap.size := lt_of_block B2.out
    have lF : ∀ j ∈ F, j < w.heap.size := fun j hj => by obtain ⟨m, dm⟩ := HD.out.dm; exact dm.lt j hj
    have hb3 : W.heap.size < w3.heap.size ∧ W.heap.size ∉ [bs, bn] := ⟨by omega, by simp; omega⟩
    have hb4 : W.heap.size + 1 < w3.heap.size ∧ W.heap.size + 1 ∉ [bs, bn] := ⟨by omega, by simp; omega⟩
    have HC := hid (chunkP_stops (n - 1) (by omega) W.heap.size (W.heap.size + 1) bs 0 hl w3.heap.size hl (some ⟨bs, 0, none⟩) [bs, bn] (by omega) (Nat.le_refl _) (fun _ => rfl) w3 q1 q2 hb3 hb4)
    have h7 : nch hl ≤ 7 := by unfold nch; omega
    refine wpIn_rangeFunc_ownH rfl h1 (gf := 58) (lb := #[.pointer (some ⟨W.heap.size, 0, none⟩), .pointer (some ⟨W.heap.size + 1, 0, none⟩)]) rfl trivial (fun _ _ => rfl) HC.out KpS.trans (KpS.putObj (Nat.le_refl _)) (Below.refl _ _) (fun _ => rfl)
      (fun pre W => KpS [bs, bn] w3.heap.size w3 W ∧ pre.length ≤ nch hl ∧ W.heap[bn]? = some (.cells #[.int .i64 ((bg : Int) + 1 + pre.length)] 3 (0, 0)) ∧ W.heap[bs]? = some (.cells ((fillC s bg hl (pre.map (·.1))).map (Value.int .u8)).toArray 5 (0, 0)))
      (fun _ _ _ => False)
      ?own (fun _ _ _ _ _ hs _ _ => hs) ⟨KpS.refl _ _ _, by simp, by rw [hn3]; simp, by rw [hs3]; congr 2; apply Array.ext'; simpa [fillC] using made_zero hl⟩
      (fun x a' W' => a' = { tmps := #[.pointer (some ⟨q, 0, none⟩), .int .i64 k, .pointer (some ⟨w.heap.size, 0, none⟩), undef, .pointer (some ⟨w.heap.size + 1, 0, none⟩), .pointer (some ⟨w.heap.size + 1 + 1, 0, none⟩), .int .i64 0, .slice (some ⟨bs, 0, none⟩) hl hl, .pointer (some ⟨bn, 0, none⟩), .slice (some ⟨bs, 0 + x.1 * 64, none⟩) (csz hl x.1) (csz hl x.1), undef, undef, .pointer (some ⟨q, 0, none⟩), .int .i64 k, .int .i64 0, .int .i64 0, .bool false, undef, .pointer (some ⟨q, 0, none⟩), .pointer (some ⟨q, 0, none⟩), .pointer (some ⟨q, 0, none⟩), .pointer (some ⟨p, 0, none⟩), .bool true, .bool false, .pointer (some ⟨q, 0, none⟩), .pointer (some ⟨q, 0, none⟩), .pointer (some ⟨q, 2, none⟩), .slice (some ⟨g, 0, none⟩) hs.length hs.length, .int .i64 k, .pointer (some ⟨g, k * 3, none⟩), .pointer (some ⟨g, k * 3 + 1, none⟩), .int .i64 hl, .slice (some ⟨bs, 0, none⟩) hl hl, .pointer (some ⟨q, 0, none⟩), .int .i64 k, .int .i64 bg, .int .i64 ((bg : Int) + 1), .slice (some ⟨bs, 0, none⟩) hl hl, .func (.func 58) #[] #[.pointer (some ⟨W.heap.size, 0, none⟩), .pointer (some ⟨W.heap.size + 1, 0, none⟩)], .slice (some ⟨bs, 0 + x.1 * 64, none⟩) (csz hl x.1) (csz hl x.1), undef, undef, undef, undef, undef, undef, undef, undef, undef, undef, undef, undef, undef, undef, undef, undef, undef, undef], defers := [] })
      (fun _ _ => fun _ _ _ _ hs _ _ => hs) ?assign ?body ?done ?stop
    case own =>
      rintro pre A B' row ⟨h1, h2, h4, h5⟩ hg hr
      have hlow : ∀ k, k < w3.heap.size → B'.heap[k]? = A.heap[k]? := fun k hk => hg.block k (by have := h1.size; omega) (fun e => by have := (hr k e.symm).1; omega)
      exact ⟨h1.trans ⟨hg.os, hg.tape, hg.output, hg.size, fun k hk _ => hlow k hk⟩, h2, (hlow _ (by omega)).trans h4, (hlow _ (by omega)).trans h5⟩
    case assign =>
      rintro l pre x W' K' hI hC
      refine round_plain (by kernel_rfl) noOut_then ?_
      simp only [List.zip_toArray, List.zip_cons_cons, List.zip_nil_right, List.foldl_toArray, List.foldl_cons, List.foldl_nil, List.setIfInBounds_toArray, List.set_cons_zero, List.set_cons_succ]
      refine wpList_is rfl (.slice (some ⟨bs, 0 + x.1 * 64, none⟩) (csz hl x.1) (csz hl x.1)) W' rfl ?_
      simp only [Act.put, List.setIfInBounds_toArray, List.set_cons_zero, List.set_cons_succ]
      refine wpList_nil ?_
      exact hC _ _ ⟨Nat.le_refl _, fun k o _ hk _ => hk⟩ (KpS.refl _ _ _) hI rfl
    case body =>
      rintro l pre x a' W' hl2 _ ⟨hKp, hl', hB, hR⟩ rfl hlen
      have hx : x.1 * 64 < hl := by have := x.2; unfold nch at this; omega
      have hsz := hKp.size
      refine wpIn_block (wpIn_seq (round_region (by kernel_rfl) (by kernel_rfl) (fun h => by obtain ⟨_, _, h⟩ := h; exact h) (wpAny_of_held (S := KpS [] W'.heap.size W'.drew) _ _ _ _ ?_)))
      have c0 : ∀ W1, KpS [] W'.heap.size W'.drew W1 → W1.cell? ⟨w.heap.size, 0, none⟩ = some (.pointer (some ⟨q, 0, none⟩)) := fun W1 h => h.cell (by rw [World.cell?_drew]; exact hKp.cell (cell_of_row _ _ 0 _ _ (0, 0) x0) (by omega) (by simp; omega)) (by omega) (by simp)
      have cq : ∀ W1, KpS [] W'.heap.size W'.drew W1 → W1.cell? ⟨q, 0, none⟩ = some (.pointer (some ⟨p, 0, none⟩)) := fun W1 h => h.cell (by rw [World.cell?_drew]; exact hKp.cell S3.out.c0 (by omega) (by simp; omega)) (by omega) (by simp)
      have cn : ∀ W1, KpS [] W'.heap.size W'.drew W1 → W1.cell? ⟨bn, 0, none⟩ = some (.int .i64 ((bg : Int) + 1 + pre.length)) := fun W1 h => h.cell (by rw [World.cell?_drew]; exact cell_of_row W' _ 0 _ _ (0, 0) hB) (by omega) (by simp)
      refine held_take (i := 0) (v := .pointer (some ⟨q, 0, none⟩)) rfl (by kernel_rfl) (by kernel_rfl) (by kernel_rfl) (fun _ _ _ h => h) rfl (fun W1 hW1 => exec_load _ _ _ _ rfl rfl (run_loadCell W1 _ _ _ (c0 W1 hW1) (agg_no _ (by kernel_rfl)))) (KpS.refl _ _ _) ?_
      simp only [Act.put, List.setIfInBounds_toArray, List.set_cons_zero, List.set_cons_succ]
      refine held_take (i := 1) (v := .pointer (some ⟨q, 0, none⟩)) rfl (by kernel_rfl) (by kernel_rfl) (by kernel_rfl) (fun _ _ _ h => h) rfl (fun W1 hW1 => by go_simp) (KpS.refl _ _ _) ?_
      simp only [Act.put, List.setIfInBounds_toArray, List.set_cons_zero, List.set_cons_succ]
      refine held_take (i := 2) (v := .pointer (some ⟨q, 0, none⟩)) rfl (by kernel_rfl) (by kernel_rfl) (by kernel_rfl) (fun _ _ _ h => h) rfl (fun W1 hW1 => by go_simp) (KpS.refl _ _ _) ?_
      simp only [Act.put, List.setIfInBounds_toArray, List.set_cons_zero, List.set_cons_succ]
      refine held_take (i := 3) (v := .pointer (some ⟨p, 0, none⟩)) rfl (by kernel_rfl) (by kernel_rfl) (by kernel_rfl) (fun _ _ _ h => h) rfl (fun W1 hW1 => exec_load _ _ _ _ rfl rfl (run_loadCell W1 _ _ _ (cq W1 hW1) (agg_no _ (by kernel_rfl)))) (KpS.refl _ _ _) ?_
      simp only [Act.put, List.setIfInBounds_toArray, List.set_cons_zero, List.set_cons_succ]
      refine held_take (i := 4) (v := .int .i64 ((bg : Int) + 1 + pre.length)) rfl (by kernel_rfl) (by kernel_rfl) (by kernel_rfl) (fun _ _ _ h => h) rfl (fun W1 hW1 => exec_load _ _ _ _ rfl rfl (run_loadCell W1 _ _ _ (cn W1 hW1) (agg_no _ (by kernel_rfl)))) (KpS.refl _ _ _) ?_
      simp only [Act.put, List.setIfInBounds_toArray, List.set_cons_zero, List.set_cons_succ]
      have D4 : DiskAt W'.drew p s F K := D3.out.keep (hKp.toKeeps.drew) (by intro b hb hm; have := lF b hb; simp at hm; omega)
      have hpl : pre.length < 7 := by omega
      have eE : readE s ((bg : Int) + 1 + pre.length) = 0 := by
        unfold readE
        rw [HDD.out]
        simp only [Bool.false_eq_true, if_false]
        rw [if_pos (by omega)]
      have eB : readB s ((bg : Int) + 1 + pre.length) = (s.now (bg + 1 + pre.length)).1 := by
        unfold readB
        rw [HDD.out]
        have e2 : ((bg : Int) + 1 + pre.length).toNat = bg + 1 + pre.length := by omega
        rw [e2]
        simp
        omega
      have RD := readAt_any W'.drew p s F K D4 ((bg : Int) + 1 + pre.length)
      rw [eE, eB] at RD
      refine held_do (i := 5) (by kernel_rfl) rfl rfl (wp_enter (f := 27) (args := #[.pointer (some ⟨p, 0, none⟩), .int .i64 ((bg : Int) + 1 + pre.length)]) (by go_simp) (RD) ?_)
      rintro e W2 ⟨rv, rfl, rr, rn, k2⟩
      have kk : KpS [] W'.heap.size W'.drew W2 := (KpS.refl _ _ _).keeps k2 (Nat.le_refl _) (by simp)
      obtain ⟨ra, rc, rfl, _⟩ := id rr
      refine ⟨_, rfl, kk, ?_⟩
      simp only [Act.put, List.setIfInBounds_toArray, List.set_cons_zero, List.set_cons_succ]
      refine held_take (i := 6) (v := .tuple #[.slice ra (s.now (bg + 1 + pre.length)).1.length rc, .int .i64 0]) rfl (by kernel_rfl) (by kernel_rfl) (by kernel_rfl) (fun _ _ _ h => h) rfl (fun W1 hW1 => rfl) (kk) ?_
      simp only [Act.put, List.setIfInBounds_toArray, List.set_cons_zero, List.set_cons_succ]
      refine held_take (i := 7) (v := .slice ra (s.now (bg + 1 + pre.length)).1.length rc) rfl (by kernel_rfl) (by kernel_rfl) (by kernel_rfl) (fun _ _ _ h => h) rfl (fun W1 hW1 => by go_simp) (kk) ?_
      simp only [Act.put, List.setIfInBounds_toArray, List.set_cons_zero, List.set_cons_succ]
      refine held_take (i := 8) (v := .int .i64 0) rfl (by kernel_rfl) (by kernel_rfl) (by kernel_rfl) (fun _ _ _ h => h) rfl (fun W1 hW1 => by go_simp) (kk) ?_
      simp only [Act.put, List.setIfInBounds_toArray, List.set_cons_zero, List.set_cons_succ]
      refine held_take (i := 9) (v := .slice ra (s.now (bg + 1 + pre.length)).1.length rc) rfl (by kernel_rfl) (by kernel_rfl) (by kernel_rfl) (fun _ _ _ h => h) rfl (fun W1 hW1 => rfl) (kk) ?_
      simp only [Act.put, List.setIfInBounds_toArray, List.set_cons_zero, List.set_cons_succ]
      refine held_take (i := 10) (v := .int .i64 0) rfl (by kernel_rfl) (by kernel_rfl) (by kernel_rfl) (fun _ _ _ h => h) rfl (fun W1 hW1 => rfl) (kk) ?_
      simp only [Act.put, List.setIfInBounds_toArray, List.set_cons_zero, List.set_cons_succ]
      refine wpAnyH_done (by kernel_rfl) ?_ _
      obtain ⟨ad, rfl⟩ : ∃ ad, ra = some ad := by
        obtain ⟨g', off', cap', e, _⟩ := rr.open (by rw [(s.now _).2.1]; omega)
        injection e with e _ _
        exact ⟨_, e⟩
      have h64 : (s.now (bg + 1 + pre.length)).1.length = 64 := (s.now _).2.1
      rw [h64]
      obtain ⟨cur, hcur⟩ : ∃ c, c = fillC s bg hl (pre.map (·.1)) := ⟨_, rfl⟩
      have hcl : cur.length = hl := by rw [hcur]; exact fillC_len s bg hl _ (fun j hj => by obtain ⟨y, _, rfl⟩ := List.mem_map.1 hj; exact y.2)
      obtain ⟨row, hrow⟩ : ∃ r, r = (s.now (bg + 1 + pre.length)).1 := ⟨_, rfl⟩
      rw [← hrow] at rr h64
      have hR2 := (k2.block bs (show bs < W'.heap.size by omega) (by simp)).trans (show W'.drew.heap[bs]? = _ from hR)
      rw [← hcur] at hR2
      have hc1 : csz hl x.1 ≤ 64 ∧ x.1 * 64 + csz hl x.1 ≤ hl := by unfold csz; omega
      have hcp := run_copy_row (P := Try.prog) W2 31 31 3 5 bs (x.1 * 64) (csz hl x.1) (csz hl x.1) ad 64 rc _ 5 ((row.take (csz hl x.1)).map (Value.int .u8)) Try.underlying31 (by kernel_rfl) hR2
        (by rw [List.length_map, List.length_take, h64]; have e1 : Nat.min 64 (csz hl x.1) = csz hl x.1 := Nat.min_eq_right hc1.1
            rw [e1]; omega) (fun j v hv => by
          obtain ⟨a', c', e, _, _, _, _, h5⟩ := rr
          injection e with e _ _
          exact h5 ad e.symm j v (by
            rw [List.getElem?_map] at hv ⊢
            have hj : j < csz hl x.1 := by
              have := (List.getElem?_eq_some_iff.1 (show ((row.take (csz hl x.1)).map (Value.int .u8))[j]? = some v by rw [List.getElem?_map]; exact hv)).1
              simp at this; omega
            rw [List.getElem?_take_of_lt hj] at hv
            exact hv)) (by simp; omega) (fun v hv => by obtain ⟨z, _, rfl⟩ := List.mem_map.1 hv; rfl)
      have hlen2 : ((row.take (csz hl x.1)).map (Value.int .u8)).length = csz hl x.1 := by rw [List.length_map, List.length_take, h64]; omega
      obtain ⟨W3, hW3⟩ : ∃ X, X = W2.setRow bs (((cur.map (Value.int .u8)).toArray.toList.take (x.1 * 64) ++ ((row.take (csz hl x.1)).map (Value.int .u8)) ++ (cur.map (Value.int .u8)).toArray.toList.drop (x.1 * 64 + ((row.take (csz hl x.1)).map (Value.int .u8)).length)).toArray) := ⟨_, rfl⟩
      rw [← hW3, hlen2] at hcp
      have hs3' : W3.heap[bs]? = some (.cells ((fillC s bg hl ((pre ++ [x]).map (·.1))).map (Value.int .u8)).toArray 5 (0, 0)) := by
        rw [hW3, setRow_heap _ _ _ _ _ _ hR2]
        congr 3
        have hrow' : (s.now (bg + 1 + (pre.map (·.1)).length)).1 = row := by rw [List.length_map]; exact hrow.symm
        rw [List.map_append, List.map_cons, List.map_nil, fillC_snoc, hrow', ← hcur]
        simp only [splice, List.map_append, List.map_take, List.map_drop, List.append_assoc, List.length_take, List.length_map]
      have ho3 : ∀ j, j ≠ bs → W3.heap[j]? = W2.heap[j]? := fun j hj => by rw [hW3]; exact setRow_other _ _ _ _ hj
      have hz3 : W3.heap.size = W2.heap.size := by rw [hW3]; simp [World.setRow]
      have e3 : W3.os = W2.os ∧ W3.tape = W2.tape ∧ W3.output = W2.output := by rw [hW3]; exact ⟨rfl, rfl, rfl⟩
      have hB3 : W3.heap[bn]? = some (.cells #[.int .i64 ((bg : Int) + 1 + pre.length)] 3 (0, 0)) := (ho3 bn (fun e => hne e.symm)).trans ((k2.block bn (show bn < W'.heap.size by omega) (by simp)).trans (show W'.drew.heap[bn]? = _ from hB))
      have cn3 : W3.cell? ⟨bn, 0, none⟩ = some (.int .i64 ((bg : Int) + 1 + pre.length)) := cell_of_row _ _ 0 _ _ (0, 0) hB3
      have fn3 : W3.frozen? ⟨bn, 0, none⟩ = false := by simp [World.frozen?, hB3]
      have k4 : KpS [bs, bn] w3.heap.size W' W3 := ⟨e3.1.trans kk.os, e3.2.1.trans kk.tape, e3.2.2.trans kk.output, by have h1 : W'.heap.size ≤ W2.heap.size := kk.size; omega, fun j hj hs' => by
        simp at hs'
        rw [ho3 j hs'.1]
        exact kk.block j (by omega) (by simp)⟩
      have HP : Hid (∀ (l : Nat) (o : Obj), w3.heap.size ≤ l → W'.heap[l]? = some o → W3.heap[l]? = some o) := hid fun l o hl h0 => (ho3 l (by omega)).trans ((kk.block l (lt_of_block h0) (by simp)).trans h0)
      have HS3 := hid hs3'
      have HB3 := hid hB3
      have HK4 := hid k4
      have HKp := hid hKp
      have hlen1 : (pre ++ [x]).length = pre.length + 1 := by simp
      clear hs3' hB3 k4 hKp hR2 ho3 hz3 e3 hW3 kk k2 rr hcur hrow hcl hlen2 RD eE eB D4 c0 cq cn hR hB
      have Z3 := hid z3
      clear z3
      refine show Code.wpIn _ _ _ _ _ _ _ from ?_
      gi_wp2
      have z3 := Z3.out
      have hzz : W'.heap.size ≤ W3.heap.size := HK4.out.size
      refine ⟨⟨by simpa [World.setCell] using hzz, fun j o hj h0 _ => (Below.heap_setCell _ _ _ _ (show j ≠ bn by omega)).trans (HP.out j o hj h0)⟩, HK4.out.setCell _ _ _ (.inl (by simp)), HKp.out.trans (HK4.out.setCell _ _ _ (.inl (by simp))), by rw [hlen1]; omega, ?_, (Below.heap_setCell _ _ _ _ hne).trans HS3.out⟩
      rw [heap_setCell_same _ _ _ _ _ _ HB3.out, hlen1]
      simp
      omega
    case done =>
      rintro D ys W' hD hys ⟨hKp, hl', hB, hR⟩ hDD
      rw [hys, fillC_range _ _ _ (by omega)] at hR
      have hsz := hKp.size
      have x1' := (hKp.block (w.heap.size + 1) (by omega) (by simp; omega)).trans x1
      have x2' := (hKp.block (w.heap.size + 2) (by omega) (by simp; omega)).trans x2
      have c1 : W'.cell? ⟨w.heap.size + 1, 0, none⟩ = some (.slice none 0 0) := cell_of_row _ _ 0 _ _ (0, 0) x1'
      have f1 : W'.frozen? ⟨w.heap.size + 1, 0, none⟩ = false := by simp [World.frozen?, x1']
      have c2 : W'.cell? ⟨w.heap.size + 2, 0, none⟩ = some (.int .i64 0) := cell_of_row _ _ 0 _ _ (0, 0) x2'
      have f2 : W'.frozen? ⟨w.heap.size + 2, 0, none⟩ = false := by simp [World.frozen?, x2']
      have X1 := hid x1'
      have X2 := hid x2'
      have HR := hid hR
      have HKp := hid hKp
      have HDD := hid hDD
      clear x1' x2' hR hKp hDD hB hys
      have f2' : (W'.setCell ⟨w.heap.size + 1, 0, none⟩ (.slice (some ⟨bs, 0, none⟩) hl hl)).frozen? ⟨w.heap.size + 2, 0, none⟩ = false := by
        simp [World.frozen?, (Below.heap_setCell W' ⟨w.heap.size + 1, 0, none⟩ (.slice (some ⟨bs, 0, none⟩) hl hl) (w.heap.size + 2) (show w.heap.size + 2 ≠ w.heap.size + 1 by omega)).trans X2.out]
      have c2' : (W'.setCell ⟨w.heap.size + 1, 0, none⟩ (.slice (some ⟨bs, 0, none⟩) hl hl)).cell? ⟨w.heap.size + 2, 0, none⟩ = some (.int .i64 0) :=
        cell_of_row _ _ 0 _ _ (0, 0) ((Below.heap_setCell W' ⟨w.heap.size + 1, 0, none⟩ (.slice (some ⟨bs, 0, none⟩) hl hl) (w.heap.size + 2) (show w.heap.size + 2 ≠ w.heap.size + 1 by omega)).trans X2.out)
      gi_wp2
      have y1 : ((W'.setCell ⟨w.heap.size + 1, 0, none⟩ (.slice (some ⟨bs, 0, none⟩) hl hl)).setCell ⟨w.heap.size + 2, 0, none⟩ (.int .i64 0)).heap[w.heap.size + 1]? = some (.cells #[.slice (some ⟨bs, 0, none⟩) hl hl] 31 (0, 0)) :=
        (Below.heap_setCell _ _ _ _ (show w.heap.size + 1 ≠ w.heap.size + 2 by omega)).trans (heap_setCell_same _ _ _ _ _ _ X1.out)
      have y2 : ((W'.setCell ⟨w.heap.size + 1, 0, none⟩ (.slice (some ⟨bs, 0, none⟩) hl hl)).setCell ⟨w.heap.size + 2, 0, none⟩ (.int .i64 0)).heap[w.heap.size + 2]? = some (.cells #[.int .i64 0] 25 (0, 0)) :=
        heap_setCell_same _ _ _ _ _ _ ((Below.heap_setCell _ _ _ _ (show w.heap.size + 2 ≠ w.heap.size + 1 by omega)).trans X2.out)
      have yb : ((W'.setCell ⟨w.heap.size + 1, 0, none⟩ (.slice (some ⟨bs, 0, none⟩) hl hl)).setCell ⟨w.heap.size + 2, 0, none⟩ (.int .i64 0)).heap[bs]? = some (.cells ((getB s bg hl).map (Value.int .u8)).toArray 5 (0, 0)) :=
        (Below.heap_setCell _ _ _ _ (show bs ≠ w.heap.size + 2 by omega)).trans ((Below.heap_setCell _ _ _ _ (show bs ≠ w.heap.size + 1 by omega)).trans HR.out)
      have yD : ((W'.setCell ⟨w.heap.size + 1, 0, none⟩ (.slice (some ⟨bs, 0, none⟩) hl hl)).setCell ⟨w.heap.size + 2, 0, none⟩ (.int .i64 0)).heap[D]? = some (.deferred (some [])) :=
        (Below.heap_setCell _ _ _ _ (show D ≠ w.heap.size + 2 by omega)).trans ((Below.heap_setCell _ _ _ _ (show D ≠ w.heap.size + 1 by omega)).trans HDD.out)
      have yk : Keeps [] w ((W'.setCell ⟨w.heap.size + 1, 0, none⟩ (.slice (some ⟨bs, 0, none⟩) hl hl)).setCell ⟨w.heap.size + 2, 0, none⟩ (.int .i64 0)) :=
        ((K3.out.trans' HKp.out.toKeeps (fun j hj hm => by simp at hm; omega)).setCell (Or.inr (show w.heap.size ≤ w.heap.size + 1 by omega)) _).setCell (Or.inr (show w.heap.size ≤ w.heap.size + 2 by omega)) _
      refine ⟨by simp, .inl ⟨_, _, rfl, run_takeDeferred yD, ?_⟩⟩
      have hgl : (getB s bg hl).length = hl := by rw [getB, List.length_take, imageL_len]; omega
      refine ⟨_, results_cells2 rfl _ _ ⟨w.heap.size + 1, 0, none⟩ ⟨w.heap.size + 2, 0, none⟩ (.slice (some ⟨bs, 0, none⟩) hl hl) (.int .i64 0) rfl rfl
        (loadSl_var (cell_of_row _ _ 0 _ _ (0, 0) ((World.putObj_heap_other (by omega)).trans y1))) (loadErr_var (cell_of_row _ _ 0 _ _ (0, 0) ((World.putObj_heap_other (by omega)).trans y2))), _, rfl, ?_, ?_, yk.putObj (by omega) _⟩
      · rw [← HL.out]
        refine ⟨some ⟨bs, 0, none⟩, hl, by rw [hgl], by omega, by unfold maxLen; omega, by simp, getB_byte _ _ _, fun ad had j u hu => ?_⟩
        obtain rfl := Option.some.inj had
        rw [Addr.add_mid, Nat.zero_add, cell_of_row _ _ j _ _ (0, 0) ((World.putObj_heap_other (by omega)).trans yb)]
        simpa using hu
      · intro b hb
        injection hb with hb
        simp only at hb
        omega
    case stop =>
      rintro D c pre W' _ _ h _
      exact h.elim
  refine held_take (i := 0) (v := .pointer (some ⟨q, 0, none⟩)) rfl (by kernel_rfl) (by kernel_rfl) (by kernel_rfl) (fun _ _ _ h => h) rfl (fun W1 hW1 => exec_load _ _ _ _ rfl rfl (run_loadCell W1 _ _ _ (c0 W1 hW1) (agg_no _ (by kernel_rfl)))) (KpS.refl _ _ _) ?_
  simp only [Act.put, List.setIfInBounds_toArray, List.set_cons_zero, List.set_cons_succ]
  refine held_take (i := 1) (v := .pointer (some ⟨q, 0, none⟩)) rfl (by kernel_rfl) (by kernel_rfl) (by kernel_rfl) (fun _ _ _ h => h) rfl (fun W1 hW1 => by go_simp) (KpS.refl _ _ _) ?_
  simp only [Act.put, List.setIfInBounds_toArray, List.set_cons_zero, List.set_cons_succ]
  refine held_take (i := 2) (v := .pointer (some ⟨q, 2, none⟩)) rfl (by kernel_rfl) (by kernel_rfl) (by kernel_rfl) (fun _ _ _ h => h) rfl (fun W1 hW1 => by go_simp) (KpS.refl _ _ _) ?_
  simp only [Act.put, List.setIfInBounds_toArray, List.set_cons_zero, List.set_cons_succ]
  refine held_take (i := 3) (v := .slice (some ⟨g, 0, none⟩) hs.length hs.length) rfl (by kernel_rfl) (by kernel_rfl) (by kernel_rfl) (fun _ _ _ h => h) rfl (fun W1 hW1 => exec_load _ _ _ _ rfl rfl (run_loadCell W1 _ _ _ (cq W1 hW1) (agg_no _ (by kernel_rfl)))) (KpS.refl _ _ _) ?_
  simp only [Act.put, List.setIfInBounds_toArray, List.set_cons_zero, List.set_cons_succ]
  refine held_take (i := 4) (v := .int .i64 k) rfl (by kernel_rfl) (by kernel_rfl) (by kernel_rfl) (fun _ _ _ h => h) rfl (fun W1 hW1 => rfl) (KpS.refl _ _ _) ?_
  simp only [Act.put, List.setIfInBounds_toArray, List.set_cons_zero, List.set_cons_succ]
  refine held_take (i := 5) (v := .pointer (some ⟨g, k * 3, none⟩)) rfl (by kernel_rfl) (by kernel_rfl) (by kernel_rfl) (fun _ _ _ h => h) rfl (fun W1 hW1 => by go_simp) (KpS.refl _ _ _) ?_
  simp only [Act.put, List.setIfInBounds_toArray, List.set_cons_zero, List.set_cons_succ]
  refine held_take (i := 6) (v := .pointer (some ⟨g, k * 3 + 1, none⟩)) rfl (by kernel_rfl) (by kernel_rfl) (by kernel_rfl) (fun _ _ _ h => h) rfl (fun W1 hW1 => by go_simp) (KpS.refl _ _ _) ?_
  simp only [Act.put, List.setIfInBounds_toArray, List.set_cons_zero, List.set_cons_succ]
  refine held_take (i := 7) (v := .int .i64 hl) rfl (by kernel_rfl) (by kernel_rfl) (by kernel_rfl) (fun _ _ _ h => h) rfl (fun W1 hW1 => exec_load _ _ _ _ rfl rfl (run_loadCell W1 _ _ _ (ch W1 hW1) (agg_no _ (by kernel_rfl)))) (KpS.refl _ _ _) ?_
  simp only [Act.put, List.setIfInBounds_toArray, List.set_cons_zero, List.set_cons_succ]
  refine held_take (i := 9) (v := .pointer (some ⟨q, 0, none⟩)) rfl (by kernel_rfl) (by kernel_rfl) (by kernel_rfl) (fun _ _ _ h => h) rfl (fun W1 hW1 => exec_load _ _ _ _ rfl rfl (run_loadCell W1 _ _ _ (c0 W1 hW1) (agg_no _ (by kernel_rfl)))) (KpS.refl _ _ _) ?_
  simp only [Act.put, List.setIfInBounds_toArray, List.set_cons_zero, List.set_cons_succ]
  refine held_take (i := 10) (v := .int .i64 k) rfl (by kernel_rfl) (by kernel_rfl) (by kernel_rfl) (fun _ _ _ h => h) rfl (fun W1 hW1 => rfl) (KpS.refl _ _ _) ?_
  simp only [Act.put, List.setIfInBounds_toArray, List.set_cons_zero, List.set_cons_succ]
  have kp0 : KpS [] w1.heap.size w1.drew w1.drew := KpS.refl _ _ _
  refine wpAnyH_all (rs := [8, 11, 13]) (by kernel_rfl) (by simp) fun j hj => ?_
  simp only [List.mem_cons, List.not_mem_nil, or_false] at hj
  rcases hj with rfl | rfl | rfl
  · skip
    have zz1 : w1.drew.heap.size = w1.heap.size + 0 := by rfl
    have kp1 : KpS [] w1.heap.size w1.drew (w1.drew.alloc (.cells (madeCells #[.int .u8 0] hl) 5)) := kp0.alloc (by omega) _
    have hbs : (w1.drew.alloc (.cells (madeCells #[.int .u8 0] hl) 5)).heap[w1.drew.heap.size]? = some (.cells (madeCells #[.int .u8 0] hl) 5 (0, 0)) := heap_alloc_new _ _
    refine at_op (i := 8) rfl rfl (wp_value (exec_mk _ _ rfl rfl rfl (HMK.out w1.drew)) ⟨kp1, ?_⟩)
    simp only [Act.put, List.setIfInBounds_toArray, List.set_cons_zero, List.set_cons_succ]
    rw [zz1] at hbs ⊢
    have zn : (w1.drew.alloc (.cells (madeCells #[.int .u8 0] hl) 5)).heap.size = w1.heap.size + 1 := by rw [World.size_alloc, zz1]
    generalize w1.drew.alloc (.cells (madeCells #[.int .u8 0] hl) 5) = W1 at kp1 zn hbs ⊢
    refine wpAnyH_all (rs := [11, 13]) (by kernel_rfl) (by simp) fun j hj => ?_
    simp only [List.mem_cons, List.not_mem_nil, or_false] at hj
    rcases hj with rfl | rfl
    · skip
      refine at_op (i := 11) rfl rfl (wp_enter (f := 28) (args := #[.pointer (some ⟨q, 0, none⟩), .int .i64 k]) (by go_simp) (HLB.out W1 (kS _ kp1)) ?_)
      rintro e wz2 ⟨rfl, rfl⟩
      refine ⟨_, rfl, kp1, ?_⟩
      simp only [Act.put, List.setIfInBounds_toArray, List.set_cons_zero, List.set_cons_succ]
      refine held_take (i := 12) (v := .int .i64 ((bg : Int) + 1)) rfl (by kernel_rfl) (by kernel_rfl) (by kernel_rfl) (fun _ _ _ h => h) rfl (fun W1 hW1 => by (have e : IntKind.i64.wrap ((bg : Int) + 1) = (bg : Int) + 1 := by (rw [IntKind.wrap_i64]; omega)); go_simp) (kp1) ?_
      simp only [Act.put, List.setIfInBounds_toArray, List.set_cons_zero, List.set_cons_succ]
      refine wpAnyH_all (rs := [13]) (by kernel_rfl) (by simp) fun j hj => ?_
      obtain rfl : j = 13 := by simpa using hj
      have zz3 : W1.heap.size = w1.heap.size + 1 := by exact zn
      have kp3 : KpS [] w1.heap.size w1.drew (W1.alloc (.cells #[.int .i64 0] 3)) := kp1.alloc (by omega) _
      have hbn : (W1.alloc (.cells #[.int .i64 0] 3)).heap[W1.heap.size]? = some (.cells #[.int .i64 0] 3 (0, 0)) := heap_alloc_new _ _
      replace hbs := (Below.heap_alloc W1 (.cells #[.int .i64 0] 3) (w1.heap.size) (by omega)).trans hbs
      refine at_op (i := 13) rfl rfl (wp_value (v := .pointer (some ⟨W1.heap.size, 0, none⟩)) (w' := W1.alloc (.cells #[.int .i64 0] 3)) (by clear zz3; go_simp) ⟨kp3, ?_⟩)
      simp only [Act.put, List.setIfInBounds_toArray, List.set_cons_zero, List.set_cons_succ]
      rw [zz3] at hbn ⊢
      have zn : (W1.alloc (.cells #[.int .i64 0] 3)).heap.size = w1.heap.size + 2 := by rw [World.size_alloc, zz3]
      generalize W1.alloc (.cells #[.int .i64 0] 3) = W3 at kp3 zn hbn hbs ⊢
      refine held_take (i := 14) (v := .slice (some ⟨(w1.heap.size), 0, none⟩) hl hl) rfl (by kernel_rfl) (by kernel_rfl) (by kernel_rfl) (fun _ _ _ h => h) rfl (fun W1 hW1 => rfl) (kp3) ?_
      simp only [Act.put, List.setIfInBounds_toArray, List.set_cons_zero, List.set_cons_succ]
      have fz : W3.frozen? ⟨(w1.heap.size + 1), 0, none⟩ = false := by simp [World.frozen?, hbn]
      have cz : W3.cell? ⟨(w1.heap.size + 1), 0, none⟩ = some (.int .i64 0) := by simp [World.cell?, hbn]
      refine held_do (i := 15) (by kernel_rfl) rfl rfl (wp_stored (w' := W3.setCell ⟨(w1.heap.size + 1), 0, none⟩ (.int .i64 ((bg : Int) + 1))) (by go_simp) ⟨kp3.setCell _ _ _ (.inr (by omega)), ?_⟩)
      simp only [Act.put]
      refine wpAnyH_done (by kernel_rfl) (NoPanic.normal ?_) _
      exact KEY (w1.heap.size) (w1.heap.size + 1) _ (by omega) (by omega) (by omega) (kp3.setCell (w1.heap.size + 1) 0 _ (.inr (by omega))) ((Below.heap_setCell _ _ _ _ (show (w1.heap.size) ≠ (w1.heap.size + 1) by omega)).trans hbs) (by rw [heap_setCell_same _ _ _ _ _ _ hbn]; rfl)
    · skip
      have zz4 : W1.heap.size = w1.heap.size + 1 := by exact zn
      have kp4 : KpS [] w1.heap.size w1.drew (W1.alloc (.cells #[.int .i64 0] 3)) := kp1.alloc (by omega) _
      have hbn : (W1.alloc (.cells #[.int .i64 0] 3)).heap[W1.heap.size]? = some (.cells #[.int .i64 0] 3 (0, 0)) := heap_alloc_new _ _
      replace hbs := (Below.heap_alloc W1 (.cells #[.int .i64 0] 3) (w1.heap.size) (by omega)).trans hbs
      refine at_op (i := 13) rfl rfl (wp_value (v := .pointer (some ⟨W1.heap.size, 0, none⟩)) (w' := W1.alloc (.cells #[.int .i64 0] 3)) (by clear zz4; go_simp) ⟨kp4, ?_⟩)
      simp only [Act.put, List.setIfInBounds_toArray, List.set_cons_zero, List.set_cons_succ]
      rw [zz4] at hbn ⊢
      have zn : (W1.alloc (.cells #[.int .i64 0] 3)).heap.size = w1.heap.size + 2 := by rw [World.size_alloc, zz4]
      generalize W1.alloc (.cells #[.int .i64 0] 3) = W4 at kp4 zn hbn hbs ⊢
      refine wpAnyH_all (rs := [11]) (by kernel_rfl) (by simp) fun j hj => ?_
      obtain rfl : j = 11 := by simpa using hj
      refine at_op (i := 11) rfl rfl (wp_enter (f := 28) (args := #[.pointer (some ⟨q, 0, none⟩), .int .i64 k]) (by go_simp) (HLB.out W4 (kS _ kp4)) ?_)
      rintro e wz5 ⟨rfl, rfl⟩
      refine ⟨_, rfl, kp4, ?_⟩
      simp only [Act.put, List.setIfInBounds_toArray, List.set_cons_zero, List.set_cons_succ]
      refine held_take (i := 12) (v := .int .i64 ((bg : Int) + 1)) rfl (by kernel_rfl) (by kernel_rfl) (by kernel_rfl) (fun _ _ _ h => h) rfl (fun W1 hW1 => by (have e : IntKind.i64.wrap ((bg : Int) + 1) = (bg : Int) + 1 := by (rw [IntKind.wrap_i64]; omega)); go_simp) (kp4) ?_
      simp only [Act.put, List.setIfInBounds_toArray, List.set_cons_zero, List.set_cons_succ]
      refine held_take (i := 14) (v := .slice (some ⟨(w1.heap.size), 0, none⟩) hl hl) rfl (by kernel_rfl) (by kernel_rfl) (by kernel_rfl) (fun _ _ _ h => h) rfl (fun W1 hW1 => rfl) (kp4) ?_
      simp only [Act.put, List.setIfInBounds_toArray, List.set_cons_zero, List.set_cons_succ]
      have fz : W4.frozen? ⟨(w1.heap.size + 1), 0, none⟩ = false := by simp [World.frozen?, hbn]
      have cz : W4.cell? ⟨(w1.heap.size + 1), 0, none⟩ = some (.int .i64 0) := by simp [World.cell?, hbn]
      refine held_do (i := 15) (by kernel_rfl) rfl rfl (wp_stored (w' := W4.setCell ⟨(w1.heap.size + 1), 0, none⟩ (.int .i64 ((bg : Int) + 1))) (by go_simp) ⟨kp4.setCell _ _ _ (.inr (by omega)), ?_⟩)
      simp only [Act.put]
      refine wpAnyH_done (by kernel_rfl) (NoPanic.normal ?_) _
      exact KEY (w1.heap.size) (w1.heap.size + 1) _ (by omega) (by omega) (by omega) (kp4.setCell (w1.heap.size + 1) 0 _ (.inr (by omega))) ((Below.heap_setCell _ _ _ _ (show (w1.heap.size) ≠ (w1.heap.size + 1) by omega)).trans hbs) (by rw [heap_setCell_same _ _ _ _ _ _ hbn]; rfl)
  · skip
    refine at_op (i := 11) rfl rfl (wp_enter (f := 28) (args := #[.pointer (some ⟨q, 0, none⟩), .int .i64 k]) (by go_simp) (HLB.out w1.drew (kS _ kp0)) ?_)
    rintro e wz6 ⟨rfl, rfl⟩
    refine ⟨_, rfl, kp0, ?_⟩
    simp only [Act.put, List.setIfInBounds_toArray, List.set_cons_zero, List.set_cons_succ]
    refine held_take (i := 12) (v := .int .i64 ((bg : Int) + 1)) rfl (by kernel_rfl) (by kernel_rfl) (by kernel_rfl) (fun _ _ _ h => h) rfl (fun W1 hW1 => by (have e : IntKind.i64.wrap ((bg : Int) + 1) = (bg : Int) + 1 := by (rw [IntKind.wrap_i64]; omega)); go_simp) (kp0) ?_
    simp only [Act.put, List.setIfInBounds_toArray, List.set_cons_zero, List.set_cons_succ]
    refine wpAnyH_all (rs := [8, 13]) (by kernel_rfl) (by simp) fun j hj => ?_
    simp only [List.mem_cons, List.not_mem_nil, or_false] at hj
    rcases hj with rfl | rfl
    · skip
      have zz7 : w1.drew.heap.size = w1.heap.size + 0 := by rfl
      have kp7 : KpS [] w1.heap.size w1.drew (w1.drew.alloc (.cells (madeCells #[.int .u8 0] hl) 5)) := kp0.alloc (by omega) _
      have hbs : (w1.drew.alloc (.cells (madeCells #[.int .u8 0] hl) 5)).heap[w1.drew.heap.size]? = some (.cells (madeCells #[.int .u8 0] hl) 5 (0, 0)) := heap_alloc_new _ _
      refine at_op (i := 8) rfl rfl (wp_value (exec_mk _ _ rfl rfl rfl (HMK.out w1.drew)) ⟨kp7, ?_⟩)
      simp only [Act.put, List.setIfInBounds_toArray, List.set_cons_zero, List.set_cons_succ]
      rw [zz7] at hbs ⊢
      have zn : (w1.drew.alloc (.cells (madeCells #[.int .u8 0] hl) 5)).heap.size = w1.heap.size + 1 := by rw [World.size_alloc, zz7]
      generalize w1.drew.alloc (.cells (madeCells #[.int .u8 0] hl) 5) = W7 at kp7 zn hbs ⊢
      refine wpAnyH_all (rs := [13]) (by kernel_rfl) (by simp) fun j hj => ?_
      obtain rfl : j = 13 := by simpa using hj
      have zz8 : W7.heap.size = w1.heap.size + 1 := by exact zn
      have kp8 : KpS [] w1.heap.size w1.drew (W7.alloc (.cells #[.int .i64 0] 3)) := kp7.alloc (by omega) _
      have hbn : (W7.alloc (.cells #[.int .i64 0] 3)).heap[W7.heap.size]? = some (.cells #[.int .i64 0] 3 (0, 0)) := heap_alloc_new _ _
      replace hbs := (Below.heap_alloc W7 (.cells #[.int .i64 0] 3) (w1.heap.size) (by omega)).trans hbs
      refine at_op (i := 13) rfl rfl (wp_value (v := .pointer (some ⟨W7.heap.size, 0, none⟩)) (w' := W7.alloc (.cells #[.int .i64 0] 3)) (by clear zz8; go_simp) ⟨kp8, ?_⟩)
      simp only [Act.put, List.setIfInBounds_toArray, List.set_cons_zero, List.set_cons_succ]
      rw [zz8] at hbn ⊢
      have zn : (W7.alloc (.cells #[.int .i64 0] 3)).heap.size = w1.heap.size + 2 := by rw [World.size_alloc, zz8]
      generalize W7.alloc (.cells #[.int .i64 0] 3) = W8 at kp8 zn hbn hbs ⊢
      refine held_take (i := 14) (v := .slice (some ⟨(w1.heap.size), 0, none⟩) hl hl) rfl (by kernel_rfl) (by kernel_rfl) (by kernel_rfl) (fun _ _ _ h => h) rfl (fun W1 hW1 => rfl) (kp8) ?_
      simp only [Act.put, List.setIfInBounds_toArray, List.set_cons_zero, List.set_cons_succ]
      have fz : W8.frozen? ⟨(w1.heap.size + 1), 0, none⟩ = false := by simp [World.frozen?, hbn]
      have cz : W8.cell? ⟨(w1.heap.size + 1), 0, none⟩ = some (.int .i64 0) := by simp [World.cell?, hbn]
      refine held_do (i := 15) (by kernel_rfl) rfl rfl (wp_stored (w' := W8.setCell ⟨(w1.heap.size + 1), 0, none⟩ (.int .i64 ((bg : Int) + 1))) (by go_simp) ⟨kp8.setCell _ _ _ (.inr (by omega)), ?_⟩)
      simp only [Act.put]
      refine wpAnyH_done (by kernel_rfl) (NoPanic.normal ?_) _
      exact KEY (w1.heap.size) (w1.heap.size + 1) _ (by omega) (by omega) (by omega) (kp8.setCell (w1.heap.size + 1) 0 _ (.inr (by omega))) ((Below.heap_setCell _ _ _ _ (show (w1.heap.size) ≠ (w1.heap.size + 1) by omega)).trans hbs) (by rw [heap_setCell_same _ _ _ _ _ _ hbn]; rfl)
    · skip
      have zz9 : w1.drew.heap.size = w1.heap.size + 0 := by rfl
      have kp9 : KpS [] w1.heap.size w1.drew (w1.drew.alloc (.cells #[.int .i64 0] 3)) := kp0.alloc (by omega) _
      have hbn : (w1.drew.alloc (.cells #[.int .i64 0] 3)).heap[w1.drew.heap.size]? = some (.cells #[.int .i64 0] 3 (0, 0)) := heap_alloc_new _ _
      refine at_op (i := 13) rfl rfl (wp_value (v := .pointer (some ⟨w1.drew.heap.size, 0, none⟩)) (w' := w1.drew.alloc (.cells #[.int .i64 0] 3)) (by clear zz9; go_simp) ⟨kp9, ?_⟩)
      simp only [Act.put, List.setIfInBounds_toArray, List.set_cons_zero, List.set_cons_succ]
      rw [zz9] at hbn ⊢
      have zn : (w1.drew.alloc (.cells #[.int .i64 0] 3)).heap.size = w1.heap.size + 1 := by rw [World.size_alloc, zz9]
      generalize w1.drew.alloc (.cells #[.int .i64 0] 3) = W9 at kp9 zn hbn ⊢
      refine wpAnyH_all (rs := [8]) (by kernel_rfl) (by simp) fun j hj => ?_
      obtain rfl : j = 8 := by simpa using hj
      have zz10 : W9.heap.size = w1.heap.size + 1 := by exact zn
      have kp10 : KpS [] w1.heap.size w1.drew (W9.alloc (.cells (madeCells #[.int .u8 0] hl) 5)) := kp9.alloc (by omega) _
      have hbs : (W9.alloc (.cells (madeCells #[.int .u8 0] hl) 5)).heap[W9.heap.size]? = some (.cells (madeCells #[.int .u8 0] hl) 5 (0, 0)) := heap_alloc_new _ _
      replace hbn := (Below.heap_alloc W9 (.cells (madeCells #[.int .u8 0] hl) 5) (w1.heap.size) (by omega)).trans hbn
      refine at_op (i := 8) rfl rfl (wp_value (exec_mk _ _ rfl rfl rfl (HMK.out W9)) ⟨kp10, ?_⟩)
      simp only [Act.put, List.setIfInBounds_toArray, List.set_cons_zero, List.set_cons_succ]
      rw [zz10] at hbs ⊢
      have zn : (W9.alloc (.cells (madeCells #[.int .u8 0] hl) 5)).heap.size = w1.heap.size + 2 := by rw [World.size_alloc, zz10]
      generalize W9.alloc (.cells (madeCells #[.int .u8 0] hl) 5) = W10 at kp10 zn hbs hbn ⊢
      refine held_take (i := 14) (v := .slice (some ⟨(w1.heap.size + 1), 0, none⟩) hl hl) rfl (by kernel_rfl) (by kernel_rfl) (by kernel_rfl) (fun _ _ _ h => h) rfl (fun W1 hW1 => rfl) (kp10) ?_
      simp only [Act.put, List.setIfInBounds_toArray, List.set_cons_zero, List.set_cons_succ]
      have fz : W10.frozen? ⟨(w1.heap.size), 0, none⟩ = false := by simp [World.frozen?, hbn]
      have cz : W10.cell? ⟨(w1.heap.size), 0, none⟩ = some (.int .i64 0) := by simp [World.cell?, hbn]
      refine held_do (i := 15) (by kernel_rfl) rfl rfl (wp_stored (w' := W10.setCell ⟨(w1.heap.size), 0, none⟩ (.int .i64 ((bg : Int) + 1))) (by go_simp) ⟨kp10.setCell _ _ _ (.inr (by omega)), ?_⟩)
      simp only [Act.put]
      refine wpAnyH_done (by kernel_rfl) (NoPanic.normal ?_) _
      exact KEY (w1.heap.size + 1) (w1.heap.size) _ (by omega) (by omega) (by omega) (kp10.setCell (w1.heap.size) 0 _ (.inr (by omega))) ((Below.heap_setCell _ _ _ _ (show (w1.heap.size + 1) ≠ (w1.heap.size) by omega)).trans hbs) (by rw [heap_setCell_same _ _ _ _ _ _ hbn]; rfl)
  · skip
    have zz11 : w1.drew.heap.size = w1.heap.size + 0 := by rfl
    have kp11 : KpS [] w1.heap.size w1.drew (w1.drew.alloc (.cells #[.int .i64 0] 3)) := kp0.alloc (by omega) _
    have hbn : (w1.drew.alloc (.cells #[.int .i64 0] 3)).heap[w1.drew.heap.size]? = some (.cells #[.int .i64 0] 3 (0, 0)) := heap_alloc_new _ _
    refine at_op (i := 13) rfl rfl (wp_value (v := .pointer (some ⟨w1.drew.heap.size, 0, none⟩)) (w' := w1.drew.alloc (.cells #[.int .i64 0] 3)) (by clear zz11; go_simp) ⟨kp11, ?_⟩)
    simp only [Act.put, List.setIfInBounds_toArray, List.set_cons_zero, List.set_cons_succ]
    rw [zz11] at hbn ⊢
    have zn : (w1.drew.alloc (.cells #[.int .i64 0] 3)).heap.size = w1.heap.size + 1 := by rw [World.size_alloc, zz11]
    generalize w1.drew.alloc (.cells #[.int .i64 0] 3) = W11 at kp11 zn hbn ⊢
    refine wpAnyH_all (rs := [8, 11]) (by kernel_rfl) (by simp) fun j hj => ?_
    simp only [List.mem_cons, List.not_mem_nil, or_false] at hj
    rcases hj with rfl | rfl
    · skip
      have zz12 : W11.heap.size = w1.heap.size + 1 := by exact zn
      have kp12 : KpS [] w1.heap.size w1.drew (W11.alloc (.cells (madeCells #[.int .u8 0] hl) 5)) := kp11.alloc (by omega) _
      have hbs : (W11.alloc (.cells (madeCells #[.int .u8 0] hl) 5)).heap[W11.heap.size]? = some (.cells (madeCells #[.int .u8 0] hl) 5 (0, 0)) := heap_alloc_new _ _
      replace hbn := (Below.heap_alloc W11 (.cells (madeCells #[.int .u8 0] hl) 5) (w1.heap.size) (by omega)).trans hbn
      refine at_op (i := 8) rfl rfl (wp_value (exec_mk _ _ rfl rfl rfl (HMK.out W11)) ⟨kp12, ?_⟩)
      simp only [Act.put, List.setIfInBounds_toArray, List.set_cons_zero, List.set_cons_succ]
      rw [zz12] at hbs ⊢
      have zn : (W11.alloc (.cells (madeCells #[.int .u8 0] hl) 5)).heap.size = w1.heap.size + 2 := by rw [World.size_alloc, zz12]
      generalize W11.alloc (.cells (madeCells #[.int .u8 0] hl) 5) = W12 at kp12 zn hbs hbn ⊢
      refine wpAnyH_all (rs := [11]) (by kernel_rfl) (by simp) fun j hj => ?_
      obtain rfl : j = 11 := by simpa using hj
      refine at_op (i := 11) rfl rfl (wp_enter (f := 28) (args := #[.pointer (some ⟨q, 0, none⟩), .int .i64 k]) (by go_simp) (HLB.out W12 (kS _ kp12)) ?_)
      rintro e wz13 ⟨rfl, rfl⟩
      refine ⟨_, rfl, kp12, ?_⟩
      simp only [Act.put, List.setIfInBounds_toArray, List.set_cons_zero, List.set_cons_succ]
      refine held_take (i := 12) (v := .int .i64 ((bg : Int) + 1)) rfl (by kernel_rfl) (by kernel_rfl) (by kernel_rfl) (fun _ _ _ h => h) rfl (fun W1 hW1 => by (have e : IntKind.i64.wrap ((bg : Int) + 1) = (bg : Int) + 1 := by (rw [IntKind.wrap_i64]; omega)); go_simp) (kp12) ?_
      simp only [Act.put, List.setIfInBounds_toArray, List.set_cons_zero, List.set_cons_succ]
      refine held_take (i := 14) (v := .slice (some ⟨(w1.heap.size + 1), 0, none⟩) hl hl) rfl (by kernel_rfl) (by kernel_rfl) (by kernel_rfl) (fun _ _ _ h => h) rfl (fun W1 hW1 => rfl) (kp12) ?_
      simp only [Act.put, List.setIfInBounds_toArray, List.set_cons_zero, List.set_cons_succ]
      have fz : W12.frozen? ⟨(w1.heap.size), 0, none⟩ = false := by simp [World.frozen?, hbn]
      have cz : W12.cell? ⟨(w1.heap.size), 0, none⟩ = some (.int .i64 0) := by simp [World.cell?, hbn]
      refine held_do (i := 15) (by kernel_rfl) rfl rfl (wp_stored (w' := W12.setCell ⟨(w1.heap.size), 0, none⟩ (.int .i64 ((bg : Int) + 1))) (by go_simp) ⟨kp12.setCell _ _ _ (.inr (by omega)), ?_⟩)
      simp only [Act.put]
      refine wpAnyH_done (by kernel_rfl) (NoPanic.normal ?_) _
      exact KEY (w1.heap.size + 1) (w1.heap.size) _ (by omega) (by omega) (by omega) (kp12.setCell (w1.heap.size) 0 _ (.inr (by omega))) ((Below.heap_setCell _ _ _ _ (show (w1.heap.size + 1) ≠ (w1.heap.size) by omega)).trans hbs) (by rw [heap_setCell_same _ _ _ _ _ _ hbn]; rfl)
    · skip
      refine at_op (i := 11) rfl rfl (wp_enter (f := 28) (args := #[.pointer (some ⟨q, 0, none⟩), .int .i64 k]) (by go_simp) (HLB.out W11 (kS _ kp11)) ?_)
      rintro e wz14 ⟨rfl, rfl⟩
      refine ⟨_, rfl, kp11, ?_⟩
      simp only [Act.put, List.setIfInBounds_toArray, List.set_cons_zero, List.set_cons_succ]
      refine held_take (i := 12) (v := .int .i64 ((bg : Int) + 1)) rfl (by kernel_rfl) (by kernel_rfl) (by kernel_rfl) (fun _ _ _ h => h) rfl (fun W1 hW1 => by (have e : IntKind.i64.wrap ((bg : Int) + 1) = (bg : Int) + 1 := by (rw [IntKind.wrap_i64]; omega)); go_simp) (kp11) ?_
      simp only [Act.put, List.setIfInBounds_toArray, List.set_cons_zero, List.set_cons_succ]
      refine wpAnyH_all (rs := [8]) (by kernel_rfl) (by simp) fun j hj => ?_
      obtain rfl : j = 8 := by simpa using hj
      have zz15 : W11.heap.size = w1.heap.size + 1 := by exact zn
      have kp15 : KpS [] w1.heap.size w1.drew (W11.alloc (.cells (madeCells #[.int .u8 0] hl) 5)) := kp11.alloc (by omega) _
      have hbs : (W11.alloc (.cells (madeCells #[.int .u8 0] hl) 5)).heap[W11.heap.size]? = some (.cells (madeCells #[.int .u8 0] hl) 5 (0, 0)) := heap_alloc_new _ _
      replace hbn := (Below.heap_alloc W11 (.cells (madeCells #[.int .u8 0] hl) 5) (w1.heap.size) (by omega)).trans hbn
      refine at_op (i := 8) rfl rfl (wp_value (exec_mk _ _ rfl rfl rfl (HMK.out W11)) ⟨kp15, ?_⟩)
      simp only [Act.put, List.setIfInBounds_toArray, List.set_cons_zero, List.set_cons_succ]
      rw [zz15] at hbs ⊢
      have zn : (W11.alloc (.cells (madeCells #[.int .u8 0] hl) 5)).heap.size = w1.heap.size + 2 := by rw [World.size_alloc, zz15]
      generalize W11.alloc (.cells (madeCells #[.int .u8 0] hl) 5) = W15 at kp15 zn hbs hbn ⊢
      refine held_take (i := 14) (v := .slice (some ⟨(w1.heap.size + 1), 0, none⟩) hl hl) rfl (by kernel_rfl) (by kernel_rfl) (by kernel_rfl) (fun _ _ _ h => h) rfl (fun W1 hW1 => rfl) (kp15) ?_
      simp only [Act.put, List.setIfInBounds_toArray, List.set_cons_zero, List.set_cons_succ]
      have fz : W15.frozen? ⟨(w1.heap.size), 0, none⟩ = false := by simp [World.frozen?, hbn]
      have cz : W15.cell? ⟨(w1.heap.size), 0, none⟩ = some (.int .i64 0) := by simp [World.cell?, hbn]
      refine held_do (i := 15) (by kernel_rfl) rfl rfl (wp_stored (w' := W15.setCell ⟨(w1.heap.size), 0, none⟩ (.int .i64 ((bg : Int) + 1))) (by go_simp) ⟨kp15.setCell _ _ _ (.inr (by omega)), ?_⟩)
      simp only [Act.put]
      refine wpAnyH_done (by kernel_rfl) (NoPanic.normal ?_) _
      exact KEY (w1.heap.size + 1) (w1.heap.size) _ (by omega) (by omega) (by omega) (kp15.setCell (w1.heap.size) 0 _ (.inr (by omega))) ((Below.heap_setCell _ _ _ _ (show (w1.heap.size + 1) ≠ (w1.heap.size) by omega)).trans hbs) (by rw [heap_setCell_same _ _ _ _ _ _ hbn]; rfl)
end Go.Proofs.Ytiljhjegfklgmaa


/- Slots: Open. -/
namespace Go.Proofs.Ytiljhjegfklgmaa
open Go.RowKit Go.Shelf

theorem rdCount_ok40 {zs k r : List Int} (hb : ∀ z ∈ zs, 0 ≤ z ∧ z ≤ 255) (h : rdCount 40 zs = .ok (k, r)) : k.length ≤ 40 ∧ ∀ z ∈ k, 0 ≤ z ∧ z ≤ 255 := by
  unfold rdCount at h
  split at h
  · cases h
  · split at h
    · cases h
    · split at h
      · cases h
      · rename_i h3
        split at h
        · cases h
        · injection h with h
          injection h with h _
          subst h
          refine ⟨?_, fun z hz => hb z (List.mem_of_mem_drop (List.mem_of_mem_take hz))⟩
          rw [List.length_take]
          omega
theorem hdOf_ok {zs : List Int} {h : Hd} (hb : ∀ z ∈ zs, 0 ≤ z ∧ z ≤ 255) (e : hdOf zs = some h) : h.Ok := by
  have z0 : Hd.Ok hd0 := ⟨by simp [hd0], by simp [hd0], by simp [hd0], fun _ => rfl⟩
  unfold hdOf at e
  have hr1 : ∀ {b r}, rdBool zs = .ok (b, r) → ∀ z ∈ r, 0 ≤ z ∧ z ≤ 255 := fun {b r} h1 => by
    unfold rdBool at h1
    split at h1
    · cases h1
    · split at h1
      · cases h1
      · injection h1 with h1; injection h1 with _ h1; subst h1; exact fun z hz => hb z (List.mem_of_mem_drop hz)
  split at e
  · cases e
  · split at e
    · injection e with e; subst e; exact z0
    · cases e
  · rename_i r h1
    split at e
    · cases e
    · rename_i n r2 h2
      have hn := rdHeld_pos hb h1 h2
      have hn2 : n ≤ 448 ∧ ∀ z ∈ r2, 0 ≤ z ∧ z ≤ 255 := by
        unfold rdHeld at h2
        split at h2
        · cases h2
        · rename_i m rr hm
          split at h2
          · cases h2
          · injection h2 with h2
            injection h2 with h2 h2'
            subst h2; subst h2'
            refine ⟨by omega, ?_⟩
            unfold rdNum at hm
            split at hm
            · cases hm
            · split at hm
              · cases hm
              · injection hm with hm
                injection hm with _ hm
                subst hm
                exact fun z hz => hr1 h1 z (List.mem_of_mem_drop hz)
      split at e
      · cases e
      · rename_i k r3 h3
        split at e
        · injection e with e
          subst e
          have := rdCount_ok40 hn2.2 h3
          exact ⟨this.1, this.2, by show n.toNat ≤ 448; omega, fun h => by cases h⟩
        · cases e
theorem hdG_ok {zs : List Int} (hb : ∀ z ∈ zs, 0 ≤ z ∧ z ≤ 255) : (hdG zs).Ok := by
  unfold hdG
  cases e : hdOf zs with
  | none => exact ⟨by simp [hd0], by simp [hd0], by simp [hd0], fun _ => rfl⟩
  | some h => exact hdOf_ok hb e

/-- The heads of a disk's slots, so far as they were read. -/
def opS (s : DS) (first n k : Nat) : List Hd := (List.range n).map fun j => if j < k then hdG (s.now (first + j * 8)).1 else hd0
def headsS (s : DS) (first n : Nat) : List Hd := (List.range n).map fun j => hdG (s.now (first + j * 8)).1
theorem opS_len (s : DS) (first n k : Nat) : (opS s first n k).length = n := by simp [opS]
theorem opS_all (s : DS) (first n : Nat) : opS s first n n = headsS s first n := by
  unfold opS headsS
  refine List.map_congr_left fun j hj => ?_
  rw [if_pos (List.mem_range.1 hj)]
theorem opS_zero (s : DS) (first n : Nat) : opS s first n 0 = List.replicate n hd0 := by
  unfold opS
  rw [List.eq_replicate_iff]
  refine ⟨by simp, fun x hx => ?_⟩
  obtain ⟨j, _, rfl⟩ := List.mem_map.1 hx
  simp
theorem opS_succ (s : DS) (first n k : Nat) (hk : k < n) : (opS s first n k).set k (hdG (s.now (first + k * 8)).1) = opS s first n (k + 1) := by
  apply List.ext_getElem?
  intro j
  by_cases e : j = k
  · subst e
    rw [List.getElem?_set_self (by rw [opS_len]; exact hk)]
    simp [opS, hk]
  · rw [List.getElem?_set_ne (fun h => e h.symm)]
    by_cases hj : j < n
    · simp only [opS, List.getElem?_map, List.getElem?_range hj, Option.map_some]
      have : (j < k) = (j < k + 1) := by simp; omega
      simp only [this]
    · rw [List.getElem?_eq_none (by rw [opS_len]; omega), List.getElem?_eq_none (by rw [opS_len]; omega)]
theorem opS_ok (s : DS) (first n k : Nat) : ∀ h ∈ opS s first n k, h.Ok := by
  intro h hh
  obtain ⟨j, _, rfl⟩ := List.mem_map.1 hh
  split
  · exact hdG_ok (s.now _).2.2
  · exact ⟨by simp [hd0], by simp [hd0], by simp [hd0], fun _ => rfl⟩
/-- Every head is one. -/
def goodS (s : DS) (first n : Nat) : Prop := ∀ j, j < n → hdE (s.now (first + j * 8)).1 = 0

theorem madeHd (n : Nat) : madeCells (hdV hd0).cells (n * 3) = (hdsC (List.replicate n hd0)).toArray := by
  apply Array.ext'
  have h3 : (hdV hd0).cells = #[.bool false, .int .i64 0, .string ⟨#[]⟩] := rfl
  rw [h3]
  apply List.ext_getElem?
  intro k
  by_cases hk : k < n * 3
  · have hq : k / 3 < (List.replicate n hd0).length := by simp; omega
    have := hdsC_at (List.replicate n hd0) (k / 3) hq (k % 3) (by omega)
    rw [show k / 3 * 3 + k % 3 = k by omega] at this
    simp only [List.getElem_replicate] at this
    rw [this]
    simp only [madeCells, Array.toList_map, Array.toList_range, List.getElem?_map, List.getElem?_range hk, Option.map_some]
    have h3' : k % 3 = 0 ∨ k % 3 = 1 ∨ k % 3 = 2 := by omega
    rcases h3' with h | h | h <;> simp [h, hd0, Hd.cells] <;> rfl
  · have hl := hdsC_len (List.replicate n hd0)
    rw [List.getElem?_eq_none (by simp [madeCells]; omega), List.getElem?_eq_none (by simp at hl ⊢; omega)]

theorem iHd3 : (Try.prog.info? 72).map (fun i => (i.zero, i.size, i.bytes)) = some (some (hdV hd0), 3, 32) := by kernel_rfl
theorem run_makeHds (n : Nat) (hn : n ≤ 520) (w : World) :
    (Instr.makeSlice 67 (.int .i64 n) (.int .i64 n)).run Try.prog w = .ok (.slice (some ⟨w.heap.size, 0, none⟩) n n) (w.alloc (.cells (hdsC (List.replicate n hd0)).toArray 72)) := by
  obtain ⟨i, hi, hzz⟩ := Option.map_eq_some_iff.1 iHd3
  simp only [Prod.mk.injEq] at hzz
  obtain ⟨hz, hs, hb⟩ := hzz
  have := run_makeSlice (P := Try.prog) w 67 72 i (hdV hd0) Try.underlying67 hi hz .i64 .i64 n n (by omega) (Int.le_refl _) (by rw [hs]; simp; omega) (by rw [hb]; omega) (by omega)
  rw [hs] at this
  simp only [Int.toNat_natCast] at this
  rw [this, madeHd]

set_option maxRecDepth 100000 in
set_option maxHeartbeats 6400000 in
theorem lOpen_good (w : World) (p : Nat) (s : DS) (F : List Nat) (K : Nat) (D : DiskAt w p s F K) (first n : Nat) (hf : first ≤ s.cnt) (hn : n = (s.cnt - first) / 8) (hd : s.dead = false) (hg : goodS s first n) :
    Calls Try.prog 9 #[.pointer (some ⟨p, 0, none⟩), .int .i64 first] w fun e w' => ∃ q g, e = .returned (.tuple #[.pointer (some ⟨q, 0, none⟩), .int .i64 0]) ∧ SlAt w' q p g first (headsS s first n) s F K ∧ w.heap.size ≤ q ∧ w.heap.size ≤ g ∧ Keeps [] w w' := by
  have HD := hid D
  have HG := hid hg
  have hcnt := D.1.hi
  have hlo := D.1.lo
  have lF : ∀ j ∈ F, j < w.heap.size := fun j hj => by obtain ⟨m, dm⟩ := D.dm; exact dm.lt j hj
  have hn520 : n ≤ 520 := by omega
  have hfit : first + n * 8 ≤ s.cnt := by omega
  have SC := hid (sectorsAt_any w p s F K D)
  have WL := lWell_any w p s F K D
  rw [hd] at WL
  have WLH := hid WL
  have HDD := hid hd
  have t1 : ¬ (first : Int) > (s.cnt : Int) := by omega
  have tq : ((s.cnt : Int) - (first : Int)).tdiv 8 = (n : Int) := by
    have e : (s.cnt : Int) - (first : Int) = ((s.cnt - first : Nat) : Int) := by omega
    rw [e, hn]
    exact Int.ofNat_tdiv _ _
  have HMK := run_makeHds n hn520
  clear D hg WL hd hn
  go_enter Try.func9, Try.ntmps9
  go_wp2_with fail
  refine SC.out.mono ?_
  rintro e _ ⟨rfl, rfl⟩
  go_wp2_with fail
  refine WLH.out.mono ?_
  rintro e w1 ⟨rfl, k1⟩
  have K1 := hid k1
  have D1 := hid (HD.out.keep k1 (by simp))
  have SC1 := hid (sectorsAt_any w1 p s F K D1.out)
  clear k1
  go_wp2_with fail
  refine SC1.out.mono ?_
  rintro e _ ⟨rfl, rfl⟩
  go_wp2_with fail
  have zA : ((w1.alloc (.cells (hdsC (List.replicate n hd0)).toArray 72)).alloc (.cells #[.pointer (some ⟨p, 0, none⟩), .int .i64 first, .slice (some ⟨w1.heap.size, 0, none⟩) n n] 69)).heap.size = w1.heap.size + 2 := by simp
  have gA := heap_alloc2_old w1 (.cells (hdsC (List.replicate n hd0)).toArray 72) (.cells #[.pointer (some ⟨p, 0, none⟩), .int .i64 first, .slice (some ⟨w1.heap.size, 0, none⟩) n n] 69)
  have bA := heap_alloc2_new w1 (.cells (hdsC (List.replicate n hd0)).toArray 72) (.cells #[.pointer (some ⟨p, 0, none⟩), .int .i64 first, .slice (some ⟨w1.heap.size, 0, none⟩) n n] 69)
  have kA : Keeps [] w1 ((w1.alloc (.cells (hdsC (List.replicate n hd0)).toArray 72)).alloc (.cells #[.pointer (some ⟨p, 0, none⟩), .int .i64 first, .slice (some ⟨w1.heap.size, 0, none⟩) n n] 69)) := ((Keeps.refl [] w1).alloc _).alloc _
  have S0 : SlotsAt ((w1.alloc (.cells (hdsC (List.replicate n hd0)).toArray 72)).alloc (.cells #[.pointer (some ⟨p, 0, none⟩), .int .i64 first, .slice (some ⟨w1.heap.size, 0, none⟩) n n] 69)) (w1.heap.size + 1) p w1.heap.size first (opS s first n 0) := by
    rw [opS_zero]
    refine ⟨by rw [List.length_replicate]; exact bA, gA, by omega, fun h hh => ?_, by rw [List.length_replicate]; omega⟩
    obtain rfl := (List.mem_replicate.1 hh).2
    exact ⟨by simp [hd0], by simp [hd0], by simp [hd0], fun _ => rfl⟩
  have S0H := hid S0
  have KA := hid kA
  have D2 := hid (D1.out.keep kA (by simp))
  clear gA bA kA S0
  generalize (w1.alloc (.cells (hdsC (List.replicate n hd0)).toArray 72)).alloc (.cells #[.pointer (some ⟨p, 0, none⟩), .int .i64 first, .slice (some ⟨w1.heap.size, 0, none⟩) n n] 69) = w2 at zA S0H KA D2 ⊢
  have hw1 := K1.out.size
  have ZA := hid zA
  clear zA tq HMK t1
  have gF : w1.heap.size ∉ F := fun hm => by have := lF _ hm; omega
  have qF : w1.heap.size + 1 ∉ F := fun hm => by have := lF _ hm; omega
  go_loopw [40] (fun i wr => ∃ (k : Nat), k ≤ n ∧ i = .int .i64 k ∧ SlotsAt wr (w1.heap.size + 1) p w1.heap.size first (opS s first n k) ∧ Keeps [w1.heap.size] w2 wr) (fun i _ => n - (intOf i).toNat)
  case atStart => exact ⟨0, by omega, rfl, S0H.out, Keeps.refl _ _⟩
  case round =>
    obtain ⟨k, hk, rfl, q1, q2⟩ := hrel
    have Q1 := hid q1
    have Q2 := hid q2
    have hzr : w2.heap.size ≤ wr.heap.size := q2.size
    clear q1 q2
    by_cases hlt : k < n
    · have hlt' : (k : Int) < (n : Int) := by omega
      have LB := hid (lBegin_any wr (w1.heap.size + 1) p w1.heap.size first _ Q1.out k (by omega) (by omega))
      have DR := hid (D2.out.keep Q2.out (by intro b hb hm; simp at hm; subst hm; exact gF hb))
      have eE : readE s ((first + k * 8 : Nat) : Int) = 0 := by
        unfold readE
        rw [HDD.out]
        simp only [Bool.false_eq_true, if_false]
        rw [if_pos (by omega)]
      have eB : readB s ((first + k * 8 : Nat) : Int) = (s.now (first + k * 8)).1 := by
        unfold readB
        rw [HDD.out]
        rw [Int.toNat_natCast]
        simp
        omega
      have RD := readAt_any wr p s F K DR.out ((first + k * 8 : Nat) : Int)
      rw [eE, eB] at RD
      have h64 := (s.now (first + k * 8)).2.1
      have hge := HG.out k hlt
      have hsu := opS_succ s first n k hlt
      have hok := hdG_ok (s.now (first + k * 8)).2.2
      generalize (s.now (first + k * 8)).1 = row at RD h64 hge hsu hok
      have RDH := hid RD
      have HGE := hid hge
      have HSU := hid hsu
      have HOK := hid hok
      clear RD eE eB hge hsu hok
      go_wp2_with fail
      refine LB.out.mono ?_
      rintro e _ ⟨rfl, rfl⟩
      go_wp2_with fail
      refine RDH.out.mono ?_
      rintro e w3 ⟨rv, rfl, rr, -, k3⟩
      obtain ⟨ra, rc, rfl, hrr⟩ := id rr
      have RR := hid rr
      have K3 := hid k3
      have S3 := hid (Q1.out.keep k3 (by simp) (by simp))
      have z3 : wr.heap.size ≤ w3.heap.size := k3.size
      clear rr k3 hrr
      go_wp2_with fail
      have hol := opS_len s first n k
      refine wp_region_any (by kernel_rfl) (wpAny_of_held (S := KpS [w1.heap.size] w3.heap.size w3.drew) _ _ _ _ ?_)
      change wpAnyH _ _ _ _ _ _ _ _ w3.drew
      have cQ : ∀ W1, KpS [w1.heap.size] w3.heap.size w3.drew W1 → W1.cell? ⟨w1.heap.size + 1, 2, none⟩ = some (.slice (some ⟨w1.heap.size, 0, none⟩) n n) := fun W1 h => h.cell (by rw [World.cell?_drew]; have := S3.out.c2; rw [hol] at this; exact this) (by have := S3.out.ltq; omega) (by simp)
      refine held_take (i := 0) (v := .pointer (some ⟨w1.heap.size + 1, 0, none⟩)) rfl (by kernel_rfl) (by kernel_rfl) (by kernel_rfl) (fun _ _ _ h => h) rfl (fun W1 hW1 => rfl) (KpS.refl _ _ _) ?_
      simp only [Act.put, List.setIfInBounds_toArray, List.set_cons_zero, List.set_cons_succ]
      refine held_take (i := 1) (v := .pointer (some ⟨w1.heap.size + 1, 0, none⟩)) rfl (by kernel_rfl) (by kernel_rfl) (by kernel_rfl) (fun _ _ _ h => h) rfl (fun W1 hW1 => by go_simp) (KpS.refl _ _ _) ?_
      simp only [Act.put, List.setIfInBounds_toArray, List.set_cons_zero, List.set_cons_succ]
      refine held_take (i := 2) (v := .pointer (some ⟨w1.heap.size + 1, 2, none⟩)) rfl (by kernel_rfl) (by kernel_rfl) (by kernel_rfl) (fun _ _ _ h => h) rfl (fun W1 hW1 => by go_simp) (KpS.refl _ _ _) ?_
      simp only [Act.put, List.setIfInBounds_toArray, List.set_cons_zero, List.set_cons_succ]
      refine held_take (i := 3) (v := .slice (some ⟨w1.heap.size, 0, none⟩) n n) rfl (by kernel_rfl) (by kernel_rfl) (by kernel_rfl) (fun _ _ _ h => h) rfl (fun W1 hW1 => exec_load _ _ _ _ rfl rfl (run_loadCell W1 _ _ _ (cQ W1 hW1) (agg_no _ (by kernel_rfl)))) (KpS.refl _ _ _) ?_
      simp only [Act.put, List.setIfInBounds_toArray, List.set_cons_zero, List.set_cons_succ]
      refine held_take (i := 4) (v := .int .i64 k) rfl (by kernel_rfl) (by kernel_rfl) (by kernel_rfl) (fun _ _ _ h => h) rfl (fun W1 hW1 => rfl) (KpS.refl _ _ _) ?_
      simp only [Act.put, List.setIfInBounds_toArray, List.set_cons_zero, List.set_cons_succ]
      have RR2 := RR.out
      rw [h64] at RR2
      refine held_take (i := 5) (v := .slice ra 64 rc) rfl (by kernel_rfl) (by kernel_rfl) (by kernel_rfl) (fun _ _ _ h => h) rfl (fun W1 hW1 => rfl) (KpS.refl _ _ _) ?_
      simp only [Act.put, List.setIfInBounds_toArray, List.set_cons_zero, List.set_cons_succ]
      refine held_do (i := 6) (by kernel_rfl) rfl rfl (wp_enter (f := 29) (args := #[.slice ra 64 rc]) (by go_simp) (readHead_any w3.drew _ row (RR2.keep (Keeps.refl [] w3).drew (by intro _ _ _ _ _; simp)) (by omega)) ?_)
      rintro e w4 ⟨rfl, k4⟩
      rw [HGE.out]
      have kk : KpS [w1.heap.size] w3.heap.size w3.drew w4 := (KpS.refl _ _ _).keeps k4 (Nat.le_refl _) (by simp)
      refine ⟨_, rfl, kk, ?_⟩
      simp only [Act.put, List.setIfInBounds_toArray, List.set_cons_zero, List.set_cons_succ]
      refine held_take (i := 7) (v := .tuple #[hdV (hdG row), .int .i64 0]) rfl (by kernel_rfl) (by kernel_rfl) (by kernel_rfl) (fun _ _ _ h => h) rfl (fun W1 hW1 => rfl) (kk) ?_
      simp only [Act.put, List.setIfInBounds_toArray, List.set_cons_zero, List.set_cons_succ]
      refine held_take (i := 8) (v := hdV (hdG row)) rfl (by kernel_rfl) (by kernel_rfl) (by kernel_rfl) (fun _ _ _ h => h) rfl (fun W1 hW1 => by go_simp) (kk) ?_
      simp only [Act.put, List.setIfInBounds_toArray, List.set_cons_zero, List.set_cons_succ]
      refine held_take (i := 9) (v := .int .i64 0) rfl (by kernel_rfl) (by kernel_rfl) (by kernel_rfl) (fun _ _ _ h => h) rfl (fun W1 hW1 => by go_simp) (kk) ?_
      simp only [Act.put, List.setIfInBounds_toArray, List.set_cons_zero, List.set_cons_succ]
      refine held_take (i := 10) (v := .pointer (some ⟨w1.heap.size, k * 3, none⟩)) rfl (by kernel_rfl) (by kernel_rfl) (by kernel_rfl) (fun _ _ _ h => h) rfl (fun W1 hW1 => by go_simp) (kk) ?_
      simp only [Act.put, List.setIfInBounds_toArray, List.set_cons_zero, List.set_cons_succ]
      have S4 : SlotsAt w4 (w1.heap.size + 1) p w1.heap.size first (opS s first n k) := S3.out.keep (show Keeps [] w3 w4 from ⟨k4.os, k4.tape, k4.output, k4.size, k4.block⟩) (by simp) (by simp)
      have hth : w4.there w1.heap.size (k * 3) 3 := there_of S4.hds (k * 3) 3 (by have := hdsC_len (opS s first n k); simp; omega)
      refine held_do (i := 11) (by kernel_rfl) rfl rfl (wp_store_mid 72 _ _ rfl w1.heap.size (k * 3) (hdG row).cells.toArray rfl rfl hth (by rw [sHd]; rfl) (hdG row).one ?_)
      have kk5 : KpS [w1.heap.size] w3.heap.size w3.drew (w4.setCells w1.heap.size (k * 3) (hdG row).cells) := ((kk.setCell _ _ _ (.inl (by simp))).setCell _ _ _ (.inl (by simp))).setCell _ _ _ (.inl (by simp))
      refine ⟨kk5, ?_⟩
      simp only [Act.put]
      refine held_take (i := 12) (v := .int .i64 0) rfl (by kernel_rfl) (by kernel_rfl) (by kernel_rfl) (fun _ _ _ h => h) rfl (fun W1 hW1 => rfl) (kk5) ?_
      simp only [Act.put, List.setIfInBounds_toArray, List.set_cons_zero, List.set_cons_succ]
      refine wpAnyH_done (by kernel_rfl) ?_ _
      have hs5 := setHd_hds (T := 72) (hdG row) (i := k) (by omega) S4.hds
      have hq5 := (setHd_other w4 w1.heap.size (k * 3) (hdG row) (show w1.heap.size + 1 ≠ w1.heap.size by omega)).trans S4.blk
      rw [HSU.out] at hs5
      have S5 : Hid (SlotsAt (w4.setCells w1.heap.size (k * 3) (hdG row).cells) (w1.heap.size + 1) p w1.heap.size first (opS s first n (k + 1))) := hid ⟨by rw [opS_len]; rw [opS_len] at hq5; exact hq5, hs5, by omega, opS_ok _ _ _ _, by rw [opS_len]; omega⟩
      have K5 : Hid (Keeps [w1.heap.size] w2 (w4.setCells w1.heap.size (k * 3) (hdG row).cells)) := hid (Q2.out.trans ((K3.out.mono (by simp)).trans ⟨kk5.os, kk5.tape, kk5.output, kk5.size, kk5.block⟩))
      clear kk kk5 hs5 hq5 S4 hth cQ k4
      go_wp2_with fail
      go_roundw
      case rel => exact ⟨k + 1, by omega, by go_num, S5.out, K5.out⟩
      case measure => simp [intOf]; omega
    · have : k = n := by omega
      subst this
      go_wp2_with fail
      go_ret2
      refine ⟨w1.heap.size + 1, w1.heap.size, rfl, ⟨?_, (D2.out.keep Q2.out (by intro b hb hm; simp at hm; subst hm; exact gF hb)), qF, gF, ?_⟩, by omega, by omega, ?_⟩
      · rw [← opS_all]; exact Q1.out
      · simp only [headsS, List.length_map, List.length_range]; omega
      · exact K1.out.trans' (KA.out.trans' Q2.out (fun j hj hm => by simp at hm; omega)) (fun j hj hm => by simp at hm)
end Go.Proofs.Ytiljhjegfklgmaa


/- Slots: what is refused; a disk that no fuse kills: what Put and Clear leave on it. -/
namespace Go.Proofs.Ytiljhjegfklgmaa
open Go.RowKit Go.Shelf

set_option maxRecDepth 100000 in
set_option maxHeartbeats 3200000 in
theorem lGet_no (w : World) (q p g first : Nat) (hs : List Hd) (S : SlotsAt w q p g first hs) (i : Int) (ht : takeE hs i ≠ 0) :
    Calls Try.prog 14 #[.pointer (some ⟨q, 0, none⟩), .int .i64 i] w fun e w' => e = .returned (.tuple #[.slice none 0 0, .int .i64 (takeE hs i)]) ∧ Keeps [] w w' := by
  have HS := hid S
  have tb : (takeE hs i != 0) = true := by simpa using ht
  obtain ⟨te, hte⟩ : ∃ x, x = takeE hs i := ⟨_, rfl⟩
  rw [← hte] at tb ⊢
  have HTE := hid hte
  clear ht hte S
  have kA : Keeps [] w (((w.alloc (.cells #[.pointer (some ⟨q, 0, none⟩)] 34)).alloc (.cells #[.slice none 0 0] 31)).alloc (.cells #[.int .i64 0] 25)) := (((Keeps.refl [] w).alloc _).alloc _).alloc _
  have b1 : (((w.alloc (.cells #[.pointer (some ⟨q, 0, none⟩)] 34)).alloc (.cells #[.slice none 0 0] 31)).alloc (.cells #[.int .i64 0] 25)).heap[w.heap.size + 1]? = some (.cells #[.slice none 0 0] 31 (0, 0)) := by
    refine (Below.heap_alloc _ _ _ (by simp)).trans ?_
    exact heap_alloc2_new w _ _
  have b2 : (((w.alloc (.cells #[.pointer (some ⟨q, 0, none⟩)] 34)).alloc (.cells #[.slice none 0 0] 31)).alloc (.cells #[.int .i64 0] 25)).heap[w.heap.size + 2]? = some (.cells #[.int .i64 0] 25 (0, 0)) := by
    have := heap_alloc_new ((w.alloc (.cells #[.pointer (some ⟨q, 0, none⟩)] 34)).alloc (.cells #[.slice none 0 0] 31)) (.cells #[.int .i64 0] 25)
    simpa using this
  have KA := hid kA
  have B1 := hid b1
  have B2 := hid b2
  clear kA b1 b2
  go_enter Try.func14, Try.ntmps14
  go_wp2_with fail
  generalize ((w.alloc (.cells #[.pointer (some ⟨q, 0, none⟩)] 34)).alloc (.cells #[.slice none 0 0] 31)).alloc (.cells #[.int .i64 0] 25) = wA at KA B1 B2 ⊢
  have c1 : wA.cell? ⟨w.heap.size + 1, 0, none⟩ = some (.slice none 0 0) := cell_of_row _ _ 0 _ _ (0, 0) B1.out
  have f1 : wA.frozen? ⟨w.heap.size + 1, 0, none⟩ = false := by simp [World.frozen?, B1.out]
  have X2 := (Below.heap_setCell wA ⟨w.heap.size + 1, 0, none⟩ (.slice none 0 0) (w.heap.size + 2) (show w.heap.size + 2 ≠ w.heap.size + 1 by omega)).trans B2.out
  have c2 : (wA.setCell ⟨w.heap.size + 1, 0, none⟩ (.slice none 0 0)).cell? ⟨w.heap.size + 2, 0, none⟩ = some (.int .i64 0) := cell_of_row _ _ 0 _ _ (0, 0) X2
  have f2 : (wA.setCell ⟨w.heap.size + 1, 0, none⟩ (.slice none 0 0)).frozen? ⟨w.heap.size + 2, 0, none⟩ = false := by simp [World.frozen?, X2]
  have X2H := hid X2
  clear X2
  have TK := lTake_any wA q p g first hs (HS.out.keep KA.out (by simp) (by simp)) i
  rw [← HTE.out] at TK
  have TKH := hid TK
  clear TK
  refine TKH.out.mono ?_
  rintro e w1 ⟨rfl, rfl⟩
  go_wp2_with fail
  have y1 : ((wA.setCell ⟨w.heap.size + 1, 0, none⟩ (.slice none 0 0)).setCell ⟨w.heap.size + 2, 0, none⟩ (.int .i64 te)).heap[w.heap.size + 1]? = some (.cells #[.slice none 0 0] 31 (0, 0)) :=
    (Below.heap_setCell _ _ _ _ (show w.heap.size + 1 ≠ w.heap.size + 2 by omega)).trans (heap_setCell_same _ _ _ _ _ _ B1.out)
  have y2 : ((wA.setCell ⟨w.heap.size + 1, 0, none⟩ (.slice none 0 0)).setCell ⟨w.heap.size + 2, 0, none⟩ (.int .i64 te)).heap[w.heap.size + 2]? = some (.cells #[.int .i64 te] 25 (0, 0)) := heap_setCell_same _ _ _ _ _ _ X2H.out
  refine bodyPost_ret (results_cells2 rfl _ _ ⟨w.heap.size + 1, 0, none⟩ ⟨w.heap.size + 2, 0, none⟩ (.slice none 0 0) (.int .i64 te) rfl rfl (loadSl_var (cell_of_row _ _ 0 _ _ (0, 0) y1)) (loadErr_var (cell_of_row _ _ 0 _ _ (0, 0) y2))) rfl ?_
  exact ⟨rfl, (KA.out.setCell (Or.inr (show w.heap.size ≤ w.heap.size + 1 by omega)) _).setCell (Or.inr (show w.heap.size ≤ w.heap.size + 2 by omega)) _⟩

theorem lOpen_nil (first : Int) (w : World) : Calls Try.prog 9 #[.pointer none, .int .i64 first] w fun e w' => e = .returned (.tuple #[.pointer none, .int .i64 1]) ∧ w = w' := by
  go_enter Try.func9, Try.ntmps9
  go_wp2_with fail
  go_ret2
  exact ⟨rfl, rfl⟩
theorem lOpen_arg (w : World) (p : Nat) (s : DS) (F : List Nat) (K : Nat) (D : DiskAt w p s F K) (first : Nat) (hf : s.cnt < first) : Calls Try.prog 9 #[.pointer (some ⟨p, 0, none⟩), .int .i64 first] w fun e w' => e = .returned (.tuple #[.pointer none, .int .i64 1]) ∧ w = w' := by
  have SC := hid (sectorsAt_any w p s F K D)
  have t1 : (s.cnt : Int) < (first : Int) := by omega
  clear D hf
  go_enter Try.func9, Try.ntmps9
  go_wp2_with fail
  refine SC.out.mono ?_
  rintro e _ ⟨rfl, rfl⟩
  go_wp2_with fail
  go_ret2
  exact ⟨rfl, rfl⟩

/-- A disk that lives, and that no fuse will kill. -/
def Alive (s : DS) : Prop := s.dead = false ∧ s.fuse < 0
theorem Alive.write {s : DS} (h : Alive s) {n : Nat} {zs : List Int} (hn : n < s.cnt) (hz : zs.length = 64) : Alive (writeS s n zs) ∧ (writeS s n zs).now = upd s.now n (mkRow zs) := by
  obtain ⟨h1, h2⟩ := h
  have ht : s.takes n zs.length := ⟨h1, by omega, by omega, hz⟩
  have hf : s.fuse ≠ 0 := by omega
  have hp : ¬ 0 < s.fuse := by omega
  simp only [writeS, if_pos ht, DS.wrote, if_neg hf, DS.spent, if_neg hp, Alive, Int.toNat_natCast]
  exact ⟨⟨h1, h2⟩, trivial⟩
theorem Alive.sync {s : DS} (h : Alive s) : Alive (syncS s) ∧ (syncS s).now = s.now := by
  obtain ⟨h1, h2⟩ := h
  have hf : s.fuse ≠ 0 := by omega
  have hp : ¬ 0 < s.fuse := by omega
  simp only [syncS, h1, Bool.false_eq_true, if_false, if_neg hf, DS.synced, DS.spent, if_neg hp, Alive]
  exact ⟨⟨trivial, h2⟩, trivial⟩
theorem Alive.holdW {s : DS} (h : Alive s) (n : Nat) (b : List Int) : ∀ k, n + k ≤ s.cnt → Alive (holdW s n b k) ∧ ∀ j, (holdW s n b k).now j = if n ≤ j ∧ j < n + k then mkRow (pad64 (chk b (j - n))) else s.now j
  | 0, _ => ⟨h, fun j => by rw [if_neg (by omega)]; rfl⟩
  | k + 1, hk => by
    obtain ⟨a1, a2⟩ := Alive.holdW h n b k (by omega)
    obtain ⟨b1, b2⟩ := a1.write (n := n + k) (zs := pad64 (chk b k)) (by rw [holdW_cnt]; omega) (pad64_len (chk_le b k))
    refine ⟨b1, fun j => ?_⟩
    show (writeS (Go.Proofs.Ytiljhjegfklgmaa.holdW s n b k) ((n + k : Nat) : Int) (pad64 (chk b k))).now j = _
    rw [b2]
    by_cases e : j = n + k
    · subst e
      rw [upd_same, if_pos (by omega)]
      congr 3
      omega
    · rw [upd_ne _ _ e, a2]
      by_cases h2 : n ≤ j ∧ j < n + k
      · rw [if_pos h2, if_pos (by omega)]
      · rw [if_neg h2, if_neg (by omega)]
theorem Alive.hold {s : DS} (h : Alive s) (n : Nat) (b : List Int) (hn : n + nch b.length ≤ s.cnt) : Alive (holdS s n b) ∧ ∀ j, (holdS s n b).now j = if n ≤ j ∧ j < n + nch b.length then mkRow (pad64 (chk b (j - n))) else s.now j := by
  obtain ⟨a1, a2⟩ := h.holdW n b (nch b.length) hn
  obtain ⟨b1, b2⟩ := a1.sync
  exact ⟨b1, fun j => by rw [holdS, b2]; exact a2 j⟩
theorem Alive.mark {s : DS} (h : Alive s) (n : Nat) (hd : Hd) (ok : hd.Ok) (hn : n < s.cnt) : Alive (markS s n hd) ∧ (markS s n hd).now = upd s.now n (mkRow (pad64 (headB hd))) := by
  obtain ⟨a1, a2⟩ := h.write (n := n) (zs := pad64 (headB hd)) hn (pad64_len (by have := headB_len hd ok; omega))
  obtain ⟨b1, b2⟩ := a1.sync
  exact ⟨b1, by rw [markS, b2, a2]⟩
theorem Alive.put {s : DS} (h : Alive s) (bg : Nat) (key b : List Int) (ok : Hd.Ok ⟨true, b.length, key⟩) (hn : bg + 8 ≤ s.cnt) : Alive (putD s bg key b) ∧
    ∀ j, (putD s bg key b).now j = if j = bg then mkRow (pad64 (headB ⟨true, b.length, key⟩)) else if bg + 1 ≤ j ∧ j < bg + 1 + nch b.length then mkRow (pad64 (chk b (j - (bg + 1)))) else s.now j := by
  have hb : b.length ≤ 448 := ok.held
  have h7 : nch b.length ≤ 7 := by unfold nch; omega
  obtain ⟨a1, a2⟩ := h.hold (bg + 1) b (by omega)
  obtain ⟨b1, b2⟩ := a1.mark bg ⟨true, b.length, key⟩ ok (by rw [holdS_cnt]; omega)
  refine ⟨b1, fun j => ?_⟩
  rw [putD, b2]
  by_cases e : j = bg
  · subst e; rw [upd_same, if_pos rfl]
  · rw [upd_ne _ _ e, if_neg e, a2]
theorem Alive.deadE {s : DS} (h : Alive s) : deadE s = 0 := by simp [Go.Proofs.Ytiljhjegfklgmaa.deadE, h.1]

theorem image_chk (f : Nat → Row) (b : List Int) (hf : ∀ j, j < nch b.length → (f j).1 = pad64 (chk b j)) : ∀ k, k ≤ nch b.length → (imageL f k).take b.length = b.take (k * 64)
  | 0, _ => by simp [imageL]
  | k + 1, hk => by
    have ih := image_chk f b hf k (by omega)
    have hlt : k * 64 < b.length := by unfold nch at hk; omega
    have hI := imageL_len f k
    have e : imageL f (k + 1) = imageL f k ++ (f k).1 := by
      unfold imageL
      rw [List.range_succ, List.flatMap_append]
      simp
    rw [List.take_of_length_le (by omega)] at ih
    rw [e, hf k (by omega), List.take_append, List.take_of_length_le (by omega), ih, List.length_take, Nat.min_eq_left (by omega)]
    have e2 : (k + 1) * 64 = k * 64 + 64 := by omega
    rw [e2, List.take_add]
    congr 1
    show (pad64 (chk b k)).take (b.length - k * 64) = chk b k
    have hc := chk_len b k
    unfold pad64
    by_cases h2 : b.length - k * 64 ≤ 64
    · have : (chk b k).length = b.length - k * 64 := by rw [hc]; unfold csz; omega
      rw [List.take_append_of_le_length (by omega), List.take_of_length_le (by omega)]
    · have : (chk b k).length = 64 := by rw [hc]; unfold csz; omega
      rw [this, Nat.sub_self, List.replicate_zero, List.append_nil, List.take_of_length_le (by omega)]

/-- What was put is what is read. -/
theorem getB_chk (s : DS) (bg : Nat) (b : List Int) (hb : b.length ≤ 448) (hby : ∀ z ∈ b, 0 ≤ z ∧ z ≤ 255) (hf : ∀ j, j < nch b.length → s.now (bg + 1 + j) = mkRow (pad64 (chk b j))) : getB s bg b.length = b := by
  have hbyc : ∀ j, ∀ z ∈ chk b j, 0 ≤ z ∧ z ≤ 255 := fun j z hz => hby z (List.mem_of_mem_drop (List.mem_of_mem_take hz))
  have hh := image_chk (fun j => s.now (bg + 1 + j)) b (fun j hj => by rw [hf j hj]; exact mkRow_is (pad64_len (chk_le b j)) (pad64_byte (hbyc j))) (nch b.length) (Nat.le_refl _)
  have h7 : nch b.length + (7 - nch b.length) = 7 := by unfold nch; omega
  rw [getB, ← h7, imageL_take _ _ _ (by unfold nch; omega), hh, List.take_of_length_le (by unfold nch; omega)]
theorem getB_put {s : DS} (h : Alive s) (bg : Nat) (key b : List Int) (ok : Hd.Ok ⟨true, b.length, key⟩) (hn : bg + 8 ≤ s.cnt) (hby : ∀ z ∈ b, 0 ≤ z ∧ z ≤ 255) : getB (putD s bg key b) bg b.length = b := by
  refine getB_chk _ bg b ok.held hby fun j hj => ?_
  rw [(h.put bg key b ok hn).2, if_neg (by omega), if_pos (by omega)]
  congr 3
  omega
end Go.Proofs.Ytiljhjegfklgmaa


/- Slots: the laws' awake. -/
namespace Go.Proofs.Ytiljhjegfklgmaa
open Go.RowKit Go.Shelf

theorem blank_alive (c : Nat) : Alive (blankS c) := ⟨rfl, by show (-1 : Int) < 0; omega⟩
theorem hd_zrow : hdOf zrow.1 = some hd0 := by kernel_rfl
theorem blank_good (c first n : Nat) : goodS (blankS c) first n := fun j _ => by
  show hdE zrow.1 = 0
  unfold hdE
  rw [hd_zrow]
  rfl
theorem blank_heads (c first n : Nat) : headsS (blankS c) first n = List.replicate n hd0 := by
  unfold headsS
  rw [List.eq_replicate_iff]
  refine ⟨by simp, fun x hx => ?_⟩
  obtain ⟨j, _, rfl⟩ := List.mem_map.1 hx
  show hdG zrow.1 = hd0
  unfold hdG
  rw [hd_zrow]
  rfl

/-- Slots that were made since w, over a disk that was made since w. -/
structure SlNew (W w : World) (q p g first : Nat) (hs : List Hd) (s : DS) (F : List Nat) (K : Nat) : Prop where
  at_ : SlAt w q p g first hs s F K
  new : W.heap.size ≤ q ∧ W.heap.size ≤ g ∧ ∀ b ∈ F, W.heap.size ≤ b
  kept : Keeps [] W w
theorem SlNew.keep {W w w' : World} {q p g first : Nat} {hs : List Hd} {s : DS} {F : List Nat} {K : Nat} (h : SlNew W w q p g first hs s F K) (k : Keeps [] w w') : SlNew W w' q p g first hs s F K :=
  ⟨h.at_.keep k (by simp) (by simp) (by simp), h.new, h.kept.trans k⟩
theorem SlNew.step {W w w' : World} {q p g first : Nat} {hs hs' : List Hd} {s s' : DS} {F : List Nat} {K K' : Nat} {er : Int} {e : Ending} (h : SlNew W w q p g first hs s F K) (hp : SlPost w q p g first hs' s' F K' er e w') :
    e = .returned (.int .i64 er) ∧ ∃ F', SlNew W w' q p g first hs' s' F' K' := by
  obtain ⟨rfl, F', h1, h2, h3⟩ := hp
  obtain ⟨n1, n2, n3⟩ := h.new
  refine ⟨rfl, F', h1, ⟨n1, n2, fun b hb => ?_⟩, h.kept.trans' h2 (fun i hi hm => ?_)⟩
  · rcases h3 b hb with h4 | h4
    · exact n3 b h4
    · have := h.kept.size; omega
  · simp only [List.mem_cons] at hm
    rcases hm with hm | hm
    · omega
    · have := n3 i hm; omega
theorem SlNew.off {W w : World} {q p g first : Nat} {hs : List Hd} {s : DS} {F : List Nat} {K : Nat} (h : SlNew W w q p g first hs s F K) {v : Value} {zs : List Int} (hr : RowAt W v zs) : Off F v zs := by
  intro ad n c e hne hm
  obtain ⟨a, cap, e2, _, _, _, _, h5⟩ := hr
  rw [e] at e2
  injection e2 with e2 _ _
  obtain ⟨z, l, rfl⟩ := List.exists_cons_of_ne_nil hne
  have h0 : W.cell? (ad.add 0) = some (.int .u8 z) := h5 ad e2.symm 0 _ (by simp)
  have h2 : (ad.add 0).block < W.heap.size := World.block_lt_of_cell? _ _ h0
  rw [Addr.add_block] at h2
  have h1 := h.new.2.2 _ hm
  omega
theorem SlNew.off' {W w : World} {q p g first : Nat} {hs : List Hd} {s : DS} {F : List Nat} {K : Nat} (h : SlNew W w q p g first hs s F K) (bl : Nat) (n c : Nat) (zs : List Int) (hb : w.heap.size ≤ bl) : Off F (.slice (some ⟨bl, 0, none⟩) n c) zs := by
  intro ad n' c' e _ hm
  injection e with e _ _
  obtain rfl := Option.some.inj e
  obtain ⟨m, dm⟩ := h.at_.dk.dm
  have := dm.lt _ hm
  simp at this
  omega

theorem row_two {w : World} (x y : Int) (T : TypeId) (hx : 0 ≤ x ∧ x ≤ 255) (hy : 0 ≤ y ∧ y ≤ 255) : RowAt (w.alloc (.cells #[.int .u8 x, .int .u8 y] T)) (.slice (some ⟨w.heap.size, 0, none⟩) 2 2) [x, y] := by
  refine ⟨some ⟨w.heap.size, 0, none⟩, 2, rfl, by simp, by unfold maxLen; omega, by simp, by simpa using ⟨hx, hy⟩, fun ad had j u hu => ?_⟩
  obtain rfl := Option.some.inj had
  rw [Addr.add_mid, Nat.zero_add, cell_of_row _ _ j _ _ (0, 0) (heap_alloc_new w _)]
  simpa using hu
theorem row_oneS {w : World} (z : Int) (T : TypeId) (hz : 0 ≤ z ∧ z ≤ 255) : RowAt (w.alloc (.cells #[.int .u8 z] T)) (.slice (some ⟨w.heap.size, 0, none⟩) 1 1) [z] := by
  refine ⟨some ⟨w.heap.size, 0, none⟩, 1, rfl, by simp, by unfold maxLen; omega, by simp, by simpa using hz, fun ad had j u hu => ?_⟩
  obtain rfl := Option.some.inj had
  rw [Addr.add_mid, Nat.zero_add, cell_of_row _ _ j _ _ (0, 0) (heap_alloc_new w _)]
  simpa using hu

/-- A new disk of so many sectors, and its slots. -/
theorem hs2 : List.replicate 2 hd0 = [hd0, hd0] := rfl
theorem ok7 : Hd.Ok ⟨true, ([1, 2] : List Int).length, [7]⟩ := ⟨by simp, by simp, by simp, fun h => by cases h⟩
theorem aw5_e : putE [hd0, hd0] 1 (blankS 17) 0 [7] [1, 2] = 0 := by
  have h : putE [hd0, hd0] 1 (blankS 17) 0 [7] [1, 2] = deadE (putD (blankS 17) 1 [7] [1, 2]) := rfl
  rw [h]
  exact ((blank_alive 17).put 1 [7] [1, 2] ok7 (by show 1 + 8 ≤ 17; omega)).1.deadE
theorem aw5_d : (putD (blankS 17) 1 [7] [1, 2]).dead = false := ((blank_alive 17).put 1 [7] [1, 2] ok7 (by show 1 + 8 ≤ 17; omega)).1.1
theorem aw5_s : putS [hd0, hd0] 1 (blankS 17) 0 [7] [1, 2] = putD (blankS 17) 1 [7] [1, 2] := rfl
theorem aw5_h : putH [hd0, hd0] 1 (blankS 17) 0 [7] [1, 2] = [⟨true, 2, [7]⟩, hd0] := by
  have e : putH [hd0, hd0] 1 (blankS 17) 0 [7] [1, 2] = if (true && !(putD (blankS 17) 1 [7] [1, 2]).dead) = true then [⟨true, 2, [7]⟩, hd0] else [hd0, hd0] := rfl
  rw [e, aw5_d]
  rfl
theorem aw5_b : getB (putD (blankS 17) 1 [7] [1, 2]) 1 2 = [1, 2] := getB_put (blank_alive 17) 1 [7] [1, 2] ok7 (by show 1 + 8 ≤ 17; omega) (by simp)

set_option maxRecDepth 100000 in
set_option maxHeartbeats 6400000 in
theorem awake5_any (w : World) : Calls Try.prog 4 #[] w fun e w' => e = .returned (.bool true) ∧ Keeps [] w w' := by
  have AB := hid aw5_b
  go_enter Try.func4, Try.ntmps4
  go_wp2_with fail
  refine (newAt_any 17 (by omega) (by omega) w).mono ?_
  rintro e w1 ⟨p, F1, rfl, d1, l1, k1⟩
  have D1 := hid d1
  have L1 := hid l1
  have K1 := hid k1
  clear d1 l1 k1
  go_wp2_with fail
  refine (lOpen_good w1 p (blankS 17) F1 0 D1.out 1 2 (by show 1 ≤ 17; omega) rfl rfl (blank_good 17 1 2)).mono ?_
  rintro e w2 ⟨q, g, rfl, H2, n1, n2, k2⟩
  rw [blank_heads, hs2] at H2
  have S2 : Hid (SlNew w w2 q p g 1 [hd0, hd0] (blankS 17) F1 0) := hid ⟨H2, ⟨by have := K1.out.size; omega, by have := K1.out.size; omega, L1.out⟩, K1.out.trans k2⟩
  clear H2 n1 n2 k2 D1 L1 K1
  go_wp2_with fail
  refine (lCount_any w2 q p g 1 _ S2.out.at_.sl).mono ?_
  rintro e _ ⟨rfl, rfl⟩
  go_wp2_with fail
  have kA := ((Keeps.refl [] w2).alloc (.cells #[.int .u8 7] 5)).alloc (.cells #[.int .u8 1, .int .u8 2] 5)
  have zA : ((w2.alloc (.cells #[.int .u8 7] 5)).alloc (.cells #[.int .u8 1, .int .u8 2] 5)).heap.size = w2.heap.size + 2 := by simp
  have R7 := (row_oneS (w := w2) 7 5 (by omega)).keep ((Keeps.refl [] _).alloc (.cells #[.int .u8 1, .int .u8 2] 5)) (by intro _ _ _ _ _; simp)
  have R12 := row_two (w := w2.alloc (.cells #[.int .u8 7] 5)) 1 2 5 (by omega) (by omega)
  have z1 : (w2.alloc (.cells #[.int .u8 7] 5)).heap.size = w2.heap.size + 1 := by simp
  rw [z1] at R12
  have S3 := hid (S2.out.keep kA)
  have O7 : Hid (Off F1 (.slice (some ⟨w2.heap.size, 0, none⟩) 1 1) [7]) := hid (S2.out.off' _ _ _ _ (Nat.le_refl _))
  have O12 : Hid (Off F1 (.slice (some ⟨w2.heap.size + 1, 0, none⟩) 2 2) [1, 2]) := hid (S2.out.off' _ _ _ _ (Nat.le_succ _))
  have R7H := hid R7
  have R12H := hid R12
  clear kA zA R7 R12 z1
  generalize (w2.alloc (.cells #[.int .u8 7] 5)).alloc (.cells #[.int .u8 1, .int .u8 2] 5) = w3 at S3 R7H R12H ⊢
  refine (lPut_any w3 q p g 1 _ _ F1 0 S3.out.at_ (by omega) 0 _ [7] R7H.out O7.out _ [1, 2] R12H.out O12.out).mono ?_
  intro e w4 hp
  obtain ⟨rfl, F4, q4⟩ := S3.out.step hp
  rw [aw5_e]
  rw [aw5_s, aw5_h] at q4
  have S4 := hid q4
  clear hp q4 S2 S3 O7 O12 R7H R12H
  go_wp2_with fail
  have hg := callsIn_wide.1 (get_in 9 (by omega) w4 q p g 1 _ _ F4 _ S4.out.at_ 0 1 rfl (by simp) rfl aw5_d)
  refine hg.mono ?_
  rintro e w5 ⟨v5, rfl, r5, _, k5⟩
  have R5 : Hid (RowAt w5 v5 [1, 2]) := hid (by have := r5; rw [show ([(⟨true, 2, [7]⟩ : Hd), hd0][0]).held = 2 from rfl, AB.out] at this; exact this)
  have S5 := hid (S4.out.keep k5)
  clear r5 k5 hg S4
  go_wp2_with fail
  have kA := (Keeps.refl [] w5).alloc (.cells #[.int .u8 1, .int .u8 2] 5)
  refine (same_true _ _ _ [1, 2] (R5.out.keep kA (by intro _ _ _ _ _; simp)) (row_two (w := w5) 1 2 5 (by omega) (by omega)) (by simp)).mono ?_
  rintro e w6 ⟨rfl, k6⟩
  have S6 := hid (S5.out.keep (kA.trans k6))
  clear kA k6 S5 R5
  go_wp2_with fail
  have kB := (Keeps.refl [] w6).alloc (.cells #[.int .u8 7] 5)
  have fnd := lFind_any _ q p g 1 _ (S6.out.keep kB).at_.sl _ [7] (row_oneS (w := w6) 7 5 (by omega))
  have fe : findS [⟨true, 2, [7]⟩, hd0] [7] = 0 := by decide +kernel
  rw [fe] at fnd
  have FND := hid fnd
  have S7 := hid (S6.out.keep kB)
  clear fnd fe kB
  refine FND.out.mono ?_
  rintro e w7 ⟨rfl, k7⟩
  have S8 := hid (S7.out.keep k7)
  clear k7 S6 S7
  go_wp2_with fail
  have fr := lFree_any w7 q p g 1 _ S8.out.at_.sl
  have fe : freeS [⟨true, 2, [7]⟩, hd0] = 1 := by decide +kernel
  rw [fe] at fr
  have FR := hid fr
  clear fr fe
  refine FR.out.mono ?_
  rintro e w8 ⟨rfl, k8⟩
  have K8 := hid (S8.out.kept.trans k8)
  clear k8
  go_wp2_with fail
  go_ret
  exact ⟨rfl, K8.out⟩
end Go.Proofs.Ytiljhjegfklgmaa


/- Slots: a head is read as it was written; what a Put and a Clear leave of the other slots (plain mathematics). -/
namespace Go.Proofs.Ytiljhjegfklgmaa
open Go.RowKit Go.Shelf

theorem allZ_rep (n : Nat) : allZ (List.replicate n 0) = true := by
  unfold allZ
  rw [List.all_eq_true]
  intro x hx
  rw [(List.mem_replicate.1 hx).2]
  rfl
theorem hdOf_zero (n : Nat) : hdOf (0 :: List.replicate n 0) = some hd0 := by
  have h1 : rdBool (0 :: List.replicate n 0) = .ok (false, List.replicate n 0) := by simp [rdBool, val]
  unfold hdOf
  rw [h1]
  simp only [allZ_rep, if_true]
theorem headB_back (h : Hd) (ok : h.Ok) : hdOf (pad64 (headB h)) = some h := by
  cases hu : h.used with
  | false =>
    have e : h = hd0 := ok.free hu
    subst e
    exact hdOf_zero 63
  | true =>
    obtain ⟨u, n, k⟩ := h
    obtain rfl : u = true := hu
    have hk : k.length ≤ 40 := ok.key
    have hn : n ≤ 448 := ok.held
    obtain ⟨z, hz⟩ : ∃ z, z = 64 - (headB ⟨true, n, k⟩).length := ⟨_, rfl⟩
    have e0 : pad64 (headB ⟨true, n, k⟩) = 1 :: (be n 2 ++ (be k.length 2 ++ k ++ List.replicate z 0)) := by
      unfold pad64
      rw [← hz]
      simp [headB]
    have h1 : rdBool (1 :: (be n 2 ++ (be k.length 2 ++ k ++ List.replicate z 0))) = .ok (true, be n 2 ++ (be k.length 2 ++ k ++ List.replicate z 0)) := by simp [rdBool, val]
    have l2 := be_length (n : Int) 2
    have h2 : rdNum 2 (be n 2 ++ (be k.length 2 ++ k ++ List.replicate z 0)) = .ok ((n : Int), be k.length 2 ++ k ++ List.replicate z 0) := by
      unfold rdNum
      rw [if_neg (by simp), if_neg (by simp [l2])]
      have e2 : (2 : Int).toNat = 2 := rfl
      rw [e2, List.take_append_of_le_length (by omega), List.take_of_length_le (by omega), List.drop_append_of_le_length (by omega), List.drop_eq_nil_of_le (by omega), List.nil_append, val_be 2 n (by omega) (by omega)]
    have h3 : rdHeld (be n 2 ++ (be k.length 2 ++ k ++ List.replicate z 0)) = .ok ((n : Int), be k.length 2 ++ k ++ List.replicate z 0) := by
      unfold rdHeld
      rw [h2]
      simp only
      rw [if_neg (by omega)]
    have h4 : rdCount 40 (be k.length 2 ++ k ++ List.replicate z 0) = .ok (k, List.replicate z 0) := rdCount_ok (by omega) (by omega)
    rw [e0]
    unfold hdOf
    rw [h1]
    simp only [h3, h4, allZ_rep, if_true]
    rfl
theorem mkRow_head (h : Hd) (ok : h.Ok) : (mkRow (pad64 (headB h))).1 = pad64 (headB h) := mkRow_is (pad64_len (by have := headB_len h ok; omega)) (pad64_byte (headB_byte h ok))

/-- The slots of a disk read as hs; what they hold is as want has it. -/
structure Reads (s : DS) (first : Nat) (hs : List Hd) (want : Nat → List Int) : Prop where
  alive : Alive s
  fit : first + hs.length * 8 ≤ s.cnt
  heads : ∀ j (h : j < hs.length), hdOf (s.now (first + j * 8)).1 = some hs[j]
  holds : ∀ j (h : j < hs.length), hs[j].used = true → getB s (first + j * 8) hs[j].held = want j
theorem Reads.good {s : DS} {first : Nat} {hs : List Hd} {want : Nat → List Int} (h : Reads s first hs want) : goodS s first hs.length := fun j hj => by
  unfold hdE
  rw [h.heads j hj]
  rfl
theorem Reads.all {s : DS} {first : Nat} {hs : List Hd} {want : Nat → List Int} (h : Reads s first hs want) : headsS s first hs.length = hs := by
  apply List.ext_getElem (by simp [headsS])
  intro j h1 h2
  simp only [headsS, List.getElem_map, List.getElem_range]
  unfold hdG
  rw [h.heads j h2]
  rfl
theorem getB_same {s s' : DS} {bg hl : Nat} (h : ∀ j, j < 7 → s'.now (bg + 1 + j) = s.now (bg + 1 + j)) : getB s' bg hl = getB s bg hl := by
  unfold getB imageL
  rw [List.flatMap_def, List.flatMap_def]
  have e : (List.range 7).map (fun i => (s'.now (bg + 1 + i)).1) = (List.range 7).map (fun i => (s.now (bg + 1 + i)).1) := List.map_congr_left fun j hj => by rw [h j (List.mem_range.1 hj)]
  rw [e]
theorem Reads.put {s : DS} {first : Nat} {hs : List Hd} {want : Nat → List Int} (h : Reads s first hs want) (i : Nat) (hi : i < hs.length) (key b : List Int) (ok : Hd.Ok ⟨true, b.length, key⟩) (hby : ∀ z ∈ b, 0 ≤ z ∧ z ≤ 255) :
    Reads (putD s (first + i * 8) key b) first (hs.set i ⟨true, b.length, key⟩) (upd want i b) := by
  have hfit := h.fit
  have hb : b.length ≤ 448 := ok.held
  have h7 : nch b.length ≤ 7 := by unfold nch; omega
  obtain ⟨a1, a2⟩ := h.alive.put (first + i * 8) key b ok (by omega)
  refine ⟨a1, by rw [List.length_set, putD_cnt]; exact hfit, fun j hj => ?_, fun j hj hu => ?_⟩
  · rw [List.length_set] at hj
    rw [a2]
    by_cases e : j = i
    · subst e
      rw [if_pos rfl, mkRow_head _ ok, headB_back _ ok, List.getElem_set_self]
    · rw [if_neg (by omega), if_neg (by omega), h.heads j hj, List.getElem_set_ne (fun h => e h.symm)]
  · rw [List.length_set] at hj
    by_cases e : j = i
    · subst e
      rw [upd_same, List.getElem_set_self]
      exact getB_put h.alive _ key b ok (by omega) hby
    · rw [upd_ne _ _ e, List.getElem_set_ne (fun h => e h.symm)]
      rw [List.getElem_set_ne (fun h => e h.symm)] at hu
      rw [← h.holds j hj hu]
      refine getB_same fun q hq => ?_
      rw [a2, if_neg (by omega), if_neg (by omega)]
theorem Reads.clear {s : DS} {first : Nat} {hs : List Hd} {want : Nat → List Int} (h : Reads s first hs want) (i : Nat) (hi : i < hs.length) :
    Reads (markS s (first + i * 8) hd0) first (hs.set i hd0) want := by
  have hfit := h.fit
  have ok : hd0.Ok := ⟨by simp [hd0], by simp [hd0], by simp [hd0], fun _ => rfl⟩
  obtain ⟨a1, a2⟩ := h.alive.mark (first + i * 8) hd0 ok (by omega)
  refine ⟨a1, by rw [List.length_set, markS_cnt]; exact hfit, fun j hj => ?_, fun j hj hu => ?_⟩
  · rw [List.length_set] at hj
    rw [a2]
    by_cases e : j = i
    · subst e
      rw [upd_same, mkRow_head _ ok, headB_back _ ok, List.getElem_set_self]
    · rw [upd_ne _ _ (by omega), h.heads j hj, List.getElem_set_ne (fun h => e h.symm)]
  · rw [List.length_set] at hj
    by_cases e : j = i
    · subst e
      rw [List.getElem_set_self] at hu
      cases hu
    · rw [List.getElem_set_ne (fun h => e h.symm)] at hu ⊢
      rw [← h.holds j hj hu]
      refine getB_same fun q hq => ?_
      rw [a2, upd_ne _ _ (by omega)]
theorem Reads.blank (c first n : Nat) (hf : first + n * 8 ≤ c) (want : Nat → List Int) : Reads (blankS c) first (List.replicate n hd0) want := by
  refine ⟨blank_alive c, by rw [List.length_replicate]; exact hf, fun j hj => ?_, fun j hj hu => ?_⟩
  · show hdOf zrow.1 = _
    rw [hd_zrow, List.getElem_replicate]
  · rw [List.getElem_replicate] at hu
    cases hu
end Go.Proofs.Ytiljhjegfklgmaa

/- The deeds of layer 5's laws: as they lie in memory, as they come in; the room; guarded operations of a drawn region. -/
namespace Go.Proofs.Ytiljhjegfklgmaa
open Go.ChangeShapes Go.WideShapes Go.ChangeAt Go.RowKit Go.Shelf
set_option maxRecDepth 100000

structure D5 where
  act : Int
  i : Int
  n : Int
  kv : Value
  bv : Value
  key : List Int
  b : List Int

/-- Deed d lies in the five cells from there on. -/
structure D5At (w : World) (g off : Nat) (d : D5) : Prop where
  c0 : w.cell? ⟨g, off, none⟩ = some (.int .i64 d.act)
  c1 : w.cell? ⟨g, off + 1, none⟩ = some (.int .i64 d.i)
  c2 : w.cell? ⟨g, off + 2, none⟩ = some (.int .i64 d.n)
  c3 : w.cell? ⟨g, off + 3, none⟩ = some d.kv
  c4 : w.cell? ⟨g, off + 4, none⟩ = some d.bv
  rk : RowAt w d.kv d.key
  rb : RowAt w d.bv d.b
  b0 : i64 d.act
  b1 : i64 d.i
  b2 : i64 d.n
def D5sAt (w : World) (v : Value) (ds : List D5) : Prop :=
  ∃ (a : Option Addr) (cap : Nat), v = .slice a ds.length cap ∧ ds.length ≤ cap ∧ cap ≤ maxLen ∧ (a = none → cap = 0) ∧
    (ds ≠ [] → ∃ g off, a = some ⟨g, off, none⟩ ∧ ∀ i (h : i < ds.length), D5At w g (off + i * 5) ds[i])
theorem D5At.keep {w w' : World} {g off : Nat} {d : D5} (h : D5At w g off d) (k : Keeps [] w w') : D5At w' g off d :=
  ⟨k.cell h.c0 (by simp), k.cell h.c1 (by simp), k.cell h.c2 (by simp), k.cell h.c3 (by simp), k.cell h.c4 (by simp), h.rk.keep k (by intro _ _ _ _ _; simp), h.rb.keep k (by intro _ _ _ _ _; simp), h.b0, h.b1, h.b2⟩
theorem D5sAt.keep {w w' : World} {v : Value} {ds : List D5} (h : D5sAt w v ds) (k : Keeps [] w w') : D5sAt w' v ds := by
  obtain ⟨a, cap, rfl, h1, h2, h0, h3⟩ := h
  refine ⟨a, cap, rfl, h1, h2, h0, fun hne => ?_⟩
  obtain ⟨g, off, rfl, h4⟩ := h3 hne
  exact ⟨g, off, rfl, fun i hi => (h4 i hi).keep k⟩

section
variable {H : Type} {enc : TypeId × Value → H}
theorem cells_int5 : Try.prog.cellsOf 3 = 1 := by kernel_rfl
end

def Room5 (ds : List D5) (most : Nat) : Prop := ds.length ≤ most ∧ ∀ d ∈ ds, d.key.length ≤ 100 ∧ d.b.length ≤ 600

def RoomPost5 (w : World) (ds : List D5) (most : Nat) (e : Ending) (w' : World) : Prop := ∃ b, e = .returned (.bool b) ∧ w = w' ∧ (b = true → Room5 ds most)

section
variable {P : Program} {ops : Array Oper} {Q : Exit → Act → World → Prop}
/-- A guarded one that is wanted. -/
theorem held_takeW {md : Region.Mode} {S : World → Prop} {i : Nat} {oi : Oper} {v : Value} {fuel : Nat} {listed : Array Bool} {a : Act} {w : World} (hi : ops.toList[i]? = some oi)
    (hs : Region.noSelect ops = true) (hf : Region.free md ops listed i = true) (hr : (Region.ready md ops listed).contains i = true)
    (hQ : ∀ c a w, Q (.panic c) (a.put oi.dst v) w → Q (.panic c) a w) (hw : Region.wanted oi (yielded ops a.tmps) = true) (hy : ∀ w, S w → (execOp a.eval oi).run P w = .ok (.value v) w) (hS : S w)
    (h : wpAnyH P md ops Q S fuel (listed.setIfInBounds i true) (a.put oi.dst v) w) : wpAnyH P md ops Q S (fuel + 1) listed a w :=
  wpAnyH_take (by simpa using hi) hs hf hr hQ (Or.inl ⟨hw, hy⟩) hS h
/-- A guarded one that is not wanted. -/
theorem held_skip {md : Region.Mode} {S : World → Prop} {i : Nat} {oi : Oper} {fuel : Nat} {listed : Array Bool} {a : Act} {w : World} (hi : ops.toList[i]? = some oi)
    (hs : Region.noSelect ops = true) (hf : Region.free md ops listed i = true) (hr : (Region.ready md ops listed).contains i = true)
    (hQ : ∀ c a w, Q (.panic c) (a.put oi.dst undef) w → Q (.panic c) a w) (hw : Region.wanted oi (yielded ops a.tmps) = false) (hS : S w)
    (h : wpAnyH P md ops Q S fuel (listed.setIfInBounds i true) (a.put oi.dst undef) w) : wpAnyH P md ops Q S (fuel + 1) listed a w :=
  wpAnyH_take (by simpa using hi) hs hf hr hQ (Or.inr ⟨hw, rfl⟩) hS h
/-- A guarded one that is wanted, and the one that may come up. -/
theorem held_doW {md : Region.Mode} {S : World → Prop} {i : Nat} {o : Oper} {fuel : Nat} {listed : Array Bool} {a : Act} {w : World} (hr : Region.ready md ops listed = [i]) (ho' : ops.toList[i]? = some o) (hw : Region.wanted o (yielded ops a.tmps) = true)
    (h : o.wp P a w (fun a' w' => S w' ∧ wpAnyH P md ops Q S fuel (listed.setIfInBounds i true) a' w') Q) : wpAnyH P md ops Q S (fuel + 1) listed a w := by
  have ho : ops[i]? = some o := by simpa using ho'
  refine wpAnyH_all hr (by simp) fun j hj => ?_
  obtain rfl : j = i := by simpa using hj
  unfold wpOp
  simp only [ho, hw, if_true]
  exact Or.inl h
end
end Go.Proofs.Ytiljhjegfklgmaa

/- Slots: what a deed of the laws does to slots of a living disk; five cells in a row. -/
namespace Go.Proofs.Ytiljhjegfklgmaa
open Go.RowKit Go.Shelf

theorem put_eff {s : DS} {hs : List Hd} {want : Nat → List Int} (R : Reads s 1 hs want) (k : Nat) (hk : k < hs.length) (key b : List Int) (hky : ∀ z ∈ key, 0 ≤ z ∧ z ≤ 255) (hby : ∀ z ∈ b, 0 ≤ z ∧ z ≤ 255) :
    (putE hs 1 s k key b = 0 ∧ hs[k].used = false ∧ Reads (putS hs 1 s k key b) 1 (putH hs 1 s k key b) (upd want k b) ∧ putH hs 1 s k key b = hs.set k ⟨true, b.length, key⟩) ∨
    (putE hs 1 s k key b ≠ 0 ∧ putH hs 1 s k key b = hs ∧ putS hs 1 s k key b = s) := by
  have hh : hasS hs k = true := by simp [hasS, hk]
  have hu : usedS hs k = hs[k].used := by rw [usedS, headS_at hk]
  by_cases hl : 40 < key.length ∨ 448 < b.length
  · right
    have eo : putOk hs k key b = false := by simp [putOk]; omega
    refine ⟨?_, by simp [putH, eo], by simp [putS, eo]⟩
    simp only [putE, hh, hl, if_true]
    simp
  · cases hus : hs[k].used with
    | true =>
      right
      have eo : putOk hs k key b = false := by simp [putOk, hu, hus]
      refine ⟨?_, by simp [putH, eo], by simp [putS, eo]⟩
      simp only [putE, hh, hl, hu, hus, if_true]
      simp
    | false =>
      left
      have ok : Hd.Ok ⟨true, b.length, key⟩ := ⟨by show key.length ≤ 40; omega, hky, by show b.length ≤ 448; omega, fun h => by cases h⟩
      have eo : putOk hs k key b = true := by simp [putOk, hu, hus, hh]; omega
      have RP := R.put k hk key b ok hby
      have al := RP.alive
      have e1 : putS hs 1 s k key b = putD s (1 + k * 8) key b := by simp only [putS, eo, if_true, Int.toNat_natCast]
      have e2 : putH hs 1 s k key b = hs.set k ⟨true, b.length, key⟩ := by
        simp only [putH, eo, Bool.true_and, Int.toNat_natCast, al.1, Bool.not_false, if_true]
      refine ⟨?_, rfl, by rw [e1, e2]; exact RP, e2⟩
      have : putE hs 1 s k key b = deadE (putD s (1 + k * 8) key b) := by simp only [putE, hh, hl, hu, hus, if_false, Int.toNat_natCast]; simp
      rw [this, al.deadE]

theorem clear_eff {s : DS} {hs : List Hd} {want : Nat → List Int} (R : Reads s 1 hs want) (k : Nat) (hk : k < hs.length) :
    (hs[k].used = true ∧ clearE hs 1 s k = 0 ∧ Reads (clearS hs 1 s k) 1 (clearH hs 1 s k) want ∧ clearH hs 1 s k = hs.set k hd0) ∨
    (hs[k].used = false ∧ clearE hs 1 s k = 6 ∧ clearH hs 1 s k = hs ∧ clearS hs 1 s k = s) := by
  have hh : hasS hs k = true := by simp [hasS, hk]
  have hu : usedS hs k = hs[k].used := by rw [usedS, headS_at hk]
  cases hus : hs[k].used with
  | true =>
    left
    have eo : clearOk hs k = true := by simp [clearOk, hh, hu, hus]
    have RC := R.clear k hk
    have al := RC.alive
    have et : takeE hs k = 0 := by simp [takeE, hh, hu, hus]
    have e1 : clearS hs 1 s k = markS s (1 + k * 8) hd0 := by simp only [clearS, eo, if_true, Int.toNat_natCast]
    have e2 : clearH hs 1 s k = hs.set k hd0 := by simp only [clearH, eo, Bool.true_and, Int.toNat_natCast, al.1, Bool.not_false, if_true]
    refine ⟨rfl, ?_, by rw [e1, e2]; exact RC, e2⟩
    simp only [clearE, et, if_true, Int.toNat_natCast]
    exact al.deadE
  | false =>
    right
    have eo : clearOk hs k = false := by simp [clearOk, hu, hus]
    have et : takeE hs k = 6 := by simp [takeE, hh, hu, hus]
    refine ⟨rfl, ?_, by simp [clearH, eo], by simp [clearS, eo]⟩
    simp only [clearE, et]
    simp

theorem putS_cnt (hs : List Hd) (f : Nat) (s : DS) (i : Int) (key b : List Int) : (putS hs f s i key b).cnt = s.cnt := by
  unfold putS
  split
  · exact putD_cnt _ _ _ _
  · rfl
theorem clearS_cnt (hs : List Hd) (f : Nat) (s : DS) (i : Int) : (clearS hs f s i).cnt = s.cnt := by
  unfold clearS
  split
  · exact markS_cnt _ _ _
  · rfl
/-- The least slot from 5 - m on that is not used. -/
def fd (hs : List Hd) : Nat → Int
  | 0 => -1
  | m + 1 => if (hs.getD (4 - m) hd0).used then fd hs m else ((4 - m : Nat) : Int)
theorem fd_free (hs : List Hd) (h : hs.length = 5) : fd hs 5 = freeS hs := by
  match hs, h with
  | [a, b, c, d, e], _ =>
    simp only [fd, freeS, idxS, List.findIdx?_cons, List.findIdx?_nil]
    cases ha : a.used <;> cases hb : b.used <;> cases hc : c.used <;> cases hdd : d.used <;> cases he : e.used <;> simp [ha, hb, hc, hdd, he]

def row5 (vs : Nat → Value) : List Value := (List.range 5).map vs
theorem row5_set (vs : Nat → Value) (i : Nat) (v : Value) : (row5 vs).toArray.setIfInBounds i v = (row5 (upd vs i v)).toArray := by
  rw [List.setIfInBounds_toArray]
  congr 1
  unfold row5
  apply List.ext_getElem?
  intro j
  by_cases e : j = i
  · subst e
    by_cases hj : j < 5
    · rw [List.getElem?_set_self (by simpa using hj)]; simp [hj]
    · rw [List.getElem?_eq_none (by simp; omega), List.getElem?_eq_none (by simp; omega)]
  · rw [List.getElem?_set_ne (fun h => e h.symm)]
    by_cases hj : j < 5
    · simp [hj, upd_ne _ _ e]
    · rw [List.getElem?_eq_none (by simp; omega), List.getElem?_eq_none (by simp; omega)]
theorem row5_at (vs : Nat → Value) (i : Nat) (h : i < 5) : (row5 vs).toArray[i]? = some (vs i) := by simp [row5, h]

theorem row5_congr {f g : Nat → Value} (h : ∀ k, k < 5 → f k = g k) : row5 f = row5 g := List.map_congr_left fun k hk => h k (List.mem_range.1 hk)
theorem getD_set {hs : List Hd} {k : Nat} (hk : k < hs.length) (x : Hd) (j : Nat) : (hs.set k x).getD j hd0 = if j = k then x else hs.getD j hd0 := by
  rw [List.getD_eq_getElem?_getD, List.getD_eq_getElem?_getD]
  by_cases e : j = k
  · subst e
    rw [List.getElem?_set_self hk, if_pos rfl]
    rfl
  · rw [List.getElem?_set_ne (fun h => e h.symm), if_neg e]
/-- Go's ((x % 5) + 5) % 5. -/
theorem mod5 (x : Int) : ∃ kk : Nat, kk < 5 ∧ (wrap64 (x.tmod 5 + 5)).tmod 5 = (kk : Int) := by
  have h1 : x.tmod 5 < 5 := Int.tmod_lt_of_pos x (by omega)
  have h2 : -5 < x.tmod 5 := Int.lt_tmod_of_pos x (by omega)
  have h3 : wrap64 (x.tmod 5 + 5) = x.tmod 5 + 5 := by unfold wrap64; omega
  rw [h3, Int.tmod_eq_emod_of_nonneg (by omega)]
  exact ⟨((x.tmod 5 + 5) % 5).toNat, by omega, by omega⟩

/-- The state of the law: its slots, what it wants of them, which are used. -/
structure Ap (W w : World) (q p g gw gu : Nat) (hs : List Hd) (s : DS) (F : List Nat) (K : Nat) (want : Nat → List Int) (wv : Nat → Value) : Prop where
  sl : SlNew W w q p g 1 hs s F K
  five : hs.length = 5
  cnt : s.cnt = 41
  rd : Reads s 1 hs want
  w5 : w.heap[gw]? = some (.cells (row5 wv).toArray 31 (0, 0))
  u5 : w.heap[gu]? = some (.cells (row5 fun k => .bool (hs.getD k hd0).used).toArray 4 (0, 0))
  row : ∀ k, k < 5 → (hs.getD k hd0).used = true → RowAt W (wv k) (want k)
  sli : ∀ k, k < 5 → ∃ a n c, wv k = .slice a n c
  new : W.heap.size ≤ gw ∧ W.heap.size ≤ gu ∧ gw ≠ gu
  off : ∀ b, b = gw ∨ b = gu → b ∉ F ∧ b ≠ q ∧ b ≠ g

section
variable {W w w' : World} {q p g gw gu : Nat} {hs : List Hd} {s : DS} {F : List Nat} {K : Nat} {want : Nat → List Int} {wv : Nat → Value}
theorem Ap.keep (h : Ap W w q p g gw gu hs s F K want wv) (k : Keeps [] w w') : Ap W w' q p g gw gu hs s F K want wv :=
  ⟨h.sl.keep k, h.five, h.cnt, h.rd, (k.block _ (lt_of_block h.w5) (by simp)).trans h.w5, (k.block _ (lt_of_block h.u5) (by simp)).trans h.u5, h.row, h.sli, h.new, h.off⟩
theorem Ap.cw (h : Ap W w q p g gw gu hs s F K want wv) (k : Nat) (hk : k < 5) : w.cell? ⟨gw, k, none⟩ = some (wv k) := by rw [cell_of_row _ _ k _ _ (0, 0) h.w5]; exact row5_at _ _ hk
theorem Ap.cu (h : Ap W w q p g gw gu hs s F K want wv) (k : Nat) (hk : k < 5) : w.cell? ⟨gu, k, none⟩ = some (.bool (hs.getD k hd0).used) := by rw [cell_of_row _ _ k _ _ (0, 0) h.u5]; exact row5_at _ _ hk
theorem Ap.fw (h : Ap W w q p g gw gu hs s F K want wv) (k : Nat) : w.frozen? ⟨gw, k, none⟩ = false := by simp [World.frozen?, h.w5]
theorem Ap.fu (h : Ap W w q p g gw gu hs s F K want wv) (k : Nat) : w.frozen? ⟨gu, k, none⟩ = false := by simp [World.frozen?, h.u5]
/-- A deed on the slots, the law's own rows not yet written. -/
theorem Ap.post {hs' : List Hd} {s' : DS} {K' : Nat} {er : Int} {e : Ending} (h : Ap W w q p g gw gu hs s F K want wv) (hp : SlPost w q p g 1 hs' s' F K' er e w') :
    e = .returned (.int .i64 er) ∧ ∃ F', SlNew W w' q p g 1 hs' s' F' K' ∧ w'.heap[gw]? = some (.cells (row5 wv).toArray 31 (0, 0)) ∧ w'.heap[gu]? = some (.cells (row5 fun k => .bool (hs.getD k hd0).used).toArray 4 (0, 0)) ∧
      (∀ b, b = gw ∨ b = gu → b ∉ F' ∧ b ≠ q ∧ b ≠ g) := by
  have hp2 := hp
  obtain ⟨_, F0, h1, h2, h3⟩ := hp2
  have hn : ∀ b, b = gw ∨ b = gu → b ∉ g :: F := fun b hb hm => by
    rcases List.mem_cons.1 hm with hm | hm
    · exact (h.off b hb).2.2 hm
    · exact (h.off b hb).1 hm
  have hlw := lt_of_block h.w5
  have hlu := lt_of_block h.u5
  obtain ⟨rfl, F', h1', h2', h3'⟩ := hp
  obtain ⟨n1, n2, n3⟩ := h.sl.new
  refine ⟨rfl, F', ⟨h1', ⟨n1, n2, fun b hb => ?_⟩, h.sl.kept.trans' h2' (fun i hi hm => ?_)⟩, (h2'.block _ hlw (hn _ (.inl rfl))).trans h.w5, (h2'.block _ hlu (hn _ (.inr rfl))).trans h.u5, fun b hb => ⟨fun hm => ?_, (h.off b hb).2⟩⟩
  · rcases h3' b hb with h4 | h4
    · exact n3 b h4
    · have := h.sl.kept.size; omega
  · simp only [List.mem_cons] at hm
    rcases hm with hm | hm
    · omega
    · have := n3 i hm; omega
  · rcases h3' b hm with h4 | h4
    · exact (h.off b hb).1 h4
    · rcases hb with rfl | rfl <;> omega
end
end Go.Proofs.Ytiljhjegfklgmaa
