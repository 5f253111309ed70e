/- Load, the function. -/
import Derived.Test.YtnjlhplcagkcnaaGreatDkS
namespace Go.Proofs.YtnjlhplcagkcnaaGreat
open Go.RowKit Go.Shelf
attribute [local go_sem] Oper.semAt_some

/-- What the first rows of an image make of a disk. -/
def chunkF {cnt : Nat} (R : Nat → Row) (pre : List {x : Nat // x < cnt}) (i : Nat) : Row × Row := match pre[i]? with | some x => (R x.1, R x.1) | none => (zrow, zrow)

theorem chunkF_snoc {cnt : Nat} (R : Nat → Row) (pre : List {x : Nat // x < cnt}) (x : {x : Nat // x < cnt}) : upd (chunkF R pre) pre.length (R x.1, R x.1) = chunkF R (pre ++ [x]) := by
  funext i
  by_cases h : i = pre.length
  · subst h
    simp [chunkF, upd]
  · rw [upd_ne _ _ h]
    unfold chunkF
    by_cases h2 : i < pre.length
    · rw [List.getElem?_append_left h2]
    · rw [List.getElem?_eq_none (by omega), List.getElem?_eq_none (by simp; omega)]

theorem exec_toArr {ρ : Operand → Value} {o : Oper} {w : World} {ad : Option Addr} {c : Nat} (x : Operand) (ho : o.op = .sliceToArrayPointer 124 x) (hx : ρ x = .slice ad 64 c) : (execOp ρ o).run Tryz.prog w = .ok (.value (.pointer ad)) w := by
  simp [execOp, ho, hx, Instr.arrayAt, run_underlying uRow, Result.andThen]

set_option maxRecDepth 100000 in
set_option maxHeartbeats 4000000 in
theorem load_in (n : Nat) (hn : 4 ≤ n) (w : World) (g off cap cnt : Nat) (R : Nat → Row) (hc : 2 ≤ cnt) (hc2 : cnt ≤ 4160) (hcap : cnt * 64 ≤ cap) (hg : g < w.heap.size) (hR : ∀ x, x < cnt → w.rangeAt g (off + x * 64) (R x).cells) :
    CallsIn Fence.wide n Tryz.prog 43 #[.slice (some ⟨g, off, none⟩) (cnt * 64) cap] w fun e w' => ∃ p m nn, e = .returned (.tuple #[.pointer (some ⟨p, 0, none⟩), .int .i64 0]) ∧
      (∃ pre : List {x : Nat // x < cnt}, pre.map (·.1) = List.range cnt ∧ DiskIn w' p m (.slice none 0 0) nn ⟨cnt, fun i => (chunkF R pre i).1, fun i => (chunkF R pre i).2, [], -1, 0, false⟩) ∧ nn ≤ cnt ∧ w.heap.size ≤ p ∧ w.heap.size ≤ m ∧ Keeps [] w w' := by
  have h1 : 1 ≤ n := by omega
  have HR := hid hR
  clear hR
  have t1 : (((cnt : Int) * 64) % 64 == 0) = true := by simp
  have t2 : ((cnt : Int) * 64).tdiv 64 = cnt := by simp
  refine callsIn_of_wp_marks Tryz.func43 rfl trivial ?_ rfl
  simp only [Tryz.ntmps43, List.size_toArray, List.length_cons, List.length_nil, Nat.reduceAdd, Nat.reduceSub, Array.replicate_succ, Array.replicate_zero, List.push_toArray, List.append_toArray, List.nil_append, List.cons_append]
  gi_wp2
  refine ⟨trivial, (callsIn_wide.2 (blank_any cnt w)).mono ?_⟩
  rintro e w1 ⟨p, m, rfl, D, kA, hp0, hm0⟩
  have D1 := hid D
  have K1 := hid kA
  clear D kA
  gi_wp2
  have hz1 : w.heap.size ≤ w1.heap.size := K1.out.size
  have kB : Keeps [] w1 ((w1.alloc (.cells #[.pointer (some ⟨p, 0, none⟩)] 23)).alloc (.cells #[.int .i64 0] 3)) := ((Keeps.refl [] w1).alloc _).alloc _
  have zA : ((w1.alloc (.cells #[.pointer (some ⟨p, 0, none⟩)] 23)).alloc (.cells #[.int .i64 0] 3)).heap.size = w1.heap.size + 2 := by simp
  have gA := heap_alloc2_old w1 (.cells #[.pointer (some ⟨p, 0, none⟩)] 23) (.cells #[.int .i64 0] 3)
  have bA := heap_alloc2_new w1 (.cells #[.pointer (some ⟨p, 0, none⟩)] 23) (.cells #[.int .i64 0] 3)
  generalize (w1.alloc (.cells #[.pointer (some ⟨p, 0, none⟩)] 23)).alloc (.cells #[.int .i64 0] 3) = wA at kB zA gA bA ⊢
  refine ⟨trivial, (callsIn_wide.2 (chunk_any wA (some ⟨g, off, none⟩) (cnt * 64) cap)).mono ?_⟩
  rintro e w3 ⟨rfl, rfl⟩
  rw [zA]
  gi_wp2
  have kC : Keeps [] wA ((wA.alloc (.cells #[.slice (some ⟨g, off, none⟩) (cnt * 64) cap] 36)).alloc (.cells #[.int .i64 64] 3)) := ((Keeps.refl [] wA).alloc _).alloc _
  have z3 : ((wA.alloc (.cells #[.slice (some ⟨g, off, none⟩) (cnt * 64) cap] 36)).alloc (.cells #[.int .i64 64] 3)).heap.size = w1.heap.size + 4 := by simp; omega
  have q1 := cell_of_row _ _ 0 _ _ (0, 0) (heap_alloc2_old wA (.cells #[.slice (some ⟨g, off, none⟩) (cnt * 64) cap] 36) (.cells #[.int .i64 64] 3))
  have q2 := cell_of_row _ _ 0 _ _ (0, 0) (heap_alloc2_new wA (.cells #[.slice (some ⟨g, off, none⟩) (cnt * 64) cap] 36) (.cells #[.int .i64 64] 3))
  have g3 := (kC.block w1.heap.size (by omega) (by simp)).trans gA
  have b3 := (kC.block (w1.heap.size + 1) (by omega) (by simp)).trans bA
  rw [zA] at q1 q2
  have k3 : Keeps [] w1 _ := kB.trans kC
  generalize (wA.alloc (.cells #[.slice (some ⟨g, off, none⟩) (cnt * 64) cap] 36)).alloc (.cells #[.int .i64 64] 3) = w3 at kC z3 q1 q2 g3 b3 k3 ⊢
  have hpl := D1.out.lt
  have hml := D1.out.map.lt
  have hpm := D1.out.pm
  have D3 := hid (D1.out.keep k3 (by simp))
  have HS := hid (chunk_stops (n - 1) (by omega) (w1.heap.size + 2) (w1.heap.size + 3) g off cap w3.heap.size cnt [m, w1.heap.size + 1] hc2 hcap w3 q1 q2 (by refine ⟨by omega, by simp; omega⟩) (by refine ⟨by omega, by simp; omega⟩))
  refine wpIn_rangeFunc_ownH rfl h1 (gf := 134) (lb := #[.pointer (some ⟨w1.heap.size + 2, 0, none⟩), .pointer (some ⟨w1.heap.size + 3, 0, none⟩)]) rfl trivial (fun _ _ => rfl) HS.out KpS.trans (KpS.putObj (Nat.le_refl _)) (Below.refl _ _) (fun _ => rfl)
    (fun pre W => KpS [m, w1.heap.size + 1] w3.heap.size w3 W ∧ pre.length ≤ cnt ∧ MapIs W m pre.length cnt (chunkF R pre) ∧ W.heap[w1.heap.size + 1]? = some (.cells #[.int .i64 pre.length] 3 (0, 0)))
    (fun _ _ _ => False) ?own (fun _ _ _ _ _ hs _ _ => hs) ⟨KpS.refl _ _ _, by simp, D3.out.map, by rw [b3]; simp⟩
    (fun x a' W => a' = { tmps := #[.slice (some ⟨g, off, none⟩) (cnt * 64) cap, undef, .pointer none, .int .i64 0, .int .i64 cnt, .pointer (some ⟨w1.heap.size, 0, none⟩), .pointer (some ⟨w1.heap.size + 1, 0, none⟩), .slice (some ⟨g, off + x.1 * 64, none⟩) 64 64, .slice (some ⟨g, off, none⟩) (cnt * 64) cap, .int .i64 ((cnt : Int) * 64), .int .i64 cnt, .slice (some ⟨g, off, none⟩) (cnt * 64) cap, .int .i64 ((cnt : Int) * 64), .int .i64 0, .bool false, .bool false, .int .i64 cnt, .bool (decide ((cnt : Int) < 2)), .bool (decide ((cnt : Int) < 2)), .bool (decide ((cnt : Int) < 2)), .int .i64 cnt, .bool (decide (4160 < (cnt : Int))), .bool (decide ((cnt : Int) < 2) || decide (4160 < (cnt : Int))), .int .i64 cnt, .pointer (some ⟨p, 0, none⟩), .slice (some ⟨g, off, none⟩) (cnt * 64) cap, .func (.func 134) #[] #[.pointer (some ⟨w1.heap.size + 2, 0, none⟩), .pointer (some ⟨w1.heap.size + 2 + 1, 0, none⟩)], .slice (some ⟨g, off + x.1 * 64, none⟩) 64 64, undef, undef, undef, undef, undef, undef, undef, undef, undef, undef], defers := [] })
    (fun _ _ => fun _ _ _ _ hs _ _ => hs) ?assign ?body ?done ?stop
  case own =>
    rintro pre A B' row ⟨h1, h2, h3, h4⟩ hg hr
    have hlow : ∀ k, k < w3.heap.size → B'.heap[k]? = A.heap[k]? := fun k hk => hg.block k (by have := h1.size; omega) (fun e => by have := (hr k e.symm).1; omega)
    exact ⟨h1.trans ⟨hg.os, hg.tape, hg.output, hg.size, fun k hk _ => hlow k hk⟩, h2, h3.block (hlow _ (by omega)), (hlow _ (by omega)).trans h4⟩
  case assign =>
    rintro l pre x W K hI hC
    refine round_plain (by kernel_rfl) noOut_then ?_
    simp only [List.zip_toArray, List.zip_cons_cons, List.zip_nil_right, List.foldl_toArray, List.foldl_cons, List.foldl_nil, List.setIfInBounds_toArray, List.set_cons_zero, List.set_cons_succ]
    refine wpList_is rfl (.slice (some ⟨g, off + x.1 * 64, none⟩) 64 64) W rfl ?_
    simp only [Act.put, List.setIfInBounds_toArray, List.set_cons_zero, List.set_cons_succ]
    refine wpList_nil ?_
    exact hC _ _ ⟨Nat.le_refl _, fun k o _ hk _ => hk⟩ (KpS.refl _ _ _) hI rfl
  case body =>
    rintro l pre x a' W hl2 _ ⟨hK, hl, hM, hB⟩ rfl hlen
    refine wpIn_block (wpIn_seq (round_region (by kernel_rfl) (by kernel_rfl) (fun h => by obtain ⟨_, _, h⟩ := h; exact h) ?_))
    refine wpAny_of_held (S := KpS [m] W.heap.size W.drew) _ _ _ _ ?_
    have hs := hK.size
    have hz : W.drew.heap.size = W.heap.size := rfl
    have cb : ∀ W1, KpS [m] W.heap.size W.drew W1 → W1.cell? ⟨w1.heap.size, 0, none⟩ = some (.pointer (some ⟨p, 0, none⟩)) := fun W1 h => h.cell (by rw [World.cell?_drew]; exact hK.cell (cell_of_row _ _ 0 _ _ (0, 0) g3) (by omega) (by simp; omega)) (by omega) (by simp; omega)
    have cn : ∀ W1, KpS [m] W.heap.size W.drew W1 → W1.cell? ⟨w1.heap.size + 1, 0, none⟩ = some (.int .i64 pre.length) := fun W1 h => h.cell (by rw [World.cell?_drew]; exact cell_of_row W _ 0 _ _ (0, 0) hB) (by omega) (by simp; omega)
    have cp : ∀ W1, KpS [m] W.heap.size W.drew W1 → W1.cell? ⟨p, 1, none⟩ = some (.map (some m)) := fun W1 h => h.cell (by rw [World.cell?_drew]; exact hK.cell D3.out.c1 (by omega) (by simp; exact ⟨fun e => hpm e.symm, by omega⟩)) (by omega) (by simp; exact fun e => hpm e.symm)
    have ca : ∀ W1, KpS [m] W.heap.size W.drew W1 → W1.rangeAt g (off + x.1 * 64) (R x.1).cells := fun W1 h => by
      have r3 : w3.rangeAt g (off + x.1 * 64) (R x.1).cells := fun j u hu => by
        rw [World.cell?_of_block (w := w) ((k3.block g (by omega) (by simp)).trans (K1.out.block g hg (by simp)))]
        exact HR.out x.1 x.2 j u hu
      have r4 : W.drew.rangeAt g (off + x.1 * 64) (R x.1).cells := fun j u hu => by
        rw [World.cell?_drew]
        exact hK.range r3 (by omega) (by simp; omega) j u hu
      exact h.range r4 (by omega) (by simp; omega)
    refine held_take (i := 0) (v := .pointer (some ⟨p, 0, none⟩)) rfl (by kernel_rfl) (by kernel_rfl) (by kernel_rfl) (fun _ _ _ h => h) rfl (fun W1 hW1 => exec_load _ _ _ _ rfl rfl (run_loadCell W1 _ _ _ (cb W1 hW1) (agg_no _ (by kernel_rfl)))) (KpS.refl _ _ _) ?_
    simp only [Act.put, List.setIfInBounds_toArray, List.set_cons_zero, List.set_cons_succ]
    refine held_take (i := 1) (v := .int .i64 pre.length) rfl (by kernel_rfl) (by kernel_rfl) (by kernel_rfl) (fun _ _ _ h => h) rfl (fun W1 hW1 => exec_load _ _ _ _ rfl rfl (run_loadCell W1 _ _ _ (cn W1 hW1) (agg_no _ (by kernel_rfl)))) (KpS.refl _ _ _) ?_
    simp only [Act.put, List.setIfInBounds_toArray, List.set_cons_zero, List.set_cons_succ]
    refine held_take (i := 2) (v := .slice (some ⟨g, off + x.1 * 64, none⟩) 64 64) rfl (by kernel_rfl) (by kernel_rfl) (by kernel_rfl) (fun _ _ _ h => h) rfl (fun W1 hW1 => rfl) (KpS.refl _ _ _) ?_
    simp only [Act.put, List.setIfInBounds_toArray, List.set_cons_zero, List.set_cons_succ]
    refine held_take (i := 3) (v := .pointer (some ⟨g, off + x.1 * 64, none⟩)) rfl (by kernel_rfl) (by kernel_rfl) (by kernel_rfl) (fun _ _ _ h => h) rfl (fun W1 hW1 => exec_toArr _ rfl rfl) (KpS.refl _ _ _) ?_
    simp only [Act.put, List.setIfInBounds_toArray, List.set_cons_zero, List.set_cons_succ]
    refine held_take (i := 4) (v := rowV (R x.1)) rfl (by kernel_rfl) (by kernel_rfl) (by kernel_rfl) (fun _ _ _ h => h) rfl (fun W1 hW1 => exec_load _ _ _ _ rfl rfl (loadRow_run W1 _ _ _ (ca W1 hW1))) (KpS.refl _ _ _) ?_
    simp only [Act.put, List.setIfInBounds_toArray, List.set_cons_zero, List.set_cons_succ]
    have hM1 : MapIs W.drew m pre.length cnt (chunkF R pre) := hM.block rfl
    refine held_do (i := 5) (by kernel_rfl) rfl rfl (wp_enter (f := 88) (args := #[rowV (R x.1)]) (by go_simp) (lasting_any _ _) ?_)
    rintro e W1 ⟨rfl, kl⟩
    have k1 : KpS [m] W.heap.size W.drew W1 := (KpS.refl _ _ _).keeps kl (Nat.le_refl _) (by simp)
    refine ⟨_, rfl, k1, ?_⟩
    simp only [Act.put, List.setIfInBounds_toArray, List.set_cons_zero, List.set_cons_succ]
    refine held_do (i := 6) (by kernel_rfl) rfl rfl (wp_enter (f := 87) (args := #[.pointer (some ⟨p, 0, none⟩), .int .i64 (pre.length : Int), secV (R x.1) (R x.1)]) (by go_simp) (keep_any W1 p m _ cnt _ (cp W1 k1) (hM1.keep kl (by simp)) pre.length hlen (by omega) (by omega) _ _) ?_)
    rintro e W2 ⟨rfl, hM2, k2⟩
    have kk : KpS [m] W.heap.size W.drew W2 := k1.keeps k2 k1.size (fun i hi _ => hi)
    refine ⟨_, rfl, kk, wpAnyH_done (by kernel_rfl) ?_ _⟩
    rw [chunkF_snoc] at hM2
    simp only [Act.put, List.setIfInBounds_toArray, List.set_cons_zero, List.set_cons_succ]
    have cn2 := cn W2 kk
    have b2 : W2.heap[w1.heap.size + 1]? = some (.cells #[.int .i64 pre.length] 3 (0, 0)) := (kk.block _ (by omega) (by simp; omega)).trans hB
    have f2 : W2.frozen? ⟨w1.heap.size + 1, 0, none⟩ = false := by simp [World.frozen?, b2]
    refine show Code.wpIn _ _ _ _ _ _ _ from round_plain (by kernel_rfl) noOut_block ?_
    refine wpList_is rfl _ W2 (exec_load _ _ _ _ rfl rfl (run_loadCell W2 _ _ _ cn2 (agg_no _ (by kernel_rfl)))) ?_
    simp only [Act.put, List.setIfInBounds_toArray, List.set_cons_zero, List.set_cons_succ]
    refine wpList_is rfl (.int .i64 ((pre.length : Int) + 1)) W2 (by
      have e : IntKind.i64.wrap ((pre.length : Int) + 1) = (pre.length : Int) + 1 := by
        have hl3 : pre.length < cnt := hlen
        rw [IntKind.wrap_i64]; omega
      go_simp) ?_
    simp only [Act.put, List.setIfInBounds_toArray, List.set_cons_zero, List.set_cons_succ]
    refine wpList_plain rfl fun K hKK => ?_
    go_simp
    refine hKK _ _ ?_
    refine wpList_nil ?_
    have kw : KpS [m, w1.heap.size + 1] w3.heap.size W (W2.setCell ⟨w1.heap.size + 1, 0, none⟩ (.int .i64 ((pre.length : Int) + 1))) := by
      have hs5 : W.heap.size ≤ W2.heap.size := kk.size
      refine ⟨kk.os, kk.tape, kk.output, by simpa [World.setCell] using hs5, fun k hk hs' => ?_⟩
      rw [Below.heap_setCell _ _ _ _ (by simp at hs' ⊢; omega)]
      exact kk.block k (by omega) (by simp at hs' ⊢; omega)
    refine ⟨⟨kw.size, fun k o hk h0 _ => ?_⟩, kw, hK.trans kw, by simp; omega, ?_, ?_⟩
    · rw [Below.heap_setCell _ _ _ _ (by simp; omega)]
      exact (kk.block k (lt_of_block h0) (by simp; omega)).trans h0
    · rw [List.length_append]
      exact hM2.block (Below.heap_setCell _ _ _ _ (by simp; omega))
    · rw [heap_setCell_same _ _ _ _ _ _ b2]
      simp
  case done =>
    rintro D ys W hD hys ⟨hK, hl, hM, hB⟩ hDD
    have cb : W.cell? ⟨w1.heap.size, 0, none⟩ = some (.pointer (some ⟨p, 0, none⟩)) := hK.cell (cell_of_row _ _ 0 _ _ (0, 0) g3) (by omega) (by simp; omega)
    have HK := hid hK
    have HM := hid hM
    have HDD := hid hDD
    clear hK hM hDD hB
    gi_wp2
    refine ⟨by simp, .inl ⟨_, _, rfl, run_takeDeferred HDD.out, ?_⟩⟩
    have kf : Keeps [] w (W.putObj D (.deferred none)) := by
      refine Keeps.putObj ⟨HK.out.os.trans (k3.os.trans K1.out.os), HK.out.tape.trans (k3.tape.trans K1.out.tape), HK.out.output.trans (k3.output.trans K1.out.output), by have := HK.out.size; omega, fun k hk _ => ?_⟩ (by omega) _
      rw [HK.out.block k (by omega) (by simp; omega), k3.block k (by omega) (by simp), K1.out.block k hk (by simp)]
    have hp3 : (W.putObj D (.deferred none)).heap[p]? = w3.heap[p]? := (World.putObj_heap_other (by omega)).trans (HK.out.block p (by omega) (by simp; exact ⟨fun e => hpm e.symm, by omega⟩))
    exact ⟨_, results_tmp2 rfl _ _ _, p, m, ys.length, rfl, ⟨ys, hys, hp3.trans D3.out.blk, HM.out.block (World.putObj_heap_other (by omega)), World.ownsRow_nil _ _ _ _⟩, hl, hp0, hm0, kf⟩
  case stop =>
    rintro D c pre W _ _ h _
    exact h.elim

theorem chunkF_all {cnt : Nat} (R : Nat → Row) (ys : List {x : Nat // x < cnt}) (h : ys.map (·.1) = List.range cnt) : chunkF R ys = fun i => (if i < cnt then R i else zrow, if i < cnt then R i else zrow) := by
  funext i
  have hl : ys.length = cnt := by simpa using congrArg List.length h
  unfold chunkF
  by_cases hi : i < cnt
  · have h2 := congrArg (fun l => l[i]?) h
    simp only [List.getElem?_map, List.getElem?_range hi] at h2
    cases hy : ys[i]? with
    | none => rw [hy] at h2; simp at h2
    | some y => rw [hy] at h2; simp at h2; simp [h2, hi]
  · rw [List.getElem?_eq_none (by omega)]
    simp [hi]

theorem imageL_at (R : Nat → Row) (n : Nat) (x : Nat) (hx : x < n) (j : Nat) (u : Int) (hu : (R x).1[j]? = some u) : (imageL R n)[x * 64 + j]? = some u := by
  unfold imageL
  induction n with
  | zero => omega
  | succ n ih =>
    rw [List.range_succ, List.flatMap_append]
    have hl := imageL_len R n
    unfold imageL at hl
    have hj : j < 64 := by rw [← (R x).2.1]; exact (List.getElem?_eq_some_iff.1 hu).1
    by_cases hxn : x < n
    · rw [List.getElem?_append_left (by rw [hl]; omega)]
      exact ih hxn
    · have : x = n := by omega
      subst this
      rw [List.getElem?_append_right (by rw [hl]; omega), hl]
      simpa using hu

/-- A disk of an image. -/
def loadS (R : Nat → Row) (cnt : Nat) : DS := ⟨cnt, fun i => if i < cnt then R i else zrow, fun i => if i < cnt then R i else zrow, [], -1, 0, false⟩

theorem loadS_image (R : Nat → Row) (cnt : Nat) : imageL (loadS R cnt).now cnt = imageL R cnt := by
  unfold imageL loadS
  rw [List.flatMap_def, List.flatMap_def]
  congr 1
  refine List.map_congr_left fun i hi => ?_
  rw [List.mem_range] at hi
  simp [hi]

/-- Load. -/
theorem loadAt_any (w : World) (v : Value) (R : Nat → Row) (cnt : Nat) (hc : 2 ≤ cnt) (hc2 : cnt ≤ 4160) (hv : RowAt w v (imageL R cnt)) :
    Calls Tryz.prog 43 #[v] w fun e w' => ∃ p F', e = .returned (.tuple #[.pointer (some ⟨p, 0, none⟩), .int .i64 0]) ∧ DiskAt w' p (loadS R cnt) F' cnt ∧ (∀ b ∈ F', w.heap.size ≤ b) ∧ Keeps [] w w' := by
  have hlen := imageL_len R cnt
  obtain ⟨a, cap, rfl, h1, h2, h3, h4, h5⟩ := hv
  rw [hlen] at h1 ⊢
  cases a with
  | none => have := h3 rfl; omega
  | some ad =>
    obtain ⟨g, off, sp⟩ := ad
    have hat : ∀ x, x < cnt → ∀ (j : Nat) (u : Value), (R x).cells[j]? = some u → w.cell? ((⟨g, off, sp⟩ : Addr).add (x * 64 + j)) = some u := fun x hx j u hu => by
      refine h5 _ rfl _ u ?_
      simp only [Row.cells, List.getElem?_map, Option.map_eq_some_iff] at hu ⊢
      obtain ⟨z, hz, rfl⟩ := hu
      exact ⟨z, imageL_at R cnt x hx j z hz, rfl⟩
    have c0 := hat 0 (by omega) 0 _ (List.getElem?_eq_getElem (by simp))
    have hs := World.cell?_spot c0
    obtain rfl : sp = none := by simpa [Addr.add] using hs
    have hg : g < w.heap.size := World.block_lt_of_cell? w _ c0
    refine (callsIn_wide.1 (load_in 9 (by omega) w g off cap cnt R hc hc2 (by omega) hg (fun x hx j u hu => by
      have := hat x hx j u hu
      rwa [Addr.add_lit, ← Nat.add_assoc] at this))).mono ?_
    rintro e w' ⟨p, m, nn, rfl, ⟨pre, hp, D⟩, hn, l1, l2, kp⟩
    rw [chunkF_all R pre hp] at D
    refine ⟨p, foot p m (.slice none 0 0), rfl, ⟨⟨hc, hc2, by simp [loadS], by simp [loadS], by simp [loadS], fun i _ => rfl⟩, m, _, nn, D, rfl, by simp only [loadS, List.length_nil]; omega⟩, ?_, kp⟩
    intro b hb
    simp only [foot, Value.ownBlock, Option.toList, List.mem_cons, List.not_mem_nil, or_false] at hb
    rcases hb with rfl | rfl
    · exact l1
    · exact l2

end Go.Proofs.YtnjlhplcagkcnaaGreat
