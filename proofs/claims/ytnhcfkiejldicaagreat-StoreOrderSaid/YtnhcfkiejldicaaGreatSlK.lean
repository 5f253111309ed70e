/- Slots: Get. -/
import Derived.Test.YtnhcfkiejldicaaGreatSlJ
namespace Go.Proofs.YtnhcfkiejldicaaGreat
open Go.RowKit Go.Shelf
attribute [local go_sem] Oper.semAt_some

theorem lWell_any (w : World) (p : Nat) (s : DS) (F : List Nat) (K : Nat) (D : DiskAt w p s F K) :
    Calls Tryz.prog 67 #[.pointer (some ⟨p, 0, none⟩)] w fun e w' => e = .returned (.bool (!s.dead)) ∧ Keeps [] w w' := by
  have HD := hid D
  have he : readE s 0 = deadE s := by
    have := D.1.lo
    unfold readE deadE
    cases s.dead
    · simp; omega
    · simp
  have RD := readAt_any w p s F K D 0
  rw [he] at RD
  have RDH := hid RD
  clear RD D he
  cases hd : s.dead with
  | true =>
    have e14 : deadE s = 14 := by simp [deadE, hd]
    have HE := hid e14
    clear hd e14
    go_enter Tryz.func67, Tryz.ntmps67
    go_wp2_with fail
    refine RDH.out.mono ?_
    rw [HE.out]
    rintro e w' ⟨v, rfl, -, -, k⟩
    have K1 := hid k
    clear k
    go_wp2_with fail
    go_ret
    exact ⟨rfl, K1.out⟩
  | false =>
    have e0 : deadE s = 0 := by simp [deadE, hd]
    have HE := hid e0
    clear hd e0
    go_enter Tryz.func67, Tryz.ntmps67
    go_wp2_with fail
    refine RDH.out.mono ?_
    rw [HE.out]
    rintro e w' ⟨v, rfl, -, -, k⟩
    have K1 := hid k
    clear k
    go_wp2_with fail
    go_ret
    exact ⟨rfl, K1.out⟩

section
variable {P : Program} {ops : Array Oper} {Q : Exit → Act → World → Prop}
theorem at_op {i : Nat} {o : Oper} {a : Act} {w : World} {K : Act → World → Prop} (ho' : ops.toList[i]? = some o) (hg : o.guard = none) (h : o.wp P a w K Q) : wpOp P ops Q i K a w := by
  have ho : ops[i]? = some o := by simpa using ho'
  have hw : Region.wanted o (yielded ops a.tmps) = true := by simp [Region.wanted, hg]
  unfold wpOp
  simp only [ho, hw, if_true]
  exact Or.inl h
theorem wp_stored {o : Oper} {a : Act} {w w' : World} {K : Act → World → Prop} (hrun : (execOp a.eval o).run P w = .ok .skip w') (h : K (a.put o.dst undef) w') : o.wp P a w K Q := by
  unfold Oper.wp
  rw [hrun]
  exact h
end
theorem exec_mk {ρ : Operand → Value} {o : Oper} {w w' : World} {t : TypeId} {u v r : Value} (x y : Operand) (ho : o.op = .makeSlice t x y) (hx : ρ x = u) (hy : ρ y = v) (h : (Instr.makeSlice t u v).run Tryz.prog w = .ok r w') : (execOp ρ o).run Tryz.prog w = .ok (.value r) w' := by
  simp [execOp, ho, hx, hy, h, Result.andThen]

def getE (hs : List Hd) (s : DS) (i : Int) : Int := if takeE hs i = 0 then deadE s else takeE hs i

/-- The bytes read, part by part. -/
def fillC (s : DS) (bg hl : Nat) (pre : List Nat) : List Int := pre.zipIdx.foldl (fun c x => splice c (x.1 * 64) ((s.now (bg + 1 + x.2)).1.take (csz hl x.1))) (List.replicate hl 0)
theorem fillC_nil (s : DS) (bg hl : Nat) : fillC s bg hl [] = List.replicate hl 0 := rfl
theorem fillC_snoc (s : DS) (bg hl : Nat) (pre : List Nat) (x : Nat) : fillC s bg hl (pre ++ [x]) = splice (fillC s bg hl pre) (x * 64) ((s.now (bg + 1 + pre.length)).1.take (csz hl x)) := by
  simp [fillC, List.zipIdx_append]
theorem fillC_len (s : DS) (bg hl : Nat) (pre : List Nat) (h : ∀ x ∈ pre, x < nch hl) : (fillC s bg hl pre).length = hl := by
  unfold fillC
  have key : ∀ (l : List (Nat × Nat)) (c : List Int), c.length = hl → (∀ x ∈ l, x.1 < nch hl) → (l.foldl (fun c x => splice c (x.1 * 64) ((s.now (bg + 1 + x.2)).1.take (csz hl x.1))) c).length = hl := by
    intro l
    induction l with
    | nil => intro c hc _; exact hc
    | cons x l ih =>
      intro c hc hx
      rw [List.foldl_cons]
      refine ih _ ?_ (fun y hy => hx y (by simp [hy]))
      have := hx x (by simp)
      rw [length_splice _ _ _ (by rw [List.length_take, (s.now _).2.1, hc]; unfold nch at this; unfold csz; omega), hc]
  refine key _ _ (by simp) (fun x hx => ?_)
  have := List.fst_mem_of_mem_zipIdx hx
  exact h _ this
theorem fillC_at (s : DS) (bg hl : Nat) : ∀ k, k ≤ nch hl → fillC s bg hl (List.range k) = (imageL (fun j => s.now (bg + 1 + j)) k).take hl ++ List.replicate (hl - k * 64) 0
  | 0, _ => by simp [fillC, imageL]
  | k + 1, h => by
    have hk : k * 64 < hl := by unfold nch at h; omega
    have hI := imageL_len (fun j => s.now (bg + 1 + j)) k
    rw [List.range_succ, fillC_snoc, fillC_at s bg hl k (by omega), List.length_range]
    have hrow := (s.now (bg + 1 + k)).2.1
    rw [List.take_of_length_le (by omega)]
    have e1 : (imageL (fun j => s.now (bg + 1 + j)) (k + 1)) = imageL (fun j => s.now (bg + 1 + j)) k ++ (s.now (bg + 1 + k)).1 := by
      unfold imageL
      rw [List.range_succ, List.flatMap_append]
      simp
    rw [e1]
    generalize imageL (fun j => s.now (bg + 1 + j)) k = A at hI ⊢
    generalize (s.now (bg + 1 + k)).1 = R at hrow ⊢
    unfold splice
    have d1 : (A ++ List.replicate (hl - k * 64) (0 : Int)).take (k * 64) = A := by rw [List.take_append_of_le_length (by omega), List.take_of_length_le (by omega)]
    have hc : (R.take (csz hl k)).length = csz hl k := by rw [List.length_take, hrow]; unfold csz; omega
    have d2 : (A ++ List.replicate (hl - k * 64) (0 : Int)).drop (k * 64 + csz hl k) = List.replicate (hl - (k + 1) * 64) 0 := by
      rw [List.drop_append, List.drop_eq_nil_of_le (by omega), List.nil_append, List.drop_replicate]
      congr 1
      unfold csz
      omega
    have d3 : (A ++ R).take hl = A ++ R.take (csz hl k) := by
      rw [List.take_append, List.take_of_length_le (by omega), hI]
      congr 1
      unfold csz
      by_cases h2 : hl - k * 64 ≤ 64
      · congr 1; omega
      · rw [List.take_of_length_le (by omega), List.take_of_length_le (by omega)]
    rw [d1, hc, d2, d3, List.append_assoc]
/-- The bytes that a slot holds. -/
def getB (s : DS) (bg hl : Nat) : List Int := (imageL (fun j => s.now (bg + 1 + j)) 7).take hl
theorem getB_byte (s : DS) (bg hl : Nat) : ∀ z ∈ getB s bg hl, 0 ≤ z ∧ z ≤ 255 := fun z hz => imageL_byte _ _ z (List.mem_of_mem_take hz)
theorem loadSl_var {w : World} {b : Nat} {a : Option Addr} {n c : Nat} (hb : w.cell? ⟨b, 0, none⟩ = some (.slice a n c)) : (loadVar 22 ⟨b, 0, none⟩).run Tryz.prog w = .ok (.slice a n c) w := by
  simp [loadVar, agg_no 22 (by kernel_rfl), hb, Result.andThen]
theorem imageL_take (f : Nat → Row) (k hl : Nat) (h : hl ≤ k * 64) : ∀ d, (imageL f (k + d)).take hl = (imageL f k).take hl
  | 0 => rfl
  | d + 1 => by
    rw [← imageL_take f k hl h d, show k + (d + 1) = k + d + 1 from rfl]
    have e : imageL f (k + d + 1) = imageL f (k + d) ++ (f (k + d)).1 := by
      unfold imageL
      rw [List.range_succ, List.flatMap_append]
      simp
    rw [e, List.take_append_of_le_length (by rw [imageL_len]; omega)]
theorem fillC_range (s : DS) (bg hl : Nat) (h : hl ≤ 448) : fillC s bg hl (List.range (nch hl)) = getB s bg hl := by
  rw [fillC_at s bg hl _ (Nat.le_refl _)]
  have e : hl - nch hl * 64 = 0 := by unfold nch; omega
  rw [e, List.replicate_zero, List.append_nil, getB]
  have h7 : nch hl + (7 - nch hl) = 7 := by unfold nch; omega
  rw [← h7, imageL_take _ _ _ (by unfold nch; omega)]

set_option maxRecDepth 100000 in
set_option maxHeartbeats 6400000 in
theorem get_in (n : Nat) (hn : 4 ≤ n) (w : World) (q p g first : Nat) (hs : List Hd) (s : DS) (F : List Nat) (K : Nat) (H : SlAt w q p g first hs s F K) (k bg : Nat) (hbg : bg = first + k * 8) (hk : k < hs.length) (hu : hs[k].used = true) (hd : s.dead = false) :
    CallsIn Fence.wide n Tryz.prog 40 #[.pointer (some ⟨q, 0, none⟩), .int .i64 k] w fun e w' => ∃ v, e = .returned (.tuple #[v, .int .i64 0]) ∧ RowAt w' v (getB s bg hs[k].held) ∧ NewV w v ∧ Keeps [] w w' := by
  have h1 : 1 ≤ n := by omega
  have HH := hid H
  have HS := hid H.sl
  have HD := hid H.dk
  have hcnt := H.cnt
  have hfit := H.fit
  have hq0 := H.sl.ltq
  have ht : takeE hs k = 0 := by
    have h2 : hasS hs k = true := by simp [hasS, hk]
    simp only [takeE, usedS, headS_at hk, h2, hu, if_true]
  have HT := hid ht
  have HDD := hid hd
  clear H hu hd ht
  refine callsIn_of_wp_marks Tryz.func40 rfl trivial ?_ rfl
  simp only [Tryz.ntmps40, List.size_toArray, List.length_cons, List.length_nil, Nat.reduceAdd, Nat.reduceSub, Array.replicate_succ, Array.replicate_zero, List.push_toArray, List.append_toArray, List.nil_append, List.cons_append]
  gi_wp2
  have kA : Keeps [] w (((w.alloc (.cells #[.pointer (some ⟨q, 0, none⟩)] 54)).alloc (.cells #[.slice none 0 0] 22)).alloc (.cells #[.int .i64 0] 25)) := (((Keeps.refl [] w).alloc _).alloc _).alloc _
  have zA : (((w.alloc (.cells #[.pointer (some ⟨q, 0, none⟩)] 54)).alloc (.cells #[.slice none 0 0] 22)).alloc (.cells #[.int .i64 0] 25)).heap.size = w.heap.size + 3 := by simp
  have b0 : (((w.alloc (.cells #[.pointer (some ⟨q, 0, none⟩)] 54)).alloc (.cells #[.slice none 0 0] 22)).alloc (.cells #[.int .i64 0] 25)).heap[w.heap.size]? = some (.cells #[.pointer (some ⟨q, 0, none⟩)] 54 (0, 0)) := (Below.heap_alloc _ _ _ (by simp; omega)).trans ((Below.heap_alloc _ _ _ (by simp)).trans (heap_alloc_new w _))
  have b1 : (((w.alloc (.cells #[.pointer (some ⟨q, 0, none⟩)] 54)).alloc (.cells #[.slice none 0 0] 22)).alloc (.cells #[.int .i64 0] 25)).heap[w.heap.size + 1]? = some (.cells #[.slice none 0 0] 22 (0, 0)) := by
    refine (Below.heap_alloc _ _ _ (by simp)).trans ?_
    exact heap_alloc2_new w _ _
  have b2 : (((w.alloc (.cells #[.pointer (some ⟨q, 0, none⟩)] 54)).alloc (.cells #[.slice none 0 0] 22)).alloc (.cells #[.int .i64 0] 25)).heap[w.heap.size + 2]? = some (.cells #[.int .i64 0] 25 (0, 0)) := by
    have := heap_alloc_new ((w.alloc (.cells #[.pointer (some ⟨q, 0, none⟩)] 54)).alloc (.cells #[.slice none 0 0] 22)) (.cells #[.int .i64 0] 25)
    simpa using this
  generalize ((w.alloc (.cells #[.pointer (some ⟨q, 0, none⟩)] 54)).alloc (.cells #[.slice none 0 0] 22)).alloc (.cells #[.int .i64 0] 25) = wA at kA zA b0 b1 b2 ⊢
  have SA := hid (HS.out.keep kA (by simp) (by simp))
  have DA := hid (HD.out.keep kA (by simp))
  have TK := lTake_any wA q p g first hs SA.out k
  rw [HT.out] at TK
  refine ⟨trivial, (callsIn_wide.2 TK).mono ?_⟩
  rintro e w1 ⟨rfl, rfl⟩
  have c0 : wA.cell? ⟨w.heap.size, 0, none⟩ = some (.pointer (some ⟨q, 0, none⟩)) := cell_of_row _ _ 0 _ _ (0, 0) b0
  have cq0 := SA.out.c0
  have WL := lWell_any wA p s F K DA.out
  rw [HDD.out] at WL
  have WLH := hid WL
  clear TK WL
  gi_wp2
  refine ⟨trivial, (callsIn_wide.2 WLH.out).mono ?_⟩
  rintro e w1 ⟨rfl, kW⟩
  have K1 := hid (kA.trans kW)
  have z1 : wA.heap.size ≤ w1.heap.size := kW.size
  have B0 := hid ((kW.block _ (lt_of_block b0) (by simp)).trans b0)
  have B1 := hid ((kW.block _ (lt_of_block b1) (by simp)).trans b1)
  have B2 := hid ((kW.block _ (lt_of_block b2) (by simp)).trans b2)
  have S1 := hid (HS.out.keep K1.out (by simp) (by simp))
  have D1 := hid (HD.out.keep K1.out (by simp))
  clear kW b0 b1 b2 c0 cq0 SA DA WLH kA
  gi_wp2
  rename_i KK hKK
  obtain ⟨hl, hhl⟩ : ∃ x, x = hs[k].held := ⟨_, rfl⟩
  have hl448 : hl ≤ 448 := by rw [hhl]; exact (HS.out.ok _ (List.getElem_mem hk)).held
  have hmk : ∀ w, (Instr.makeSlice 22 (.int .i64 hl) (.int .i64 hl)).run Tryz.prog w = .ok (.slice (some ⟨w.heap.size, 0, none⟩) hl hl) (w.alloc (.cells (madeCells #[.int .u8 0] hl) 5)) := fun w =>
    run_make_row' (P := Tryz.prog) 22 5 (.int .u8 0) 1 Tryz.underlying22 info5 rfl .i64 .i64 hl (by omega) (by omega) w
  have LB : ∀ W, SlotsAt W q p g first hs → Calls Tryz.prog 68 #[.pointer (some ⟨q, 0, none⟩), .int .i64 k] W fun e w' => e = .returned (.int .i64 bg) ∧ W = w' := fun W hW => by
    have := lBegin_any W q p g first hs hW k (by omega) (by omega)
    rw [← hbg] at this
    exact this
  have hlt : (k : Int) < (hs.length : Int) := by omega
  have hbgl : bg + 8 ≤ s.cnt := by omega
  have HL := hid hhl
  have HMK := hid hmk
  have HLB := hid LB
  clear hmk LB hbg
  refine wpIn_wide.2 (wp_region_noPanic (wp_region_any (by kernel_rfl) (wpAny_of_held (S := KpS [] w1.heap.size w1.drew) _ _ _ _ ?_)))
  change wpAnyH _ _ _ _ _ _ _ _ w1.drew
  have c0 : ∀ W1, KpS [] w1.heap.size w1.drew W1 → W1.cell? ⟨w.heap.size, 0, none⟩ = some (.pointer (some ⟨q, 0, none⟩)) := fun W1 h => h.cell (by rw [World.cell?_drew]; exact cell_of_row _ _ 0 _ _ (0, 0) B0.out) (by omega) (by simp)
  have cq : ∀ W1, KpS [] w1.heap.size w1.drew W1 → W1.cell? ⟨q, 2, none⟩ = some (.slice (some ⟨g, 0, none⟩) hs.length hs.length) := fun W1 h => h.cell (by rw [World.cell?_drew]; exact S1.out.c2) (by have := K1.out.size; omega) (by simp)
  have ch : ∀ W1, KpS [] w1.heap.size w1.drew W1 → W1.cell? ⟨g, k * 3 + 1, none⟩ = some (.int .i64 hl) := fun W1 h => h.cell (by rw [World.cell?_drew, hhl]; exact S1.out.n k hk) S1.out.ltg (by simp)
  clear hhl
  have kS : ∀ W1, KpS [] w1.heap.size w1.drew W1 → SlotsAt W1 q p g first hs := fun W1 h => S1.out.keep (w' := W1) (S := []) ⟨h.os, h.tape, h.output, h.size, fun j hj hm => h.block j hj hm⟩ (by simp) (by simp)
  -- what stands behind the region, wherever the two new blocks lie
  have KEY : ∀ (bs bn : Nat) (W : World), w1.heap.size ≤ bs → w1.heap.size ≤ bn → bs ≠ bn → KpS [] w1.heap.size w1.drew W → W.heap[bs]? = some (.cells (madeCells #[.int .u8 0] hl) 5 (0, 0)) → W.heap[bn]? = some (.cells #[.int .i64 ((bg : Int) + 1)] 3 (0, 0)) → KK { tmps := #[.pointer (some ⟨q, 0, none⟩), .int .i64 k, .pointer (some ⟨w.heap.size, 0, none⟩), undef, .pointer (some ⟨w.heap.size + 1, 0, none⟩), .pointer (some ⟨w.heap.size + 1 + 1, 0, none⟩), .int .i64 0, .slice (some ⟨bs, 0, none⟩) hl hl, .pointer (some ⟨bn, 0, none⟩), undef, undef, undef, .pointer (some ⟨q, 0, none⟩), .int .i64 k, .int .i64 0, .int .i64 0, .bool false, undef, .pointer (some ⟨q, 0, none⟩), .pointer (some ⟨q, 0, none⟩), .pointer (some ⟨q, 0, none⟩), .pointer (some ⟨p, 0, none⟩), .bool true, .bool false, .pointer (some ⟨q, 0, none⟩), .pointer (some ⟨q, 0, none⟩), .pointer (some ⟨q, 2, none⟩), .slice (some ⟨g, 0, none⟩) hs.length hs.length, .int .i64 k, .pointer (some ⟨g, k * 3, none⟩), .pointer (some ⟨g, k * 3 + 1, none⟩), .int .i64 hl, .slice (some ⟨bs, 0, none⟩) hl hl, .pointer (some ⟨q, 0, none⟩), .int .i64 k, .int .i64 bg, .int .i64 ((bg : Int) + 1), undef, undef, undef, undef, undef, undef, undef, undef, undef, undef, undef, undef, undef, undef, undef, undef, undef, undef, undef, undef, undef], defers := [] } W := by
    intro bs bn W hbs1 hbn1 hne kw hbs hbn
    clear HMK HLB c0 cq ch
    refine hKK _ _ ?_
    clear hKK
    gi_wp2
    refine ⟨trivial, (callsIn_wide.2 (chunk_any W (some ⟨bs, 0, none⟩) hl hl)).mono ?_⟩
    rintro e w3 ⟨rfl, rfl⟩
    gi_wp2
    have hzW : bs < W.heap.size ∧ bn < W.heap.size := ⟨lt_of_block hbs, lt_of_block hbn⟩
    have kC : Keeps [] W ((W.alloc (.cells #[.slice (some ⟨bs, 0, none⟩) hl hl] 22)).alloc (.cells #[.int .i64 64] 3)) := ((Keeps.refl [] W).alloc _).alloc _
    have z3 : ((W.alloc (.cells #[.slice (some ⟨bs, 0, none⟩) hl hl] 22)).alloc (.cells #[.int .i64 64] 3)).heap.size = W.heap.size + 2 := by simp
    have q1 := cell_of_row _ _ 0 _ _ (0, 0) (heap_alloc2_old W (.cells #[.slice (some ⟨bs, 0, none⟩) hl hl] 22) (.cells #[.int .i64 64] 3))
    have q2 := cell_of_row _ _ 0 _ _ (0, 0) (heap_alloc2_new W (.cells #[.slice (some ⟨bs, 0, none⟩) hl hl] 22) (.cells #[.int .i64 64] 3))
    have hs3 := (kC.block bs hzW.1 (by simp)).trans hbs
    have hn3 := (kC.block bn hzW.2 (by simp)).trans hbn
    have kw3 : Keeps [] w1 ((W.alloc (.cells #[.slice (some ⟨bs, 0, none⟩) hl hl] 22)).alloc (.cells #[.int .i64 64] 3)) := (show Keeps [] w1 W from ⟨kw.os, kw.tape, kw.output, kw.size, fun j hj hm => kw.block j hj hm⟩).trans kC
    have hW1 : w1.heap.size ≤ W.heap.size := kw.size
    generalize (W.alloc (.cells #[.slice (some ⟨bs, 0, none⟩) hl hl] 22)).alloc (.cells #[.int .i64 64] 3) = w3 at kC z3 q1 q2 hs3 hn3 kw3 ⊢
    have h13 := K1.out.size
    have k3 : Keeps [] w w3 := K1.out.trans kw3
    have K3 := hid k3
    have D3 := hid (HD.out.keep k3 (by simp))
    have S3 := hid (HS.out.keep k3 (by simp) (by simp))
    have x0 := (kw3.block w.heap.size (lt_of_block B0.out) (by simp)).trans B0.out
    have x1 := (kw3.block (w.heap.size + 1) (lt_of_block B1.out) (by simp)).trans B1.out
    have x2 := (kw3.block (w.heap.size + 2) (lt_of_block B2.out) (by simp)).trans B2.out
    have hlB : w.heap.size + 2 < w1.heap.size := lt_of_block B2.out
    have lF : ∀ j ∈ F, j < w.heap.size := fun j hj => by obtain ⟨m, dm⟩ := HD.out.dm; exact dm.lt j hj
    have hb3 : W.heap.size < w3.heap.size ∧ W.heap.size ∉ [bs, bn] := ⟨by omega, by simp; omega⟩
    have hb4 : W.heap.size + 1 < w3.heap.size ∧ W.heap.size + 1 ∉ [bs, bn] := ⟨by omega, by simp; omega⟩
    have HC := hid (chunkP_stops (n - 1) (by omega) W.heap.size (W.heap.size + 1) bs 0 hl w3.heap.size hl (some ⟨bs, 0, none⟩) [bs, bn] (by omega) (Nat.le_refl _) (fun _ => rfl) w3 q1 q2 hb3 hb4)
    have h7 : nch hl ≤ 7 := by unfold nch; omega
    refine wpIn_rangeFunc_ownH rfl h1 (gf := 90) (lb := #[.pointer (some ⟨W.heap.size, 0, none⟩), .pointer (some ⟨W.heap.size + 1, 0, none⟩)]) rfl trivial (fun _ _ => rfl) HC.out KpS.trans (KpS.putObj (Nat.le_refl _)) (Below.refl _ _) (fun _ => rfl)
      (fun pre W => KpS [bs, bn] w3.heap.size w3 W ∧ pre.length ≤ nch hl ∧ W.heap[bn]? = some (.cells #[.int .i64 ((bg : Int) + 1 + pre.length)] 3 (0, 0)) ∧ W.heap[bs]? = some (.cells ((fillC s bg hl (pre.map (·.1))).map (Value.int .u8)).toArray 5 (0, 0)))
      (fun _ _ _ => False)
      ?own (fun _ _ _ _ _ hs _ _ => hs) ⟨KpS.refl _ _ _, by simp, by rw [hn3]; simp, by rw [hs3]; congr 2; apply Array.ext'; simpa [fillC] using made_zero hl⟩
      (fun x a' W' => a' = { tmps := #[.pointer (some ⟨q, 0, none⟩), .int .i64 k, .pointer (some ⟨w.heap.size, 0, none⟩), undef, .pointer (some ⟨w.heap.size + 1, 0, none⟩), .pointer (some ⟨w.heap.size + 1 + 1, 0, none⟩), .int .i64 0, .slice (some ⟨bs, 0, none⟩) hl hl, .pointer (some ⟨bn, 0, none⟩), .slice (some ⟨bs, 0 + x.1 * 64, none⟩) (csz hl x.1) (csz hl x.1), undef, undef, .pointer (some ⟨q, 0, none⟩), .int .i64 k, .int .i64 0, .int .i64 0, .bool false, undef, .pointer (some ⟨q, 0, none⟩), .pointer (some ⟨q, 0, none⟩), .pointer (some ⟨q, 0, none⟩), .pointer (some ⟨p, 0, none⟩), .bool true, .bool false, .pointer (some ⟨q, 0, none⟩), .pointer (some ⟨q, 0, none⟩), .pointer (some ⟨q, 2, none⟩), .slice (some ⟨g, 0, none⟩) hs.length hs.length, .int .i64 k, .pointer (some ⟨g, k * 3, none⟩), .pointer (some ⟨g, k * 3 + 1, none⟩), .int .i64 hl, .slice (some ⟨bs, 0, none⟩) hl hl, .pointer (some ⟨q, 0, none⟩), .int .i64 k, .int .i64 bg, .int .i64 ((bg : Int) + 1), .slice (some ⟨bs, 0, none⟩) hl hl, .func (.func 90) #[] #[.pointer (some ⟨W.heap.size, 0, none⟩), .pointer (some ⟨W.heap.size + 1, 0, none⟩)], .slice (some ⟨bs, 0 + x.1 * 64, none⟩) (csz hl x.1) (csz hl x.1), undef, undef, undef, undef, undef, undef, undef, undef, undef, undef, undef, undef, undef, undef, undef, undef, undef, undef], defers := [] })
      (fun _ _ => fun _ _ _ _ hs _ _ => hs) ?assign ?body ?done ?stop
    case own =>
      rintro pre A B' row ⟨h1, h2, h4, h5⟩ hg hr
      have hlow : ∀ k, k < w3.heap.size → B'.heap[k]? = A.heap[k]? := fun k hk => hg.block k (by have := h1.size; omega) (fun e => by have := (hr k e.symm).1; omega)
      exact ⟨h1.trans ⟨hg.os, hg.tape, hg.output, hg.size, fun k hk _ => hlow k hk⟩, h2, (hlow _ (by omega)).trans h4, (hlow _ (by omega)).trans h5⟩
    case assign =>
      rintro l pre x W' K' hI hC
      refine round_plain (by kernel_rfl) noOut_then ?_
      simp only [List.zip_toArray, List.zip_cons_cons, List.zip_nil_right, List.foldl_toArray, List.foldl_cons, List.foldl_nil, List.setIfInBounds_toArray, List.set_cons_zero, List.set_cons_succ]
      refine wpList_is rfl (.slice (some ⟨bs, 0 + x.1 * 64, none⟩) (csz hl x.1) (csz hl x.1)) W' rfl ?_
      simp only [Act.put, List.setIfInBounds_toArray, List.set_cons_zero, List.set_cons_succ]
      refine wpList_nil ?_
      exact hC _ _ ⟨Nat.le_refl _, fun k o _ hk _ => hk⟩ (KpS.refl _ _ _) hI rfl
    case body =>
      rintro l pre x a' W' hl2 _ ⟨hKp, hl', hB, hR⟩ rfl hlen
      have hx : x.1 * 64 < hl := by have := x.2; unfold nch at this; omega
      have hsz := hKp.size
      refine wpIn_block (wpIn_seq (round_region (by kernel_rfl) (by kernel_rfl) (fun h => by obtain ⟨_, _, h⟩ := h; exact h) (wpAny_of_held (S := KpS [] W'.heap.size W'.drew) _ _ _ _ ?_)))
      have c0 : ∀ W1, KpS [] W'.heap.size W'.drew W1 → W1.cell? ⟨w.heap.size, 0, none⟩ = some (.pointer (some ⟨q, 0, none⟩)) := fun W1 h => h.cell (by rw [World.cell?_drew]; exact hKp.cell (cell_of_row _ _ 0 _ _ (0, 0) x0) (by omega) (by simp; omega)) (by omega) (by simp)
      have cq : ∀ W1, KpS [] W'.heap.size W'.drew W1 → W1.cell? ⟨q, 0, none⟩ = some (.pointer (some ⟨p, 0, none⟩)) := fun W1 h => h.cell (by rw [World.cell?_drew]; exact hKp.cell S3.out.c0 (by omega) (by simp; omega)) (by omega) (by simp)
      have cn : ∀ W1, KpS [] W'.heap.size W'.drew W1 → W1.cell? ⟨bn, 0, none⟩ = some (.int .i64 ((bg : Int) + 1 + pre.length)) := fun W1 h => h.cell (by rw [World.cell?_drew]; exact cell_of_row W' _ 0 _ _ (0, 0) hB) (by omega) (by simp)
      refine held_take (i := 0) (v := .pointer (some ⟨q, 0, none⟩)) rfl (by kernel_rfl) (by kernel_rfl) (by kernel_rfl) (fun _ _ _ h => h) rfl (fun W1 hW1 => exec_load _ _ _ _ rfl rfl (run_loadCell W1 _ _ _ (c0 W1 hW1) (agg_no _ (by kernel_rfl)))) (KpS.refl _ _ _) ?_
      simp only [Act.put, List.setIfInBounds_toArray, List.set_cons_zero, List.set_cons_succ]
      refine held_take (i := 1) (v := .pointer (some ⟨q, 0, none⟩)) rfl (by kernel_rfl) (by kernel_rfl) (by kernel_rfl) (fun _ _ _ h => h) rfl (fun W1 hW1 => by go_simp) (KpS.refl _ _ _) ?_
      simp only [Act.put, List.setIfInBounds_toArray, List.set_cons_zero, List.set_cons_succ]
      refine held_take (i := 2) (v := .pointer (some ⟨q, 0, none⟩)) rfl (by kernel_rfl) (by kernel_rfl) (by kernel_rfl) (fun _ _ _ h => h) rfl (fun W1 hW1 => by go_simp) (KpS.refl _ _ _) ?_
      simp only [Act.put, List.setIfInBounds_toArray, List.set_cons_zero, List.set_cons_succ]
      refine held_take (i := 3) (v := .pointer (some ⟨p, 0, none⟩)) rfl (by kernel_rfl) (by kernel_rfl) (by kernel_rfl) (fun _ _ _ h => h) rfl (fun W1 hW1 => exec_load _ _ _ _ rfl rfl (run_loadCell W1 _ _ _ (cq W1 hW1) (agg_no _ (by kernel_rfl)))) (KpS.refl _ _ _) ?_
      simp only [Act.put, List.setIfInBounds_toArray, List.set_cons_zero, List.set_cons_succ]
      refine held_take (i := 4) (v := .int .i64 ((bg : Int) + 1 + pre.length)) rfl (by kernel_rfl) (by kernel_rfl) (by kernel_rfl) (fun _ _ _ h => h) rfl (fun W1 hW1 => exec_load _ _ _ _ rfl rfl (run_loadCell W1 _ _ _ (cn W1 hW1) (agg_no _ (by kernel_rfl)))) (KpS.refl _ _ _) ?_
      simp only [Act.put, List.setIfInBounds_toArray, List.set_cons_zero, List.set_cons_succ]
      have D4 : DiskAt W'.drew p s F K := D3.out.keep (hKp.toKeeps.drew) (by intro b hb hm; have := lF b hb; simp at hm; omega)
      have hpl : pre.length < 7 := by omega
      have eE : readE s ((bg : Int) + 1 + pre.length) = 0 := by
        unfold readE
        rw [HDD.out]
        simp only [Bool.false_eq_true, if_false]
        rw [if_pos (by omega)]
      have eB : readB s ((bg : Int) + 1 + pre.length) = (s.now (bg + 1 + pre.length)).1 := by
        unfold readB
        rw [HDD.out]
        have e2 : ((bg : Int) + 1 + pre.length).toNat = bg + 1 + pre.length := by omega
        rw [e2]
        simp
        omega
      have RD := readAt_any W'.drew p s F K D4 ((bg : Int) + 1 + pre.length)
      rw [eE, eB] at RD
      refine held_do (i := 5) (by kernel_rfl) rfl rfl (wp_enter (f := 70) (args := #[.pointer (some ⟨p, 0, none⟩), .int .i64 ((bg : Int) + 1 + pre.length)]) (by go_simp) (RD) ?_)
      rintro e W2 ⟨rv, rfl, rr, rn, k2⟩
      have kk : KpS [] W'.heap.size W'.drew W2 := (KpS.refl _ _ _).keeps k2 (Nat.le_refl _) (by simp)
      obtain ⟨ra, rc, rfl, _⟩ := id rr
      refine ⟨_, rfl, kk, ?_⟩
      simp only [Act.put, List.setIfInBounds_toArray, List.set_cons_zero, List.set_cons_succ]
      refine held_take (i := 6) (v := .tuple #[.slice ra (s.now (bg + 1 + pre.length)).1.length rc, .int .i64 0]) rfl (by kernel_rfl) (by kernel_rfl) (by kernel_rfl) (fun _ _ _ h => h) rfl (fun W1 hW1 => rfl) (kk) ?_
      simp only [Act.put, List.setIfInBounds_toArray, List.set_cons_zero, List.set_cons_succ]
      refine held_take (i := 7) (v := .slice ra (s.now (bg + 1 + pre.length)).1.length rc) rfl (by kernel_rfl) (by kernel_rfl) (by kernel_rfl) (fun _ _ _ h => h) rfl (fun W1 hW1 => by go_simp) (kk) ?_
      simp only [Act.put, List.setIfInBounds_toArray, List.set_cons_zero, List.set_cons_succ]
      refine held_take (i := 8) (v := .int .i64 0) rfl (by kernel_rfl) (by kernel_rfl) (by kernel_rfl) (fun _ _ _ h => h) rfl (fun W1 hW1 => by go_simp) (kk) ?_
      simp only [Act.put, List.setIfInBounds_toArray, List.set_cons_zero, List.set_cons_succ]
      refine held_take (i := 9) (v := .slice ra (s.now (bg + 1 + pre.length)).1.length rc) rfl (by kernel_rfl) (by kernel_rfl) (by kernel_rfl) (fun _ _ _ h => h) rfl (fun W1 hW1 => rfl) (kk) ?_
      simp only [Act.put, List.setIfInBounds_toArray, List.set_cons_zero, List.set_cons_succ]
      refine held_take (i := 10) (v := .int .i64 0) rfl (by kernel_rfl) (by kernel_rfl) (by kernel_rfl) (fun _ _ _ h => h) rfl (fun W1 hW1 => rfl) (kk) ?_
      simp only [Act.put, List.setIfInBounds_toArray, List.set_cons_zero, List.set_cons_succ]
      refine wpAnyH_done (by kernel_rfl) ?_ _
      obtain ⟨ad, rfl⟩ : ∃ ad, ra = some ad := by
        obtain ⟨g', off', cap', e, _⟩ := rr.open (by rw [(s.now _).2.1]; omega)
        injection e with e _ _
        exact ⟨_, e⟩
      have h64 : (s.now (bg + 1 + pre.length)).1.length = 64 := (s.now _).2.1
      rw [h64]
      obtain ⟨cur, hcur⟩ : ∃ c, c = fillC s bg hl (pre.map (·.1)) := ⟨_, rfl⟩
      have hcl : cur.length = hl := by rw [hcur]; exact fillC_len s bg hl _ (fun j hj => by obtain ⟨y, _, rfl⟩ := List.mem_map.1 hj; exact y.2)
      obtain ⟨row, hrow⟩ : ∃ r, r = (s.now (bg + 1 + pre.length)).1 := ⟨_, rfl⟩
      rw [← hrow] at rr h64
      have hR2 := (k2.block bs (show bs < W'.heap.size by omega) (by simp)).trans (show W'.drew.heap[bs]? = _ from hR)
      rw [← hcur] at hR2
      have hc1 : csz hl x.1 ≤ 64 ∧ x.1 * 64 + csz hl x.1 ≤ hl := by unfold csz; omega
      have hcp := run_copy_row (P := Tryz.prog) W2 22 22 3 5 bs (x.1 * 64) (csz hl x.1) (csz hl x.1) ad 64 rc _ 5 ((row.take (csz hl x.1)).map (Value.int .u8)) Tryz.underlying22 (by kernel_rfl) hR2
        (by rw [List.length_map, List.length_take, h64]; have e1 : Nat.min 64 (csz hl x.1) = csz hl x.1 := Nat.min_eq_right hc1.1
            rw [e1]; omega) (fun j v hv => by
          obtain ⟨a', c', e, _, _, _, _, h5⟩ := rr
          injection e with e _ _
          exact h5 ad e.symm j v (by
            rw [List.getElem?_map] at hv ⊢
            have hj : j < csz hl x.1 := by
              have := (List.getElem?_eq_some_iff.1 (show ((row.take (csz hl x.1)).map (Value.int .u8))[j]? = some v by rw [List.getElem?_map]; exact hv)).1
              simp at this; omega
            rw [List.getElem?_take_of_lt hj] at hv
            exact hv)) (by simp; omega) (fun v hv => by obtain ⟨z, _, rfl⟩ := List.mem_map.1 hv; rfl)
      have hlen2 : ((row.take (csz hl x.1)).map (Value.int .u8)).length = csz hl x.1 := by rw [List.length_map, List.length_take, h64]; omega
      obtain ⟨W3, hW3⟩ : ∃ X, X = W2.setRow bs (((cur.map (Value.int .u8)).toArray.toList.take (x.1 * 64) ++ ((row.take (csz hl x.1)).map (Value.int .u8)) ++ (cur.map (Value.int .u8)).toArray.toList.drop (x.1 * 64 + ((row.take (csz hl x.1)).map (Value.int .u8)).length)).toArray) := ⟨_, rfl⟩
      rw [← hW3, hlen2] at hcp
      have hs3' : W3.heap[bs]? = some (.cells ((fillC s bg hl ((pre ++ [x]).map (·.1))).map (Value.int .u8)).toArray 5 (0, 0)) := by
        rw [hW3, setRow_heap _ _ _ _ _ _ hR2]
        congr 3
        have hrow' : (s.now (bg + 1 + (pre.map (·.1)).length)).1 = row := by rw [List.length_map]; exact hrow.symm
        rw [List.map_append, List.map_cons, List.map_nil, fillC_snoc, hrow', ← hcur]
        simp only [splice, List.map_append, List.map_take, List.map_drop, List.append_assoc, List.length_take, List.length_map]
      have ho3 : ∀ j, j ≠ bs → W3.heap[j]? = W2.heap[j]? := fun j hj => by rw [hW3]; exact setRow_other _ _ _ _ hj
      have hz3 : W3.heap.size = W2.heap.size := by rw [hW3]; simp [World.setRow]
      have e3 : W3.os = W2.os ∧ W3.tape = W2.tape ∧ W3.output = W2.output := by rw [hW3]; exact ⟨rfl, rfl, rfl⟩
      have hB3 : W3.heap[bn]? = some (.cells #[.int .i64 ((bg : Int) + 1 + pre.length)] 3 (0, 0)) := (ho3 bn (fun e => hne e.symm)).trans ((k2.block bn (show bn < W'.heap.size by omega) (by simp)).trans (show W'.drew.heap[bn]? = _ from hB))
      have cn3 : W3.cell? ⟨bn, 0, none⟩ = some (.int .i64 ((bg : Int) + 1 + pre.length)) := cell_of_row _ _ 0 _ _ (0, 0) hB3
      have fn3 : W3.frozen? ⟨bn, 0, none⟩ = false := by simp [World.frozen?, hB3]
      have k4 : KpS [bs, bn] w3.heap.size W' W3 := ⟨e3.1.trans kk.os, e3.2.1.trans kk.tape, e3.2.2.trans kk.output, by have h1 : W'.heap.size ≤ W2.heap.size := kk.size; omega, fun j hj hs' => by
        simp at hs'
        rw [ho3 j hs'.1]
        exact kk.block j (by omega) (by simp)⟩
      have HP : Hid (∀ (l : Nat) (o : Obj), w3.heap.size ≤ l → W'.heap[l]? = some o → W3.heap[l]? = some o) := hid fun l o hl h0 => (ho3 l (by omega)).trans ((kk.block l (lt_of_block h0) (by simp)).trans h0)
      have HS3 := hid hs3'
      have HB3 := hid hB3
      have HK4 := hid k4
      have HKp := hid hKp
      have hlen1 : (pre ++ [x]).length = pre.length + 1 := by simp
      clear hs3' hB3 k4 hKp hR2 ho3 hz3 e3 hW3 kk k2 rr hcur hrow hcl hlen2 RD eE eB D4 c0 cq cn hR hB
      have Z3 := hid z3
      clear z3
      refine show Code.wpIn _ _ _ _ _ _ _ from ?_
      gi_wp2
      have z3 := Z3.out
      have hzz : W'.heap.size ≤ W3.heap.size := HK4.out.size
      refine ⟨⟨by simpa [World.setCell] using hzz, fun j o hj h0 _ => (Below.heap_setCell _ _ _ _ (show j ≠ bn by omega)).trans (HP.out j o hj h0)⟩, HK4.out.setCell _ _ _ (.inl (by simp)), HKp.out.trans (HK4.out.setCell _ _ _ (.inl (by simp))), by rw [hlen1]; omega, ?_, (Below.heap_setCell _ _ _ _ hne).trans HS3.out⟩
      rw [heap_setCell_same _ _ _ _ _ _ HB3.out, hlen1]
      simp
      omega
    case done =>
      rintro D ys W' hD hys ⟨hKp, hl', hB, hR⟩ hDD
      rw [hys, fillC_range _ _ _ (by omega)] at hR
      have hsz := hKp.size
      have x1' := (hKp.block (w.heap.size + 1) (by omega) (by simp; omega)).trans x1
      have x2' := (hKp.block (w.heap.size + 2) (by omega) (by simp; omega)).trans x2
      have c1 : W'.cell? ⟨w.heap.size + 1, 0, none⟩ = some (.slice none 0 0) := cell_of_row _ _ 0 _ _ (0, 0) x1'
      have f1 : W'.frozen? ⟨w.heap.size + 1, 0, none⟩ = false := by simp [World.frozen?, x1']
      have c2 : W'.cell? ⟨w.heap.size + 2, 0, none⟩ = some (.int .i64 0) := cell_of_row _ _ 0 _ _ (0, 0) x2'
      have f2 : W'.frozen? ⟨w.heap.size + 2, 0, none⟩ = false := by simp [World.frozen?, x2']
      have X1 := hid x1'
      have X2 := hid x2'
      have HR := hid hR
      have HKp := hid hKp
      have HDD := hid hDD
      clear x1' x2' hR hKp hDD hB hys
      have f2' : (W'.setCell ⟨w.heap.size + 1, 0, none⟩ (.slice (some ⟨bs, 0, none⟩) hl hl)).frozen? ⟨w.heap.size + 2, 0, none⟩ = false := by
        simp [World.frozen?, (Below.heap_setCell W' ⟨w.heap.size + 1, 0, none⟩ (.slice (some ⟨bs, 0, none⟩) hl hl) (w.heap.size + 2) (show w.heap.size + 2 ≠ w.heap.size + 1 by omega)).trans X2.out]
      have c2' : (W'.setCell ⟨w.heap.size + 1, 0, none⟩ (.slice (some ⟨bs, 0, none⟩) hl hl)).cell? ⟨w.heap.size + 2, 0, none⟩ = some (.int .i64 0) :=
        cell_of_row _ _ 0 _ _ (0, 0) ((Below.heap_setCell W' ⟨w.heap.size + 1, 0, none⟩ (.slice (some ⟨bs, 0, none⟩) hl hl) (w.heap.size + 2) (show w.heap.size + 2 ≠ w.heap.size + 1 by omega)).trans X2.out)
      gi_wp2
      have y1 : ((W'.setCell ⟨w.heap.size + 1, 0, none⟩ (.slice (some ⟨bs, 0, none⟩) hl hl)).setCell ⟨w.heap.size + 2, 0, none⟩ (.int .i64 0)).heap[w.heap.size + 1]? = some (.cells #[.slice (some ⟨bs, 0, none⟩) hl hl] 22 (0, 0)) :=
        (Below.heap_setCell _ _ _ _ (show w.heap.size + 1 ≠ w.heap.size + 2 by omega)).trans (heap_setCell_same _ _ _ _ _ _ X1.out)
      have y2 : ((W'.setCell ⟨w.heap.size + 1, 0, none⟩ (.slice (some ⟨bs, 0, none⟩) hl hl)).setCell ⟨w.heap.size + 2, 0, none⟩ (.int .i64 0)).heap[w.heap.size + 2]? = some (.cells #[.int .i64 0] 25 (0, 0)) :=
        heap_setCell_same _ _ _ _ _ _ ((Below.heap_setCell _ _ _ _ (show w.heap.size + 2 ≠ w.heap.size + 1 by omega)).trans X2.out)
      have yb : ((W'.setCell ⟨w.heap.size + 1, 0, none⟩ (.slice (some ⟨bs, 0, none⟩) hl hl)).setCell ⟨w.heap.size + 2, 0, none⟩ (.int .i64 0)).heap[bs]? = some (.cells ((getB s bg hl).map (Value.int .u8)).toArray 5 (0, 0)) :=
        (Below.heap_setCell _ _ _ _ (show bs ≠ w.heap.size + 2 by omega)).trans ((Below.heap_setCell _ _ _ _ (show bs ≠ w.heap.size + 1 by omega)).trans HR.out)
      have yD : ((W'.setCell ⟨w.heap.size + 1, 0, none⟩ (.slice (some ⟨bs, 0, none⟩) hl hl)).setCell ⟨w.heap.size + 2, 0, none⟩ (.int .i64 0)).heap[D]? = some (.deferred (some [])) :=
        (Below.heap_setCell _ _ _ _ (show D ≠ w.heap.size + 2 by omega)).trans ((Below.heap_setCell _ _ _ _ (show D ≠ w.heap.size + 1 by omega)).trans HDD.out)
      have yk : Keeps [] w ((W'.setCell ⟨w.heap.size + 1, 0, none⟩ (.slice (some ⟨bs, 0, none⟩) hl hl)).setCell ⟨w.heap.size + 2, 0, none⟩ (.int .i64 0)) :=
        ((K3.out.trans' HKp.out.toKeeps (fun j hj hm => by simp at hm; omega)).setCell (Or.inr (show w.heap.size ≤ w.heap.size + 1 by omega)) _).setCell (Or.inr (show w.heap.size ≤ w.heap.size + 2 by omega)) _
      refine ⟨by simp, .inl ⟨_, _, rfl, run_takeDeferred yD, ?_⟩⟩
      have hgl : (getB s bg hl).length = hl := by rw [getB, List.length_take, imageL_len]; omega
      refine ⟨_, results_cells2 rfl _ _ ⟨w.heap.size + 1, 0, none⟩ ⟨w.heap.size + 2, 0, none⟩ (.slice (some ⟨bs, 0, none⟩) hl hl) (.int .i64 0) rfl rfl
        (loadSl_var (cell_of_row _ _ 0 _ _ (0, 0) ((World.putObj_heap_other (by omega)).trans y1))) (loadErr_var (cell_of_row _ _ 0 _ _ (0, 0) ((World.putObj_heap_other (by omega)).trans y2))), _, rfl, ?_, ?_, yk.putObj (by omega) _⟩
      · rw [← HL.out]
        refine ⟨some ⟨bs, 0, none⟩, hl, by rw [hgl], by omega, by unfold maxLen; omega, by simp, getB_byte _ _ _, fun ad had j u hu => ?_⟩
        obtain rfl := Option.some.inj had
        rw [Addr.add_mid, Nat.zero_add, cell_of_row _ _ j _ _ (0, 0) ((World.putObj_heap_other (by omega)).trans yb)]
        simpa using hu
      · intro b hb
        injection hb with hb
        simp only at hb
        omega
    case stop =>
      rintro D c pre W' _ _ h _
      exact h.elim
  refine held_take (i := 0) (v := .pointer (some ⟨q, 0, none⟩)) rfl (by kernel_rfl) (by kernel_rfl) (by kernel_rfl) (fun _ _ _ h => h) rfl (fun W1 hW1 => exec_load _ _ _ _ rfl rfl (run_loadCell W1 _ _ _ (c0 W1 hW1) (agg_no _ (by kernel_rfl)))) (KpS.refl _ _ _) ?_
  simp only [Act.put, List.setIfInBounds_toArray, List.set_cons_zero, List.set_cons_succ]
  refine held_take (i := 1) (v := .pointer (some ⟨q, 0, none⟩)) rfl (by kernel_rfl) (by kernel_rfl) (by kernel_rfl) (fun _ _ _ h => h) rfl (fun W1 hW1 => by go_simp) (KpS.refl _ _ _) ?_
  simp only [Act.put, List.setIfInBounds_toArray, List.set_cons_zero, List.set_cons_succ]
  refine held_take (i := 2) (v := .pointer (some ⟨q, 2, none⟩)) rfl (by kernel_rfl) (by kernel_rfl) (by kernel_rfl) (fun _ _ _ h => h) rfl (fun W1 hW1 => by go_simp) (KpS.refl _ _ _) ?_
  simp only [Act.put, List.setIfInBounds_toArray, List.set_cons_zero, List.set_cons_succ]
  refine held_take (i := 3) (v := .slice (some ⟨g, 0, none⟩) hs.length hs.length) rfl (by kernel_rfl) (by kernel_rfl) (by kernel_rfl) (fun _ _ _ h => h) rfl (fun W1 hW1 => exec_load _ _ _ _ rfl rfl (run_loadCell W1 _ _ _ (cq W1 hW1) (agg_no _ (by kernel_rfl)))) (KpS.refl _ _ _) ?_
  simp only [Act.put, List.setIfInBounds_toArray, List.set_cons_zero, List.set_cons_succ]
  refine held_take (i := 4) (v := .int .i64 k) rfl (by kernel_rfl) (by kernel_rfl) (by kernel_rfl) (fun _ _ _ h => h) rfl (fun W1 hW1 => rfl) (KpS.refl _ _ _) ?_
  simp only [Act.put, List.setIfInBounds_toArray, List.set_cons_zero, List.set_cons_succ]
  refine held_take (i := 5) (v := .pointer (some ⟨g, k * 3, none⟩)) rfl (by kernel_rfl) (by kernel_rfl) (by kernel_rfl) (fun _ _ _ h => h) rfl (fun W1 hW1 => by go_simp) (KpS.refl _ _ _) ?_
  simp only [Act.put, List.setIfInBounds_toArray, List.set_cons_zero, List.set_cons_succ]
  refine held_take (i := 6) (v := .pointer (some ⟨g, k * 3 + 1, none⟩)) rfl (by kernel_rfl) (by kernel_rfl) (by kernel_rfl) (fun _ _ _ h => h) rfl (fun W1 hW1 => by go_simp) (KpS.refl _ _ _) ?_
  simp only [Act.put, List.setIfInBounds_toArray, List.set_cons_zero, List.set_cons_succ]
  refine held_take (i := 7) (v := .int .i64 hl) rfl (by kernel_rfl) (by kernel_rfl) (by kernel_rfl) (fun _ _ _ h => h) rfl (fun W1 hW1 => exec_load _ _ _ _ rfl rfl (run_loadCell W1 _ _ _ (ch W1 hW1) (agg_no _ (by kernel_rfl)))) (KpS.refl _ _ _) ?_
  simp only [Act.put, List.setIfInBounds_toArray, List.set_cons_zero, List.set_cons_succ]
  refine held_take (i := 9) (v := .pointer (some ⟨q, 0, none⟩)) rfl (by kernel_rfl) (by kernel_rfl) (by kernel_rfl) (fun _ _ _ h => h) rfl (fun W1 hW1 => exec_load _ _ _ _ rfl rfl (run_loadCell W1 _ _ _ (c0 W1 hW1) (agg_no _ (by kernel_rfl)))) (KpS.refl _ _ _) ?_
  simp only [Act.put, List.setIfInBounds_toArray, List.set_cons_zero, List.set_cons_succ]
  refine held_take (i := 10) (v := .int .i64 k) rfl (by kernel_rfl) (by kernel_rfl) (by kernel_rfl) (fun _ _ _ h => h) rfl (fun W1 hW1 => rfl) (KpS.refl _ _ _) ?_
  simp only [Act.put, List.setIfInBounds_toArray, List.set_cons_zero, List.set_cons_succ]
  have kp0 : KpS [] w1.heap.size w1.drew w1.drew := KpS.refl _ _ _
  refine wpAnyH_all (rs := [8, 11, 13]) (by kernel_rfl) (by simp) fun j hj => ?_
  simp only [List.mem_cons, List.not_mem_nil, or_false] at hj
  rcases hj with rfl | rfl | rfl
  · skip
    have zz1 : w1.drew.heap.size = w1.heap.size + 0 := by rfl
    have kp1 : KpS [] w1.heap.size w1.drew (w1.drew.alloc (.cells (madeCells #[.int .u8 0] hl) 5)) := kp0.alloc (by omega) _
    have hbs : (w1.drew.alloc (.cells (madeCells #[.int .u8 0] hl) 5)).heap[w1.drew.heap.size]? = some (.cells (madeCells #[.int .u8 0] hl) 5 (0, 0)) := heap_alloc_new _ _
    refine at_op (i := 8) rfl rfl (wp_value (exec_mk _ _ rfl rfl rfl (HMK.out w1.drew)) ⟨kp1, ?_⟩)
    simp only [Act.put, List.setIfInBounds_toArray, List.set_cons_zero, List.set_cons_succ]
    rw [zz1] at hbs ⊢
    have zn : (w1.drew.alloc (.cells (madeCells #[.int .u8 0] hl) 5)).heap.size = w1.heap.size + 1 := by rw [World.size_alloc, zz1]
    generalize w1.drew.alloc (.cells (madeCells #[.int .u8 0] hl) 5) = W1 at kp1 zn hbs ⊢
    refine wpAnyH_all (rs := [11, 13]) (by kernel_rfl) (by simp) fun j hj => ?_
    simp only [List.mem_cons, List.not_mem_nil, or_false] at hj
    rcases hj with rfl | rfl
    · skip
      refine at_op (i := 11) rfl rfl (wp_enter (f := 68) (args := #[.pointer (some ⟨q, 0, none⟩), .int .i64 k]) (by go_simp) (HLB.out W1 (kS _ kp1)) ?_)
      rintro e wz2 ⟨rfl, rfl⟩
      refine ⟨_, rfl, kp1, ?_⟩
      simp only [Act.put, List.setIfInBounds_toArray, List.set_cons_zero, List.set_cons_succ]
      refine held_take (i := 12) (v := .int .i64 ((bg : Int) + 1)) rfl (by kernel_rfl) (by kernel_rfl) (by kernel_rfl) (fun _ _ _ h => h) rfl (fun W1 hW1 => by (have e : IntKind.i64.wrap ((bg : Int) + 1) = (bg : Int) + 1 := by (rw [IntKind.wrap_i64]; omega)); go_simp) (kp1) ?_
      simp only [Act.put, List.setIfInBounds_toArray, List.set_cons_zero, List.set_cons_succ]
      refine wpAnyH_all (rs := [13]) (by kernel_rfl) (by simp) fun j hj => ?_
      obtain rfl : j = 13 := by simpa using hj
      have zz3 : W1.heap.size = w1.heap.size + 1 := by exact zn
      have kp3 : KpS [] w1.heap.size w1.drew (W1.alloc (.cells #[.int .i64 0] 3)) := kp1.alloc (by omega) _
      have hbn : (W1.alloc (.cells #[.int .i64 0] 3)).heap[W1.heap.size]? = some (.cells #[.int .i64 0] 3 (0, 0)) := heap_alloc_new _ _
      replace hbs := (Below.heap_alloc W1 (.cells #[.int .i64 0] 3) (w1.heap.size) (by omega)).trans hbs
      refine at_op (i := 13) rfl rfl (wp_value (v := .pointer (some ⟨W1.heap.size, 0, none⟩)) (w' := W1.alloc (.cells #[.int .i64 0] 3)) (by clear zz3; go_simp) ⟨kp3, ?_⟩)
      simp only [Act.put, List.setIfInBounds_toArray, List.set_cons_zero, List.set_cons_succ]
      rw [zz3] at hbn ⊢
      have zn : (W1.alloc (.cells #[.int .i64 0] 3)).heap.size = w1.heap.size + 2 := by rw [World.size_alloc, zz3]
      generalize W1.alloc (.cells #[.int .i64 0] 3) = W3 at kp3 zn hbn hbs ⊢
      refine held_take (i := 14) (v := .slice (some ⟨(w1.heap.size), 0, none⟩) hl hl) rfl (by kernel_rfl) (by kernel_rfl) (by kernel_rfl) (fun _ _ _ h => h) rfl (fun W1 hW1 => rfl) (kp3) ?_
      simp only [Act.put, List.setIfInBounds_toArray, List.set_cons_zero, List.set_cons_succ]
      have fz : W3.frozen? ⟨(w1.heap.size + 1), 0, none⟩ = false := by simp [World.frozen?, hbn]
      have cz : W3.cell? ⟨(w1.heap.size + 1), 0, none⟩ = some (.int .i64 0) := by simp [World.cell?, hbn]
      refine held_do (i := 15) (by kernel_rfl) rfl rfl (wp_stored (w' := W3.setCell ⟨(w1.heap.size + 1), 0, none⟩ (.int .i64 ((bg : Int) + 1))) (by go_simp) ⟨kp3.setCell _ _ _ (.inr (by omega)), ?_⟩)
      simp only [Act.put]
      refine wpAnyH_done (by kernel_rfl) (NoPanic.normal ?_) _
      exact KEY (w1.heap.size) (w1.heap.size + 1) _ (by omega) (by omega) (by omega) (kp3.setCell (w1.heap.size + 1) 0 _ (.inr (by omega))) ((Below.heap_setCell _ _ _ _ (show (w1.heap.size) ≠ (w1.heap.size + 1) by omega)).trans hbs) (by rw [heap_setCell_same _ _ _ _ _ _ hbn]; rfl)
    · skip
      have zz4 : W1.heap.size = w1.heap.size + 1 := by exact zn
      have kp4 : KpS [] w1.heap.size w1.drew (W1.alloc (.cells #[.int .i64 0] 3)) := kp1.alloc (by omega) _
      have hbn : (W1.alloc (.cells #[.int .i64 0] 3)).heap[W1.heap.size]? = some (.cells #[.int .i64 0] 3 (0, 0)) := heap_alloc_new _ _
      replace hbs := (Below.heap_alloc W1 (.cells #[.int .i64 0] 3) (w1.heap.size) (by omega)).trans hbs
      refine at_op (i := 13) rfl rfl (wp_value (v := .pointer (some ⟨W1.heap.size, 0, none⟩)) (w' := W1.alloc (.cells #[.int .i64 0] 3)) (by clear zz4; go_simp) ⟨kp4, ?_⟩)
      simp only [Act.put, List.setIfInBounds_toArray, List.set_cons_zero, List.set_cons_succ]
      rw [zz4] at hbn ⊢
      have zn : (W1.alloc (.cells #[.int .i64 0] 3)).heap.size = w1.heap.size + 2 := by rw [World.size_alloc, zz4]
      generalize W1.alloc (.cells #[.int .i64 0] 3) = W4 at kp4 zn hbn hbs ⊢
      refine wpAnyH_all (rs := [11]) (by kernel_rfl) (by simp) fun j hj => ?_
      obtain rfl : j = 11 := by simpa using hj
      refine at_op (i := 11) rfl rfl (wp_enter (f := 68) (args := #[.pointer (some ⟨q, 0, none⟩), .int .i64 k]) (by go_simp) (HLB.out W4 (kS _ kp4)) ?_)
      rintro e wz5 ⟨rfl, rfl⟩
      refine ⟨_, rfl, kp4, ?_⟩
      simp only [Act.put, List.setIfInBounds_toArray, List.set_cons_zero, List.set_cons_succ]
      refine held_take (i := 12) (v := .int .i64 ((bg : Int) + 1)) rfl (by kernel_rfl) (by kernel_rfl) (by kernel_rfl) (fun _ _ _ h => h) rfl (fun W1 hW1 => by (have e : IntKind.i64.wrap ((bg : Int) + 1) = (bg : Int) + 1 := by (rw [IntKind.wrap_i64]; omega)); go_simp) (kp4) ?_
      simp only [Act.put, List.setIfInBounds_toArray, List.set_cons_zero, List.set_cons_succ]
      refine held_take (i := 14) (v := .slice (some ⟨(w1.heap.size), 0, none⟩) hl hl) rfl (by kernel_rfl) (by kernel_rfl) (by kernel_rfl) (fun _ _ _ h => h) rfl (fun W1 hW1 => rfl) (kp4) ?_
      simp only [Act.put, List.setIfInBounds_toArray, List.set_cons_zero, List.set_cons_succ]
      have fz : W4.frozen? ⟨(w1.heap.size + 1), 0, none⟩ = false := by simp [World.frozen?, hbn]
      have cz : W4.cell? ⟨(w1.heap.size + 1), 0, none⟩ = some (.int .i64 0) := by simp [World.cell?, hbn]
      refine held_do (i := 15) (by kernel_rfl) rfl rfl (wp_stored (w' := W4.setCell ⟨(w1.heap.size + 1), 0, none⟩ (.int .i64 ((bg : Int) + 1))) (by go_simp) ⟨kp4.setCell _ _ _ (.inr (by omega)), ?_⟩)
      simp only [Act.put]
      refine wpAnyH_done (by kernel_rfl) (NoPanic.normal ?_) _
      exact KEY (w1.heap.size) (w1.heap.size + 1) _ (by omega) (by omega) (by omega) (kp4.setCell (w1.heap.size + 1) 0 _ (.inr (by omega))) ((Below.heap_setCell _ _ _ _ (show (w1.heap.size) ≠ (w1.heap.size + 1) by omega)).trans hbs) (by rw [heap_setCell_same _ _ _ _ _ _ hbn]; rfl)
  · skip
    refine at_op (i := 11) rfl rfl (wp_enter (f := 68) (args := #[.pointer (some ⟨q, 0, none⟩), .int .i64 k]) (by go_simp) (HLB.out w1.drew (kS _ kp0)) ?_)
    rintro e wz6 ⟨rfl, rfl⟩
    refine ⟨_, rfl, kp0, ?_⟩
    simp only [Act.put, List.setIfInBounds_toArray, List.set_cons_zero, List.set_cons_succ]
    refine held_take (i := 12) (v := .int .i64 ((bg : Int) + 1)) rfl (by kernel_rfl) (by kernel_rfl) (by kernel_rfl) (fun _ _ _ h => h) rfl (fun W1 hW1 => by (have e : IntKind.i64.wrap ((bg : Int) + 1) = (bg : Int) + 1 := by (rw [IntKind.wrap_i64]; omega)); go_simp) (kp0) ?_
    simp only [Act.put, List.setIfInBounds_toArray, List.set_cons_zero, List.set_cons_succ]
    refine wpAnyH_all (rs := [8, 13]) (by kernel_rfl) (by simp) fun j hj => ?_
    simp only [List.mem_cons, List.not_mem_nil, or_false] at hj
    rcases hj with rfl | rfl
    · skip
      have zz7 : w1.drew.heap.size = w1.heap.size + 0 := by rfl
      have kp7 : KpS [] w1.heap.size w1.drew (w1.drew.alloc (.cells (madeCells #[.int .u8 0] hl) 5)) := kp0.alloc (by omega) _
      have hbs : (w1.drew.alloc (.cells (madeCells #[.int .u8 0] hl) 5)).heap[w1.drew.heap.size]? = some (.cells (madeCells #[.int .u8 0] hl) 5 (0, 0)) := heap_alloc_new _ _
      refine at_op (i := 8) rfl rfl (wp_value (exec_mk _ _ rfl rfl rfl (HMK.out w1.drew)) ⟨kp7, ?_⟩)
      simp only [Act.put, List.setIfInBounds_toArray, List.set_cons_zero, List.set_cons_succ]
      rw [zz7] at hbs ⊢
      have zn : (w1.drew.alloc (.cells (madeCells #[.int .u8 0] hl) 5)).heap.size = w1.heap.size + 1 := by rw [World.size_alloc, zz7]
      generalize w1.drew.alloc (.cells (madeCells #[.int .u8 0] hl) 5) = W7 at kp7 zn hbs ⊢
      refine wpAnyH_all (rs := [13]) (by kernel_rfl) (by simp) fun j hj => ?_
      obtain rfl : j = 13 := by simpa using hj
      have zz8 : W7.heap.size = w1.heap.size + 1 := by exact zn
      have kp8 : KpS [] w1.heap.size w1.drew (W7.alloc (.cells #[.int .i64 0] 3)) := kp7.alloc (by omega) _
      have hbn : (W7.alloc (.cells #[.int .i64 0] 3)).heap[W7.heap.size]? = some (.cells #[.int .i64 0] 3 (0, 0)) := heap_alloc_new _ _
      replace hbs := (Below.heap_alloc W7 (.cells #[.int .i64 0] 3) (w1.heap.size) (by omega)).trans hbs
      refine at_op (i := 13) rfl rfl (wp_value (v := .pointer (some ⟨W7.heap.size, 0, none⟩)) (w' := W7.alloc (.cells #[.int .i64 0] 3)) (by clear zz8; go_simp) ⟨kp8, ?_⟩)
      simp only [Act.put, List.setIfInBounds_toArray, List.set_cons_zero, List.set_cons_succ]
      rw [zz8] at hbn ⊢
      have zn : (W7.alloc (.cells #[.int .i64 0] 3)).heap.size = w1.heap.size + 2 := by rw [World.size_alloc, zz8]
      generalize W7.alloc (.cells #[.int .i64 0] 3) = W8 at kp8 zn hbn hbs ⊢
      refine held_take (i := 14) (v := .slice (some ⟨(w1.heap.size), 0, none⟩) hl hl) rfl (by kernel_rfl) (by kernel_rfl) (by kernel_rfl) (fun _ _ _ h => h) rfl (fun W1 hW1 => rfl) (kp8) ?_
      simp only [Act.put, List.setIfInBounds_toArray, List.set_cons_zero, List.set_cons_succ]
      have fz : W8.frozen? ⟨(w1.heap.size + 1), 0, none⟩ = false := by simp [World.frozen?, hbn]
      have cz : W8.cell? ⟨(w1.heap.size + 1), 0, none⟩ = some (.int .i64 0) := by simp [World.cell?, hbn]
      refine held_do (i := 15) (by kernel_rfl) rfl rfl (wp_stored (w' := W8.setCell ⟨(w1.heap.size + 1), 0, none⟩ (.int .i64 ((bg : Int) + 1))) (by go_simp) ⟨kp8.setCell _ _ _ (.inr (by omega)), ?_⟩)
      simp only [Act.put]
      refine wpAnyH_done (by kernel_rfl) (NoPanic.normal ?_) _
      exact KEY (w1.heap.size) (w1.heap.size + 1) _ (by omega) (by omega) (by omega) (kp8.setCell (w1.heap.size + 1) 0 _ (.inr (by omega))) ((Below.heap_setCell _ _ _ _ (show (w1.heap.size) ≠ (w1.heap.size + 1) by omega)).trans hbs) (by rw [heap_setCell_same _ _ _ _ _ _ hbn]; rfl)
    · skip
      have zz9 : w1.drew.heap.size = w1.heap.size + 0 := by rfl
      have kp9 : KpS [] w1.heap.size w1.drew (w1.drew.alloc (.cells #[.int .i64 0] 3)) := kp0.alloc (by omega) _
      have hbn : (w1.drew.alloc (.cells #[.int .i64 0] 3)).heap[w1.drew.heap.size]? = some (.cells #[.int .i64 0] 3 (0, 0)) := heap_alloc_new _ _
      refine at_op (i := 13) rfl rfl (wp_value (v := .pointer (some ⟨w1.drew.heap.size, 0, none⟩)) (w' := w1.drew.alloc (.cells #[.int .i64 0] 3)) (by clear zz9; go_simp) ⟨kp9, ?_⟩)
      simp only [Act.put, List.setIfInBounds_toArray, List.set_cons_zero, List.set_cons_succ]
      rw [zz9] at hbn ⊢
      have zn : (w1.drew.alloc (.cells #[.int .i64 0] 3)).heap.size = w1.heap.size + 1 := by rw [World.size_alloc, zz9]
      generalize w1.drew.alloc (.cells #[.int .i64 0] 3) = W9 at kp9 zn hbn ⊢
      refine wpAnyH_all (rs := [8]) (by kernel_rfl) (by simp) fun j hj => ?_
      obtain rfl : j = 8 := by simpa using hj
      have zz10 : W9.heap.size = w1.heap.size + 1 := by exact zn
      have kp10 : KpS [] w1.heap.size w1.drew (W9.alloc (.cells (madeCells #[.int .u8 0] hl) 5)) := kp9.alloc (by omega) _
      have hbs : (W9.alloc (.cells (madeCells #[.int .u8 0] hl) 5)).heap[W9.heap.size]? = some (.cells (madeCells #[.int .u8 0] hl) 5 (0, 0)) := heap_alloc_new _ _
      replace hbn := (Below.heap_alloc W9 (.cells (madeCells #[.int .u8 0] hl) 5) (w1.heap.size) (by omega)).trans hbn
      refine at_op (i := 8) rfl rfl (wp_value (exec_mk _ _ rfl rfl rfl (HMK.out W9)) ⟨kp10, ?_⟩)
      simp only [Act.put, List.setIfInBounds_toArray, List.set_cons_zero, List.set_cons_succ]
      rw [zz10] at hbs ⊢
      have zn : (W9.alloc (.cells (madeCells #[.int .u8 0] hl) 5)).heap.size = w1.heap.size + 2 := by rw [World.size_alloc, zz10]
      generalize W9.alloc (.cells (madeCells #[.int .u8 0] hl) 5) = W10 at kp10 zn hbs hbn ⊢
      refine held_take (i := 14) (v := .slice (some ⟨(w1.heap.size + 1), 0, none⟩) hl hl) rfl (by kernel_rfl) (by kernel_rfl) (by kernel_rfl) (fun _ _ _ h => h) rfl (fun W1 hW1 => rfl) (kp10) ?_
      simp only [Act.put, List.setIfInBounds_toArray, List.set_cons_zero, List.set_cons_succ]
      have fz : W10.frozen? ⟨(w1.heap.size), 0, none⟩ = false := by simp [World.frozen?, hbn]
      have cz : W10.cell? ⟨(w1.heap.size), 0, none⟩ = some (.int .i64 0) := by simp [World.cell?, hbn]
      refine held_do (i := 15) (by kernel_rfl) rfl rfl (wp_stored (w' := W10.setCell ⟨(w1.heap.size), 0, none⟩ (.int .i64 ((bg : Int) + 1))) (by go_simp) ⟨kp10.setCell _ _ _ (.inr (by omega)), ?_⟩)
      simp only [Act.put]
      refine wpAnyH_done (by kernel_rfl) (NoPanic.normal ?_) _
      exact KEY (w1.heap.size + 1) (w1.heap.size) _ (by omega) (by omega) (by omega) (kp10.setCell (w1.heap.size) 0 _ (.inr (by omega))) ((Below.heap_setCell _ _ _ _ (show (w1.heap.size + 1) ≠ (w1.heap.size) by omega)).trans hbs) (by rw [heap_setCell_same _ _ _ _ _ _ hbn]; rfl)
  · skip
    have zz11 : w1.drew.heap.size = w1.heap.size + 0 := by rfl
    have kp11 : KpS [] w1.heap.size w1.drew (w1.drew.alloc (.cells #[.int .i64 0] 3)) := kp0.alloc (by omega) _
    have hbn : (w1.drew.alloc (.cells #[.int .i64 0] 3)).heap[w1.drew.heap.size]? = some (.cells #[.int .i64 0] 3 (0, 0)) := heap_alloc_new _ _
    refine at_op (i := 13) rfl rfl (wp_value (v := .pointer (some ⟨w1.drew.heap.size, 0, none⟩)) (w' := w1.drew.alloc (.cells #[.int .i64 0] 3)) (by clear zz11; go_simp) ⟨kp11, ?_⟩)
    simp only [Act.put, List.setIfInBounds_toArray, List.set_cons_zero, List.set_cons_succ]
    rw [zz11] at hbn ⊢
    have zn : (w1.drew.alloc (.cells #[.int .i64 0] 3)).heap.size = w1.heap.size + 1 := by rw [World.size_alloc, zz11]
    generalize w1.drew.alloc (.cells #[.int .i64 0] 3) = W11 at kp11 zn hbn ⊢
    refine wpAnyH_all (rs := [8, 11]) (by kernel_rfl) (by simp) fun j hj => ?_
    simp only [List.mem_cons, List.not_mem_nil, or_false] at hj
    rcases hj with rfl | rfl
    · skip
      have zz12 : W11.heap.size = w1.heap.size + 1 := by exact zn
      have kp12 : KpS [] w1.heap.size w1.drew (W11.alloc (.cells (madeCells #[.int .u8 0] hl) 5)) := kp11.alloc (by omega) _
      have hbs : (W11.alloc (.cells (madeCells #[.int .u8 0] hl) 5)).heap[W11.heap.size]? = some (.cells (madeCells #[.int .u8 0] hl) 5 (0, 0)) := heap_alloc_new _ _
      replace hbn := (Below.heap_alloc W11 (.cells (madeCells #[.int .u8 0] hl) 5) (w1.heap.size) (by omega)).trans hbn
      refine at_op (i := 8) rfl rfl (wp_value (exec_mk _ _ rfl rfl rfl (HMK.out W11)) ⟨kp12, ?_⟩)
      simp only [Act.put, List.setIfInBounds_toArray, List.set_cons_zero, List.set_cons_succ]
      rw [zz12] at hbs ⊢
      have zn : (W11.alloc (.cells (madeCells #[.int .u8 0] hl) 5)).heap.size = w1.heap.size + 2 := by rw [World.size_alloc, zz12]
      generalize W11.alloc (.cells (madeCells #[.int .u8 0] hl) 5) = W12 at kp12 zn hbs hbn ⊢
      refine wpAnyH_all (rs := [11]) (by kernel_rfl) (by simp) fun j hj => ?_
      obtain rfl : j = 11 := by simpa using hj
      refine at_op (i := 11) rfl rfl (wp_enter (f := 68) (args := #[.pointer (some ⟨q, 0, none⟩), .int .i64 k]) (by go_simp) (HLB.out W12 (kS _ kp12)) ?_)
      rintro e wz13 ⟨rfl, rfl⟩
      refine ⟨_, rfl, kp12, ?_⟩
      simp only [Act.put, List.setIfInBounds_toArray, List.set_cons_zero, List.set_cons_succ]
      refine held_take (i := 12) (v := .int .i64 ((bg : Int) + 1)) rfl (by kernel_rfl) (by kernel_rfl) (by kernel_rfl) (fun _ _ _ h => h) rfl (fun W1 hW1 => by (have e : IntKind.i64.wrap ((bg : Int) + 1) = (bg : Int) + 1 := by (rw [IntKind.wrap_i64]; omega)); go_simp) (kp12) ?_
      simp only [Act.put, List.setIfInBounds_toArray, List.set_cons_zero, List.set_cons_succ]
      refine held_take (i := 14) (v := .slice (some ⟨(w1.heap.size + 1), 0, none⟩) hl hl) rfl (by kernel_rfl) (by kernel_rfl) (by kernel_rfl) (fun _ _ _ h => h) rfl (fun W1 hW1 => rfl) (kp12) ?_
      simp only [Act.put, List.setIfInBounds_toArray, List.set_cons_zero, List.set_cons_succ]
      have fz : W12.frozen? ⟨(w1.heap.size), 0, none⟩ = false := by simp [World.frozen?, hbn]
      have cz : W12.cell? ⟨(w1.heap.size), 0, none⟩ = some (.int .i64 0) := by simp [World.cell?, hbn]
      refine held_do (i := 15) (by kernel_rfl) rfl rfl (wp_stored (w' := W12.setCell ⟨(w1.heap.size), 0, none⟩ (.int .i64 ((bg : Int) + 1))) (by go_simp) ⟨kp12.setCell _ _ _ (.inr (by omega)), ?_⟩)
      simp only [Act.put]
      refine wpAnyH_done (by kernel_rfl) (NoPanic.normal ?_) _
      exact KEY (w1.heap.size + 1) (w1.heap.size) _ (by omega) (by omega) (by omega) (kp12.setCell (w1.heap.size) 0 _ (.inr (by omega))) ((Below.heap_setCell _ _ _ _ (show (w1.heap.size + 1) ≠ (w1.heap.size) by omega)).trans hbs) (by rw [heap_setCell_same _ _ _ _ _ _ hbn]; rfl)
    · skip
      refine at_op (i := 11) rfl rfl (wp_enter (f := 68) (args := #[.pointer (some ⟨q, 0, none⟩), .int .i64 k]) (by go_simp) (HLB.out W11 (kS _ kp11)) ?_)
      rintro e wz14 ⟨rfl, rfl⟩
      refine ⟨_, rfl, kp11, ?_⟩
      simp only [Act.put, List.setIfInBounds_toArray, List.set_cons_zero, List.set_cons_succ]
      refine held_take (i := 12) (v := .int .i64 ((bg : Int) + 1)) rfl (by kernel_rfl) (by kernel_rfl) (by kernel_rfl) (fun _ _ _ h => h) rfl (fun W1 hW1 => by (have e : IntKind.i64.wrap ((bg : Int) + 1) = (bg : Int) + 1 := by (rw [IntKind.wrap_i64]; omega)); go_simp) (kp11) ?_
      simp only [Act.put, List.setIfInBounds_toArray, List.set_cons_zero, List.set_cons_succ]
      refine wpAnyH_all (rs := [8]) (by kernel_rfl) (by simp) fun j hj => ?_
      obtain rfl : j = 8 := by simpa using hj
      have zz15 : W11.heap.size = w1.heap.size + 1 := by exact zn
      have kp15 : KpS [] w1.heap.size w1.drew (W11.alloc (.cells (madeCells #[.int .u8 0] hl) 5)) := kp11.alloc (by omega) _
      have hbs : (W11.alloc (.cells (madeCells #[.int .u8 0] hl) 5)).heap[W11.heap.size]? = some (.cells (madeCells #[.int .u8 0] hl) 5 (0, 0)) := heap_alloc_new _ _
      replace hbn := (Below.heap_alloc W11 (.cells (madeCells #[.int .u8 0] hl) 5) (w1.heap.size) (by omega)).trans hbn
      refine at_op (i := 8) rfl rfl (wp_value (exec_mk _ _ rfl rfl rfl (HMK.out W11)) ⟨kp15, ?_⟩)
      simp only [Act.put, List.setIfInBounds_toArray, List.set_cons_zero, List.set_cons_succ]
      rw [zz15] at hbs ⊢
      have zn : (W11.alloc (.cells (madeCells #[.int .u8 0] hl) 5)).heap.size = w1.heap.size + 2 := by rw [World.size_alloc, zz15]
      generalize W11.alloc (.cells (madeCells #[.int .u8 0] hl) 5) = W15 at kp15 zn hbs hbn ⊢
      refine held_take (i := 14) (v := .slice (some ⟨(w1.heap.size + 1), 0, none⟩) hl hl) rfl (by kernel_rfl) (by kernel_rfl) (by kernel_rfl) (fun _ _ _ h => h) rfl (fun W1 hW1 => rfl) (kp15) ?_
      simp only [Act.put, List.setIfInBounds_toArray, List.set_cons_zero, List.set_cons_succ]
      have fz : W15.frozen? ⟨(w1.heap.size), 0, none⟩ = false := by simp [World.frozen?, hbn]
      have cz : W15.cell? ⟨(w1.heap.size), 0, none⟩ = some (.int .i64 0) := by simp [World.cell?, hbn]
      refine held_do (i := 15) (by kernel_rfl) rfl rfl (wp_stored (w' := W15.setCell ⟨(w1.heap.size), 0, none⟩ (.int .i64 ((bg : Int) + 1))) (by go_simp) ⟨kp15.setCell _ _ _ (.inr (by omega)), ?_⟩)
      simp only [Act.put]
      refine wpAnyH_done (by kernel_rfl) (NoPanic.normal ?_) _
      exact KEY (w1.heap.size + 1) (w1.heap.size) _ (by omega) (by omega) (by omega) (kp15.setCell (w1.heap.size) 0 _ (.inr (by omega))) ((Below.heap_setCell _ _ _ _ (show (w1.heap.size + 1) ≠ (w1.heap.size) by omega)).trans hbs) (by rw [heap_setCell_same _ _ _ _ _ _ hbn]; rfl)
end Go.Proofs.YtnhcfkiejldicaaGreat
