/- pack: the closure that fills stripes (lay's). -/
import Derived.Test.YtcfmonlgpccndaaDoorPkF0
namespace Go.Proofs.YtcfmonlgpccndaaDoor
open Go.RowKit Go.Shelf
set_option maxRecDepth 100000
set_option linter.unusedSimpArgs false
set_option linter.unusedVariables false

theorem exec_storeFls {ρ : Operand → Value} {o : Oper} {w : World} (x y : Operand) (ho : o.op = .store 23 x y) {b i n c : Nat} {a : Option Addr} {v : Value} (hx : ρ x = .pointer (some ⟨b, i, none⟩)) (hy : ρ y = .slice a n c) (hc : w.cell? ⟨b, i, none⟩ = some v) (hf : w.frozen? ⟨b, i, none⟩ = false) :
    (execOp ρ o).run Tryd.prog w = .ok .skip (w.setCell ⟨b, i, none⟩ (.slice a n c)) := by
  unfold execOp
  simp only [ho, hx, hy]
  go_simp
theorem exec_storeBs {ρ : Operand → Value} {o : Oper} {w : World} (x y : Operand) (ho : o.op = .store 31 x y) {b i n c : Nat} {a : Option Addr} {v : Value} (hx : ρ x = .pointer (some ⟨b, i, none⟩)) (hy : ρ y = .slice a n c) (hc : w.cell? ⟨b, i, none⟩ = some v) (hf : w.frozen? ⟨b, i, none⟩ = false) :
    (execOp ρ o).run Tryd.prog w = .ok .skip (w.setCell ⟨b, i, none⟩ (.slice a n c)) := by
  unfold execOp
  simp only [ho, hx, hy]
  go_simp
theorem exec_storeIn {ρ : Operand → Value} {o : Oper} {w : World} (x y : Operand) (ho : o.op = .store 3 x y) {b i : Nat} {z : Int} {v : Value} (hx : ρ x = .pointer (some ⟨b, i, none⟩)) (hy : ρ y = .int .i64 z) (hc : w.cell? ⟨b, i, none⟩ = some v) (hf : w.frozen? ⟨b, i, none⟩ = false) :
    (execOp ρ o).run Tryd.prog w = .ok .skip (w.setCell ⟨b, i, none⟩ (.int .i64 z)) := by
  unfold execOp
  simp only [ho, hx, hy]
  go_simp
theorem buildPtr9 (s : Spe) (a k : Int) (w : World) : (Instr.build 36 #[(0, .agg #[.int .i64 s.c, .int .i64 s.l, .int .i64 s.n]), (1, .int .i64 a), (2, .int .i64 k)]).run Tryd.prog w = .ok (ptV (ptrS s a k)) w := by kernel_rfl
theorem exec_buildPtr9 {ρ : Operand → Value} {o : Oper} {w : World} (x0 x1 x2 : Operand) (ho : o.op = .build 36 #[(0, x0), (1, x1), (2, x2)]) (s : Spe) (a k : Int) (h0 : ρ x0 = .agg #[.int .i64 s.c, .int .i64 s.l, .int .i64 s.n]) (h1 : ρ x1 = .int .i64 a) (h2 : ρ x2 = .int .i64 k) :
    (execOp ρ o).run Tryd.prog w = .ok (.value (ptV (ptrS s a k))) w := by
  simp only [execOp, ho, List.map_toArray, List.map_cons, List.map_nil, h0, h1, h2, Sem.run_bind, buildPtr9, Result.andThen_ok, Sem.run_pure]
theorem LaySt.later {w w' : World} {B : Nat} {M : List Nat} {qf qn qs : Nat} {f : Spe} {n : Int} {v : Value} {xs : List Fr} (h : LaySt w B M qf qn qs f n v xs) {S : List Nat} (k : Keeps S w w') (hS : ∀ b ∈ S, b ≠ qf ∧ b ≠ qn ∧ b ≠ qs ∧ b ∉ M) : LaySt w' B M qf qn qs f n v xs :=
  ⟨(k.block qf (lt_of_block h.bf) (fun hm => (hS _ hm).1 rfl)).trans h.bf, h.fs.keep k (fun b hb => (hS b hb).2.2.2), (k.block qs (lt_of_block h.bs) (fun hm => (hS _ hm).2.2.1 rfl)).trans h.bs, (k.block qn (lt_of_block h.bn) (fun hm => (hS _ hm).2.1 rfl)).trans h.bn, h.lf, h.ls, h.ln, h.ne1, h.ne2, h.ne3, h.hM, Nat.le_trans h.hB k.size⟩
theorem LaySt.cells {w : World} {B : Nat} {M : List Nat} {qf qn qs : Nat} {f : Spe} {n : Int} {v : Value} {xs : List Fr} (h : LaySt w B M qf qn qs f n v xs) :
    w.cell? ⟨qf, 0, none⟩ = some v ∧ w.cell? ⟨qn, 0, none⟩ = some (.int .i64 n) ∧ w.rangeAt qs 0 (nextS f xs.length).cells ∧ w.cell? ⟨qs, 2, none⟩ = some (.int .i64 (f.n + xs.length)) ∧ w.frozen? ⟨qf, 0, none⟩ = false ∧ w.frozen? ⟨qs, 2, none⟩ = false := by
  refine ⟨?_, ?_, range_cells h.bs, ?_, frozen_of_row w qf 0 _ _ h.bf, frozen_of_row w qs 2 _ _ h.bs⟩
  · simp [World.cell?, h.bf]
  · simp [World.cell?, h.bn]
  · simp [World.cell?, h.bs]
/-- A new stripe: the variable has it, the next one's number is one more. -/
theorem LaySt.push {w w2 : World} {B : Nat} {M M' : List Nat} {qf qn qs : Nat} {f : Spe} {n : Int} {v v' : Value} {xs : List Fr} (h : LaySt w B M qf qn qs f n v xs) (k : Keeps v.ownBlock.toList w w2) (h2 : FsIn w2 49 B M' v' (xs ++ [newFr (nextS f xs.length)])) (hM : ∀ b ∈ M', b ∈ M ∨ w.heap.size ≤ b) :
    LaySt ((w2.setCell ⟨qf, 0, none⟩ v').setCell ⟨qs, 2, none⟩ (.int .i64 (f.n + xs.length + 1))) B M' qf qn qs f n v' (xs ++ [newFr (nextS f xs.length)]) := by
  have hv : ∀ q, q < B → q ∉ v.ownBlock.toList := fun q hq hm => by
    have := (h.fs.lt q (by simpa using hm)).1
    omega
  have bf2 := (k.block qf (lt_of_block h.bf) (hv _ h.lf)).trans h.bf
  have bs2 := (k.block qs (lt_of_block h.bs) (hv _ h.ls)).trans h.bs
  have bn2 := (k.block qn (lt_of_block h.bn) (hv _ h.ln)).trans h.bn
  have hM' : ∀ b ∈ M', B ≤ b := fun b hb => by
    rcases hM b hb with hb | hb
    · exact h.hM b hb
    · exact Nat.le_trans h.hB hb
  have bf3 : (w2.setCell ⟨qf, 0, none⟩ v').heap[qf]? = some (.cells #[v'] 23 (0, 0)) := heap_setCell_same w2 qf 0 #[v] _ v' bf2
  have bs3 : (w2.setCell ⟨qf, 0, none⟩ v').heap[qs]? = _ := (heap_setCell_other w2 _ qs v' (fun e => h.ne1 e.symm)).trans bs2
  have bn3 : (w2.setCell ⟨qf, 0, none⟩ v').heap[qn]? = _ := (heap_setCell_other w2 _ qn v' (fun e => h.ne2 e.symm)).trans bn2
  have k3 : Keeps [qf, qs] w2 ((w2.setCell ⟨qf, 0, none⟩ v').setCell ⟨qs, 2, none⟩ (.int .i64 (f.n + xs.length + 1))) := ((Keeps.refl _ _).setCell (.inl (by simp)) _).setCell (.inl (by simp)) _
  refine ⟨(heap_setCell_other _ _ qf _ h.ne1).trans bf3, h2.keep k3 (fun b hb hm => ?_), ?_, (heap_setCell_other _ _ qn _ (fun e => h.ne3 e.symm)).trans bn3, h.lf, h.ls, h.ln, h.ne1, h.ne2, h.ne3, hM', Nat.le_trans (Nat.le_trans h.hB k.size) k3.size⟩
  · have := hM' b hm
    have := h.lf
    have := h.ls
    simp at hb
    rcases hb with rfl | rfl <;> omega
  · rw [heap_setCell_same _ qs 2 _ _ _ bs3]
    simp
    omega
/-- The last stripe's bytes have grown. -/
theorem LaySt.grow {w w3 : World} {B : Nat} {M M' : List Nat} {qf qn qs : Nat} {f : Spe} {n : Int} {v : Value} {xs ys : List Fr} (h : LaySt w B M qf qn qs f n v xs) (k : Keeps M w w3) {u : Value} (h3 : FsIn w3 49 B M' u ys) (hu : u = v) (hl : ys.length = xs.length) (hM : ∀ b ∈ M', b ∈ M ∨ w.heap.size ≤ b) :
    LaySt w3 B M' qf qn qs f n v ys := by
  subst hu
  have hv : ∀ q, q < B → q ∉ M := fun q hq hm => by
    have := h.hM q hm
    omega
  refine ⟨(k.block qf (lt_of_block h.bf) (hv _ h.lf)).trans h.bf, h3, by rw [hl]; exact (k.block qs (lt_of_block h.bs) (hv _ h.ls)).trans h.bs, (k.block qn (lt_of_block h.bn) (hv _ h.ln)).trans h.bn, h.lf, h.ls, h.ln, h.ne1, h.ne2, h.ne3, fun b hb => ?_, Nat.le_trans h.hB k.size⟩
  rcases hM b hb with hb | hb
  · exact h.hM b hb
  · exact Nat.le_trans h.hB hb
theorem FsIn.name {w : World} {T : TypeId} {B g n c : Nat} {M : List Nat} {xs : List Fr} (h : FsIn w T B M (.slice (some ⟨g, 0, none⟩) n c) xs) {i : Nat} (hi : i < xs.length) {s : Spe} (hs : xs[i].s = s) : w.rangeAt g (i * 4) s.cells := by
  obtain ⟨a, c', e⟩ := h.shape
  injection e with _ e2 _
  subst e2
  subst hs
  intro j u hu
  refine h.cells hi j u ?_
  rcases j with _ | _ | _ | j <;> simp [Spe.cells, Fr.cells] at hu ⊢ <;> exact hu
theorem newF_zero {m : Int} {fs : List Fl} {b : List Int} (h : fs.length = 0) : newF m fs b = true := by simp [newF, h]
theorem openF_new {f : Spe} {m : Int} {xs : List Fr} {b : List Int} (h : newF m (fls xs) b = true) : openF f m (fls xs) b = fls (xs ++ [newFr (nextS f xs.length)]) := by
  unfold openF
  rw [if_pos h, fls_append, fls_len]
  rfl
theorem openF_old {f : Spe} {m : Int} {xs : List Fr} {b : List Int} (h : newF m (fls xs) b = false) : openF f m (fls xs) b = fls xs := by
  unfold openF
  rw [if_neg (by rw [h]; simp)]
theorem putF_is {f : Spe} {m : Int} {xs ys : List Fr} {b : List Int} {r : Value} (h : openF f m (fls xs) b = fls ys) {l : Nat} (hl : ys.length = l + 1) : fls (ys.set l ⟨(ys[l]'(by omega)).s, r, (ys[l]'(by omega)).d ++ b⟩) = putF f m (fls xs) b := by
  have e := lastF_fls (xs := ys) (by omega)
  have e2 : ys.length - 1 = l := by omega
  unfold putF addF
  rw [h, e, fls_set, fls_len]
  simp only [e2]
  rfl
theorem ptrF_is {f : Spe} {m : Int} {xs ys : List Fr} {b : List Int} (h : openF f m (fls xs) b = fls ys) {l : Nat} (hl : ys.length = l + 1) : ptrF f m (fls xs) b = ptrS (ys[l]'(by omega)).s (ys[l]'(by omega)).d.length b.length := by
  have e := lastF_fls (xs := ys) (by omega)
  have e2 : ys.length - 1 = l := by omega
  unfold ptrF
  rw [h, e]
  simp only [e2]
  rfl
theorem there_of9 {w : World} {b : Nat} {c : Array Value} {T : TypeId} (hb : w.heap[b]? = some (.cells c T (0, 0))) (off n : Nat) (hn : off + n ≤ c.size) : w.there b off n := fun j hj => by
  refine ⟨?_, frozen_of_row w b _ c T hb⟩
  rw [cell_of_row w b (off + j) c T (0, 0) hb]
  simp
  omega
theorem set5_range {w : World} {b : Nat} {y0 y1 y2 y3 y4 : Value} {T : TypeId} (hb : w.heap[b]? = some (.cells #[y0, y1, y2, y3, y4] T (0, 0))) (x : Pt) : (w.setCells b 0 x.cells).heap[b]? = some (.cells x.cells.toArray T (0, 0)) ∧ Keeps [b] w (w.setCells b 0 x.cells) := by
  have e : w.setCells b 0 x.cells = ((((w.setCell ⟨b, 0, none⟩ (.int .i64 x.c)).setCell ⟨b, 1, none⟩ (.int .i64 x.l)).setCell ⟨b, 2, none⟩ (.int .i64 x.n)).setCell ⟨b, 3, none⟩ (.int .i64 x.a)).setCell ⟨b, 4, none⟩ (.int .i64 x.k) := rfl
  rw [e]
  refine ⟨?_, (((((Keeps.refl _ _).setCell (.inl (by simp)) _).setCell (.inl (by simp)) _).setCell (.inl (by simp)) _).setCell (.inl (by simp)) _).setCell (.inl (by simp)) _⟩
  have h0 := heap_setCell_same w b 0 _ _ (.int .i64 x.c) hb
  have h1 := heap_setCell_same _ b 1 _ _ (.int .i64 x.l) h0
  have h2 := heap_setCell_same _ b 2 _ _ (.int .i64 x.n) h1
  have h3 := heap_setCell_same _ b 3 _ _ (.int .i64 x.a) h2
  have h4 := heap_setCell_same _ b 4 _ _ (.int .i64 x.k) h3
  simpa [Pt.cells] using h4
theorem exec_storePt9 {ρ : Operand → Value} {o : Oper} {w : World} (x y : Operand) (ho : o.op = .store 36 x y) (b : Nat) (p : Pt) (hx : ρ x = .pointer (some ⟨b, 0, none⟩)) (hy : ρ y = ptV p) (hb : w.heap[b]? = some (.cells pZ.cells.toArray 36 (0, 0))) :
    (execOp ρ o).run Tryd.prog w = .ok .skip (w.setCells b 0 p.cells) :=
  exec_storeMid 36 x y ho b 0 p.cells.toArray hx hy (there_of9 hb 0 5 (by decide)) iPtr2 (cells_one p)

set_option maxHeartbeats 12800000 in
theorem fillA_any (w : World) (B : Nat) (M : List Nat) (qf qn qs : Nat) (f : Spe) (n : Int) (v : Value) (xs : List Fr) (bv : Value) (b : List Int) (h : LaySt w B M qf qn qs f n v xs) (hb : RowAt w bv b) (hoff : Off (qf :: qs :: M) bv b)
    (h1 : b.length ≤ 64) (hx : xs.length ≤ 64) (hd : ∀ x ∈ xs, x.d.length ≤ 6000) (n3 : 3 ≤ n) (n16 : n ≤ 16) (f0 : 0 ≤ f.n) (f1 : f.n ≤ 1073741824) (hc : xs.length = 0) :
    Calls Tryd.prog 41 #[bv, .pointer (some ⟨qf, 0, none⟩), .pointer (some ⟨qn, 0, none⟩), .pointer (some ⟨qs, 0, none⟩)] w (FillP9 w B M qf qn qs f n xs b) := by
  obtain ⟨ab, cb, rfl, _⟩ := id hb
  obtain ⟨av, cv, rfl⟩ := h.fs.shape
  have k0 : ∀ j, Keeps [] w ((w.alloc (.cells pZ.cells.toArray 36)).drewN j) := fun j => ((Keeps.refl [] w).alloc _).drewN j
  have K0 := hid k0
  have HLj := hid (fun j => h.later (k0 j) (by simp))
  have HBj := hid (fun j => hb.keep (k0 j) (by intro _ _ _ _ _; simp))
  have HRj := hid (show ∀ j, ((w.alloc (.cells pZ.cells.toArray 36)).drewN j).heap[w.heap.size]? = some (.cells pZ.cells.toArray 36 (0, 0)) from fun j => heap_alloc_new w _)
  have HD := hid hd
  have HBS := hid h.hB
  have HLOW := hid h.fs.low
  have HOFF := hid hoff
  have q1 : ∀ j, ((w.alloc (.cells pZ.cells.toArray 36)).drewN j).cell? ⟨qf, 0, none⟩ = some (.slice av xs.length cv) := fun j => (HLj.out j).cells.1
  have q2 : ∀ j, ((w.alloc (.cells pZ.cells.toArray 36)).drewN j).cell? ⟨qn, 0, none⟩ = some (.int .i64 n) := fun j => (HLj.out j).cells.2.1
  have q10 := q1 0
  have z0 : (w.alloc (.cells pZ.cells.toArray 36)).drewN 0 = w.alloc (.cells pZ.cells.toArray 36) := rfl
  rw [z0] at q10
  have MO := hid (fun W => pMost_any W n (by omega))
  obtain ⟨mo, hmo⟩ : ∃ mo, mo = mostI n := ⟨_, rfl⟩
  have HMO := hid hmo
  rw [← hmo] at MO
  have m0 : 0 ≤ mo := by rw [hmo]; unfold mostI; omega
  have m1 : mo ≤ 6000 := by rw [hmo]; unfold mostI; omega
  clear hmo
  clear k0 h hb hd hoff z0
  have HNW := hid (newF_zero (m := mo) (b := b) (show (fls xs).length = 0 by rw [fls_len]; exact hc))
  obtain ⟨li, hli⟩ : ∃ li : Int, (xs.length : Int) - 1 = li := ⟨_, rfl⟩
  have li0 : li + 1 = (xs.length : Int) := by omega
  have li1 : -1 ≤ li := by omega
  have dl : decide (li < 0) = true := by simp; omega
  clear hc
  go_enter Tryd.func41, Tryd.ntmps41
  go_wp2_with (first | (refine wpList_is rfl _ _ (exec_alloc 36 pZ.cells.toArray iPtr2 rfl) ?_) | fail)
  go_quiet (fail)
  have K1 := hid (K0.out nq)
  have HL1 := hid (HLj.out nq)
  have HB1 := hid (HBj.out nq)
  have HR1 := hid (HRj.out nq)
  clear K0 HLj HBj HRj q1 q2 q10 dl
  generalize ((w.alloc (.cells pZ.cells.toArray 36)).drewN nq) = w1 at K1 HL1 HB1 HR1 ⊢
  obtain ⟨c1, c2, c3, c4, c5, c6⟩ := HL1.out.cells
  have HC3 := hid c3
  obtain ⟨a2, x2, w2, hrun2, ⟨M4, f2, m2⟩, k2⟩ := append_full9 HL1.out.fs (nextS f xs.length) (by omega) HL1.out.hB
  have hv : ∀ q, q < B → q ∉ (Value.slice av xs.length cv).ownBlock.toList := fun q hq hm => by
    have := (HL1.out.fs.lt q (by simpa using hm)).1
    omega
  have kb2 : ∀ q, q < B → w2.heap[q]? = w1.heap[q]? := fun q hq => k2.block q (Nat.lt_of_lt_of_le hq HL1.out.hB) (hv q hq)
  have bf2 := (kb2 qf HL1.out.lf).trans HL1.out.bf
  have bs2 := (kb2 qs HL1.out.ls).trans HL1.out.bs
  have d1 : w2.cell? ⟨qf, 0, none⟩ = some (.slice av xs.length cv) := by simp [World.cell?, bf2]
  have d2 : w2.frozen? ⟨qf, 0, none⟩ = false := frozen_of_row w2 qf 0 _ _ bf2
  have bs3 : (w2.setCell ⟨qf, 0, none⟩ (.slice a2 (xs.length + 1) x2)).heap[qs]? = _ := (heap_setCell_other w2 _ qs _ (fun e => HL1.out.ne1 e.symm)).trans bs2
  have D1 := hid d1
  have D2 := hid d2
  obtain ⟨w3, hw3⟩ : ∃ x, x = w2.setCell ⟨qf, 0, none⟩ (.slice a2 (xs.length + 1) x2) := ⟨_, rfl⟩
  rw [← hw3] at bs3
  have e1 : w3.cell? ⟨qs, 2, none⟩ = some (.int .i64 (f.n + xs.length)) := by simp [World.cell?, bs3]
  have E1 := hid e1
  have E2 := hid (show w3.frozen? ⟨qs, 2, none⟩ = false from frozen_of_row w3 qs 2 _ _ bs3)
  have HL3 := HL1.out.push k2 f2 m2
  rw [← hw3] at HL3
  obtain ⟨w4, hw4⟩ : ∃ x, x = w3.setCell ⟨qs, 2, none⟩ (.int .i64 (f.n + xs.length + 1)) := ⟨_, rfl⟩
  rw [← hw4] at HL3
  have k4 : Keeps (qf :: qs :: M) w1 w4 := by
    have ka : Keeps (qf :: qs :: M) w1 w2 := k2.mono (fun k _ hk => by simp; right; right; exact HL1.out.fs.memv k (by simpa using hk))
    rw [hw4, hw3]
    exact (ka.setCell (.inl (by simp)) _).setCell (.inl (by simp)) _
  have hr4 : w4.heap[w.heap.size]? = some (.cells pZ.cells.toArray 36 (0, 0)) := (k4.block w.heap.size (lt_of_block HR1.out) (fun hm => by
    have := HL1.out.lf
    have := HL1.out.ls
    have := HBS.out
    simp at hm
    rcases hm with hm | hm | hm
    · omega
    · omega
    · have := HLOW.out _ hm; omega)).trans HR1.out
  have HM4 := hid (show ∀ k ∈ M4, k ∈ M ∨ w.heap.size < k from fun k hk => by
    rcases m2 k hk with h | h
    · exact .inl h
    · have := lt_of_block HR1.out; right; omega)
  have HB4 := hid (HB1.out.keep k4 (fun ad m c e hne hm => HOFF.out ad m c e hne hm))
  have HW3 := hid hw3
  have HW4 := hid hw4
  have HR4 := hid hr4
  have K4 := hid (K1.out.mono (S' := qf :: qs :: M) (by simp) |>.trans k4)
  have HOP := hid (openF_new (f := f) HNW.out)
  obtain ⟨ys, hys⟩ : ∃ ys, ys = xs ++ [newFr (nextS f xs.length)] := ⟨_, rfl⟩
  have hyl : ys.length = xs.length + 1 := by rw [hys]; simp
  have hyd : ∀ x ∈ ys, x.d.length ≤ 6000 := fun x hx' => by
    rw [hys] at hx'
    rcases List.mem_append.1 hx' with h | h
    · exact HD.out x h
    · simp [newFr] at h; rw [h]; simp
  rw [← hys] at HL3 HOP
  clear hys
  have HL4 := hid HL3
  have f4 := HL3.fs
  obtain ⟨g4, c4, hg4, _, _⟩ := f4.form (by omega)
  injection hg4 with i1 i2 i3
  clear i2
  subst i1; subst i3
  have RUN2 := hid hrun2
  have t1 : w4.cell? ⟨qf, 0, none⟩ = some (.slice (some ⟨g4, 0, none⟩) (xs.length + 1) x2) := HL3.cells.1
  clear hrun2 f2 m2 k2 hv kb2 bf2 bs2 d1 d2 bs3 hw3 hw4 HL3 k4 hr4 c2 c3 c4 c5 c6
  rw [← hyl] at f4
  have hly : xs.length < ys.length := by have := hyl; omega
  obtain ⟨ar4, cr4, har4⟩ := f4.rshape hly
  have t2 : w4.cell? ⟨g4, xs.length * 4 + 3, none⟩ = some (.slice ar4 (ys[xs.length]).d.length cr4) := by rw [← har4]; exact f4.cells hly 3 _ rfl
  have hd4 : (ys[xs.length]).d.length ≤ 6000 := hyd _ (List.getElem_mem hly)
  obtain ⟨ld4, hld4⟩ : ∃ z, z = (ys[xs.length]).d.length := ⟨_, rfl⟩
  obtain ⟨s4, hs4⟩ : ∃ z, z = (ys[xs.length]).s := ⟨_, rfl⟩
  obtain ⟨a5, c5, w5, hrun5, ⟨M5, f5, m5⟩, k5, d5, z5⟩ := append_row9 f4 hly ab cb HB4.out (by omega) HL4.out.hB
  rw [har4, ← hld4] at hrun5 d5
  rw [← hld4] at t2 hd4
  generalize hnn : (ys[xs.length].d ++ b).length = nn at hrun5 f5
  clear hnn
  have RUN5 := hid hrun5
  have D5 := hid d5
  have Z5 := hid z5
  obtain ⟨w6, hw6⟩ : ∃ x, x = w5.setCell ⟨g4, xs.length * 4 + 3, none⟩ (.slice a5 nn c5) := ⟨_, rfl⟩
  rw [← hw6] at f5
  have k6 : Keeps M4 w4 w6 := by
    rw [hw6]
    exact k5.setCell (.inl (f4.memv g4 rfl)) _
  have hl6 := HL4.out.grow k6 f5 (by first | rfl | rw [hyl]) (by first | rw [List.length_set] | simp) m5
  have R6 := hid (show w6.rangeAt g4 (xs.length * 4) s4.cells from f5.name (i := xs.length) (by rw [List.length_set]; exact hly) (by rw [List.getElem_set_self, hs4]))
  have HW6 := hid hw6
  have hr6 : w6.heap[w.heap.size]? = some (.cells pZ.cells.toArray 36 (0, 0)) := (k6.block w.heap.size (lt_of_block HR4.out) (fun hm => by
    rcases HM4.out _ hm with hm | hm
    · have := HLOW.out _ hm; omega
    · omega)).trans HR4.out
  have HR6 := hid hr6
  obtain ⟨p7, hp7⟩ : ∃ p, p = ptrS s4 (ld4 : Int) (b.length : Int) := ⟨_, rfl⟩
  obtain ⟨b7, k7⟩ := set5_range hr6 p7
  obtain ⟨w7, hw7⟩ : ∃ x, x = w6.setCells w.heap.size 0 p7.cells := ⟨_, rfl⟩
  rw [← hw7] at b7 k7
  have HW7 := hid hw7
  have B7 := hid b7
  have HP7 := hid (show p7 = ptrF f mo (fls xs) b by rw [hp7, hs4, hld4]; exact (ptrF_is HOP.out hyl).symm)
  have HPE := hid hp7
  have hM5 : ∀ k ∈ M5, k ∈ M ∨ w.heap.size < k := fun k hk => by
    rcases m5 k hk with h | h
    · exact HM4.out k h
    · have := lt_of_block HR4.out; right; omega
  have HL7 := hid (hl6.later k7 (fun k hk => by
    have := HBS.out
    have := hl6.lf
    have := hl6.ls
    have := hl6.ln
    simp at hk
    subst hk
    refine ⟨by omega, by omega, by omega, fun hm => ?_⟩
    rcases hM5 _ hm with h | h
    · have := HLOW.out _ h; omega
    · omega))
  have K7 := hid ((K4.out.trans' k6 (fun i hi hm => by
    rcases HM4.out i hm with h | h
    · simp; right; right; exact h
    · omega)).trans' k7 (fun i hi hm => by simp at hm; omega))
  have HM5 := hid (show ∀ k ∈ M5, k ∈ M ∨ w.heap.size ≤ k from fun k hk => (hM5 k hk).imp id Nat.le_of_lt)
  have HPU := hid (putF_is (r := .slice a5 nn c5) HOP.out hyl)
  clear hld4 hs4 har4 hrun5 f4 f5 m5 k5 d5 z5 hw6 k6 hl6 hr6 b7 k7 hw7 hM5 hyd hp7
  go_wp2_with (first | (refine wpList_isW rfl _ _ (exec_load _ _ _ _ rfl rfl (loadSpe _ qs 0 (nextS f xs.length) HC3.out)) ?_) | (refine wpList_is rfl _ _ (exec_buildFull _ rfl (nextS f xs.length) rfl) ?_) | (refine wpList_is rfl _ _ (exec_oneFull _ (nextS f xs.length) rfl rfl) ?_) | (refine wpList_is rfl _ _ (exec_appendT 23 _ _ rfl rfl rfl RUN2.out) ?_) | (refine wpList_noval rfl _ (exec_storeFls _ _ rfl rfl rfl D1.out D2.out) ?_; rw [← HW3.out]) | (refine wpList_noval rfl _ (exec_storeIn _ _ rfl rfl rfl E1.out E2.out) ?_; rw [← HW4.out]) | (refine wpList_is rfl _ _ (exec_appendT 31 _ _ rfl rfl rfl RUN5.out) ?_) | (refine wpList_noval rfl _ (exec_storeBs _ _ rfl rfl rfl D5.out Z5.out) ?_; rw [← HW6.out]) | (refine wpList_isW rfl _ _ (exec_load _ _ _ _ rfl rfl (loadSpe _ g4 (xs.length * 4) _ R6.out)) ?_) | (refine wpList_is rfl _ _ (exec_buildPtr9 _ _ _ rfl _ _ _ rfl rfl rfl) ?_; rw [← HPE.out]) | (refine wpList_noval rfl _ (exec_storePt9 _ _ rfl w.heap.size p7 rfl rfl HR6.out) ?_; rw [← HW7.out]) | fail)
  refine bodyPost_ret (pt_ret (x := p7) rfl rfl (range_cells B7.out)) rfl ?_
  exact ⟨_, M5, _, by rw [HP7.out, HMO.out], HL7.out, by rw [← HMO.out]; exact HPU.out, K7.out, HM5.out⟩

set_option maxHeartbeats 12800000 in
theorem fillB_any (w : World) (B : Nat) (M : List Nat) (qf qn qs : Nat) (f : Spe) (n : Int) (v : Value) (xs : List Fr) (bv : Value) (b : List Int) (h : LaySt w B M qf qn qs f n v xs) (hb : RowAt w bv b) (hoff : Off (qf :: qs :: M) bv b)
    (h1 : b.length ≤ 64) (hx : xs.length ≤ 64) (hd : ∀ x ∈ xs, x.d.length ≤ 6000) (n3 : 3 ≤ n) (n16 : n ≤ 16) (f0 : 0 ≤ f.n) (f1 : f.n ≤ 1073741824) (hp : 0 < xs.length) (hc : newF (mostI n) (fls xs) b = true) :
    Calls Tryd.prog 41 #[bv, .pointer (some ⟨qf, 0, none⟩), .pointer (some ⟨qn, 0, none⟩), .pointer (some ⟨qs, 0, none⟩)] w (FillP9 w B M qf qn qs f n xs b) := by
  obtain ⟨ab, cb, rfl, _⟩ := id hb
  obtain ⟨av, cv, rfl⟩ := h.fs.shape
  have k0 : ∀ j, Keeps [] w ((w.alloc (.cells pZ.cells.toArray 36)).drewN j) := fun j => ((Keeps.refl [] w).alloc _).drewN j
  have K0 := hid k0
  have HLj := hid (fun j => h.later (k0 j) (by simp))
  have HBj := hid (fun j => hb.keep (k0 j) (by intro _ _ _ _ _; simp))
  have HRj := hid (show ∀ j, ((w.alloc (.cells pZ.cells.toArray 36)).drewN j).heap[w.heap.size]? = some (.cells pZ.cells.toArray 36 (0, 0)) from fun j => heap_alloc_new w _)
  have HD := hid hd
  have HBS := hid h.hB
  have HLOW := hid h.fs.low
  have HOFF := hid hoff
  have q1 : ∀ j, ((w.alloc (.cells pZ.cells.toArray 36)).drewN j).cell? ⟨qf, 0, none⟩ = some (.slice av xs.length cv) := fun j => (HLj.out j).cells.1
  have q2 : ∀ j, ((w.alloc (.cells pZ.cells.toArray 36)).drewN j).cell? ⟨qn, 0, none⟩ = some (.int .i64 n) := fun j => (HLj.out j).cells.2.1
  have q10 := q1 0
  have z0 : (w.alloc (.cells pZ.cells.toArray 36)).drewN 0 = w.alloc (.cells pZ.cells.toArray 36) := rfl
  rw [z0] at q10
  have MO := hid (fun W => pMost_any W n (by omega))
  obtain ⟨mo, hmo⟩ : ∃ mo, mo = mostI n := ⟨_, rfl⟩
  have HMO := hid hmo
  rw [← hmo] at MO
  have m0 : 0 ≤ mo := by rw [hmo]; unfold mostI; omega
  have m1 : mo ≤ 6000 := by rw [hmo]; unfold mostI; omega
  clear hmo
  clear k0 h hb hd hoff z0
  obtain ⟨l, hl⟩ : ∃ l, xs.length = l + 1 := ⟨xs.length - 1, by omega⟩
  have hli : (xs.length : Int) - 1 = (l : Int) := by omega
  have dl : decide ((l : Int) < 0) = false := by simp
  have hlx : l < xs.length := by omega
  obtain ⟨ar, cr, har⟩ := (HLj.out 0).fs.rshape hlx
  obtain ⟨gv, gc, hgv, _, _⟩ := (HLj.out 0).fs.form (by omega)
  injection hgv with g1 _ g3
  subst g1; subst g3
  have q3 : ∀ j, ((w.alloc (.cells pZ.cells.toArray 36)).drewN j).cell? ⟨gv, l * 4 + 3, none⟩ = some (.slice ar (xs[l]).d.length cr) := fun j => by rw [← har]; exact (HLj.out j).fs.cells hlx 3 _ rfl
  have hld : (xs[l]).d.length ≤ 6000 := HD.out _ (List.getElem_mem hlx)
  have HN0 := hid (show newF mo (fls xs) b = decide (mo < ((xs[l]).d.length + b.length : Int)) by
    unfold newF
    rw [lastF_fls (by omega)]
    have e2 : xs.length - 1 = l := by omega
    simp only [e2, fls_len]
    rw [show (xs.length == 0) = false by rw [beq_eq_false_iff_ne]; omega]
    rfl)
  obtain ⟨ld, hldd⟩ : ∃ ld, ld = (xs[l]).d.length := ⟨_, rfl⟩
  rw [← hldd] at q3 hld HN0
  have HLX := hid (And.intro hl hlx)
  clear har hldd hl
  have li0 : (l : Int) + 1 = (xs.length : Int) := by omega
  have dm : decide (mo < (ld : Int) + (b.length : Int)) = true := by rw [← HN0.out, HMO.out]; exact hc
  have HNW := hid (show newF mo (fls xs) b = true by rw [HMO.out]; exact hc)
  clear hc
  go_enter Tryd.func41, Tryd.ntmps41
  go_wp2_with (first | (refine wpList_is rfl _ _ (exec_alloc 36 pZ.cells.toArray iPtr2 rfl) ?_) | fail)
  go_quiet ((go_at_call 42; exact Calls.quiet_of_same ((MO.out _).mono fun e w' ⟨h, k⟩ => ⟨h, k.symm⟩)))
  have K1 := hid (K0.out nq)
  have HL1 := hid (HLj.out nq)
  have HB1 := hid (HBj.out nq)
  have HR1 := hid (HRj.out nq)
  clear K0 HLj HBj HRj q1 q2 q10 q3 dl dm
  generalize ((w.alloc (.cells pZ.cells.toArray 36)).drewN nq) = w1 at K1 HL1 HB1 HR1 ⊢
  obtain ⟨c1, c2, c3, c4, c5, c6⟩ := HL1.out.cells
  have HC3 := hid c3
  obtain ⟨a2, x2, w2, hrun2, ⟨M4, f2, m2⟩, k2⟩ := append_full9 HL1.out.fs (nextS f xs.length) (by omega) HL1.out.hB
  have hv : ∀ q, q < B → q ∉ (Value.slice (some ⟨gv, 0, none⟩) xs.length cv).ownBlock.toList := fun q hq hm => by
    have := (HL1.out.fs.lt q (by simpa using hm)).1
    omega
  have kb2 : ∀ q, q < B → w2.heap[q]? = w1.heap[q]? := fun q hq => k2.block q (Nat.lt_of_lt_of_le hq HL1.out.hB) (hv q hq)
  have bf2 := (kb2 qf HL1.out.lf).trans HL1.out.bf
  have bs2 := (kb2 qs HL1.out.ls).trans HL1.out.bs
  have d1 : w2.cell? ⟨qf, 0, none⟩ = some (.slice (some ⟨gv, 0, none⟩) xs.length cv) := by simp [World.cell?, bf2]
  have d2 : w2.frozen? ⟨qf, 0, none⟩ = false := frozen_of_row w2 qf 0 _ _ bf2
  have bs3 : (w2.setCell ⟨qf, 0, none⟩ (.slice a2 (xs.length + 1) x2)).heap[qs]? = _ := (heap_setCell_other w2 _ qs _ (fun e => HL1.out.ne1 e.symm)).trans bs2
  have D1 := hid d1
  have D2 := hid d2
  obtain ⟨w3, hw3⟩ : ∃ x, x = w2.setCell ⟨qf, 0, none⟩ (.slice a2 (xs.length + 1) x2) := ⟨_, rfl⟩
  rw [← hw3] at bs3
  have e1 : w3.cell? ⟨qs, 2, none⟩ = some (.int .i64 (f.n + xs.length)) := by simp [World.cell?, bs3]
  have E1 := hid e1
  have E2 := hid (show w3.frozen? ⟨qs, 2, none⟩ = false from frozen_of_row w3 qs 2 _ _ bs3)
  have HL3 := HL1.out.push k2 f2 m2
  rw [← hw3] at HL3
  obtain ⟨w4, hw4⟩ : ∃ x, x = w3.setCell ⟨qs, 2, none⟩ (.int .i64 (f.n + xs.length + 1)) := ⟨_, rfl⟩
  rw [← hw4] at HL3
  have k4 : Keeps (qf :: qs :: M) w1 w4 := by
    have ka : Keeps (qf :: qs :: M) w1 w2 := k2.mono (fun k _ hk => by simp; right; right; exact HL1.out.fs.memv k (by simpa using hk))
    rw [hw4, hw3]
    exact (ka.setCell (.inl (by simp)) _).setCell (.inl (by simp)) _
  have hr4 : w4.heap[w.heap.size]? = some (.cells pZ.cells.toArray 36 (0, 0)) := (k4.block w.heap.size (lt_of_block HR1.out) (fun hm => by
    have := HL1.out.lf
    have := HL1.out.ls
    have := HBS.out
    simp at hm
    rcases hm with hm | hm | hm
    · omega
    · omega
    · have := HLOW.out _ hm; omega)).trans HR1.out
  have HM4 := hid (show ∀ k ∈ M4, k ∈ M ∨ w.heap.size < k from fun k hk => by
    rcases m2 k hk with h | h
    · exact .inl h
    · have := lt_of_block HR1.out; right; omega)
  have HB4 := hid (HB1.out.keep k4 (fun ad m c e hne hm => HOFF.out ad m c e hne hm))
  have HW3 := hid hw3
  have HW4 := hid hw4
  have HR4 := hid hr4
  have K4 := hid (K1.out.mono (S' := qf :: qs :: M) (by simp) |>.trans k4)
  have HOP := hid (openF_new (f := f) HNW.out)
  obtain ⟨ys, hys⟩ : ∃ ys, ys = xs ++ [newFr (nextS f xs.length)] := ⟨_, rfl⟩
  have hyl : ys.length = xs.length + 1 := by rw [hys]; simp
  have hyd : ∀ x ∈ ys, x.d.length ≤ 6000 := fun x hx' => by
    rw [hys] at hx'
    rcases List.mem_append.1 hx' with h | h
    · exact HD.out x h
    · simp [newFr] at h; rw [h]; simp
  rw [← hys] at HL3 HOP
  clear hys
  have HL4 := hid HL3
  have f4 := HL3.fs
  obtain ⟨g4, c4, hg4, _, _⟩ := f4.form (by omega)
  injection hg4 with i1 i2 i3
  clear i2
  subst i1; subst i3
  have RUN2 := hid hrun2
  have t1 : w4.cell? ⟨qf, 0, none⟩ = some (.slice (some ⟨g4, 0, none⟩) (xs.length + 1) x2) := HL3.cells.1
  clear hrun2 f2 m2 k2 hv kb2 bf2 bs2 d1 d2 bs3 hw3 hw4 HL3 k4 hr4 c2 c3 c4 c5 c6
  rw [← hyl] at f4
  have hly : xs.length < ys.length := by have := hyl; omega
  obtain ⟨ar4, cr4, har4⟩ := f4.rshape hly
  have t2 : w4.cell? ⟨g4, xs.length * 4 + 3, none⟩ = some (.slice ar4 (ys[xs.length]).d.length cr4) := by rw [← har4]; exact f4.cells hly 3 _ rfl
  have hd4 : (ys[xs.length]).d.length ≤ 6000 := hyd _ (List.getElem_mem hly)
  obtain ⟨ld4, hld4⟩ : ∃ z, z = (ys[xs.length]).d.length := ⟨_, rfl⟩
  obtain ⟨s4, hs4⟩ : ∃ z, z = (ys[xs.length]).s := ⟨_, rfl⟩
  obtain ⟨a5, c5, w5, hrun5, ⟨M5, f5, m5⟩, k5, d5, z5⟩ := append_row9 f4 hly ab cb HB4.out (by omega) HL4.out.hB
  rw [har4, ← hld4] at hrun5 d5
  rw [← hld4] at t2 hd4
  generalize hnn : (ys[xs.length].d ++ b).length = nn at hrun5 f5
  clear hnn
  have RUN5 := hid hrun5
  have D5 := hid d5
  have Z5 := hid z5
  obtain ⟨w6, hw6⟩ : ∃ x, x = w5.setCell ⟨g4, xs.length * 4 + 3, none⟩ (.slice a5 nn c5) := ⟨_, rfl⟩
  rw [← hw6] at f5
  have k6 : Keeps M4 w4 w6 := by
    rw [hw6]
    exact k5.setCell (.inl (f4.memv g4 rfl)) _
  have hl6 := HL4.out.grow k6 f5 (by first | rfl | rw [hyl]) (by first | rw [List.length_set] | simp) m5
  have R6 := hid (show w6.rangeAt g4 (xs.length * 4) s4.cells from f5.name (i := xs.length) (by rw [List.length_set]; exact hly) (by rw [List.getElem_set_self, hs4]))
  have HW6 := hid hw6
  have hr6 : w6.heap[w.heap.size]? = some (.cells pZ.cells.toArray 36 (0, 0)) := (k6.block w.heap.size (lt_of_block HR4.out) (fun hm => by
    rcases HM4.out _ hm with hm | hm
    · have := HLOW.out _ hm; omega
    · omega)).trans HR4.out
  have HR6 := hid hr6
  obtain ⟨p7, hp7⟩ : ∃ p, p = ptrS s4 (ld4 : Int) (b.length : Int) := ⟨_, rfl⟩
  obtain ⟨b7, k7⟩ := set5_range hr6 p7
  obtain ⟨w7, hw7⟩ : ∃ x, x = w6.setCells w.heap.size 0 p7.cells := ⟨_, rfl⟩
  rw [← hw7] at b7 k7
  have HW7 := hid hw7
  have B7 := hid b7
  have HP7 := hid (show p7 = ptrF f mo (fls xs) b by rw [hp7, hs4, hld4]; exact (ptrF_is HOP.out hyl).symm)
  have HPE := hid hp7
  have hM5 : ∀ k ∈ M5, k ∈ M ∨ w.heap.size < k := fun k hk => by
    rcases m5 k hk with h | h
    · exact HM4.out k h
    · have := lt_of_block HR4.out; right; omega
  have HL7 := hid (hl6.later k7 (fun k hk => by
    have := HBS.out
    have := hl6.lf
    have := hl6.ls
    have := hl6.ln
    simp at hk
    subst hk
    refine ⟨by omega, by omega, by omega, fun hm => ?_⟩
    rcases hM5 _ hm with h | h
    · have := HLOW.out _ h; omega
    · omega))
  have K7 := hid ((K4.out.trans' k6 (fun i hi hm => by
    rcases HM4.out i hm with h | h
    · simp; right; right; exact h
    · omega)).trans' k7 (fun i hi hm => by simp at hm; omega))
  have HM5 := hid (show ∀ k ∈ M5, k ∈ M ∨ w.heap.size ≤ k from fun k hk => (hM5 k hk).imp id Nat.le_of_lt)
  have HPU := hid (putF_is (r := .slice a5 nn c5) HOP.out hyl)
  clear hld4 hs4 har4 hrun5 f4 f5 m5 k5 d5 z5 hw6 k6 hl6 hr6 b7 k7 hw7 hM5 hyd hp7
  go_wp2_with (first | (refine wpList_isW rfl _ _ (exec_load _ _ _ _ rfl rfl (loadSpe _ qs 0 (nextS f xs.length) HC3.out)) ?_) | (refine wpList_is rfl _ _ (exec_buildFull _ rfl (nextS f xs.length) rfl) ?_) | (refine wpList_is rfl _ _ (exec_oneFull _ (nextS f xs.length) rfl rfl) ?_) | (refine wpList_is rfl _ _ (exec_appendT 23 _ _ rfl rfl rfl RUN2.out) ?_) | (refine wpList_noval rfl _ (exec_storeFls _ _ rfl rfl rfl D1.out D2.out) ?_; rw [← HW3.out]) | (refine wpList_noval rfl _ (exec_storeIn _ _ rfl rfl rfl E1.out E2.out) ?_; rw [← HW4.out]) | (refine wpList_is rfl _ _ (exec_appendT 31 _ _ rfl rfl rfl RUN5.out) ?_) | (refine wpList_noval rfl _ (exec_storeBs _ _ rfl rfl rfl D5.out Z5.out) ?_; rw [← HW6.out]) | (refine wpList_isW rfl _ _ (exec_load _ _ _ _ rfl rfl (loadSpe _ g4 (xs.length * 4) _ R6.out)) ?_) | (refine wpList_is rfl _ _ (exec_buildPtr9 _ _ _ rfl _ _ _ rfl rfl rfl) ?_; rw [← HPE.out]) | (refine wpList_noval rfl _ (exec_storePt9 _ _ rfl w.heap.size p7 rfl rfl HR6.out) ?_; rw [← HW7.out]) | fail)
  refine bodyPost_ret (pt_ret (x := p7) rfl rfl (range_cells B7.out)) rfl ?_
  exact ⟨_, M5, _, by rw [HP7.out, HMO.out], HL7.out, by rw [← HMO.out]; exact HPU.out, K7.out, HM5.out⟩

set_option maxHeartbeats 12800000 in
theorem fillC_any (w : World) (B : Nat) (M : List Nat) (qf qn qs : Nat) (f : Spe) (n : Int) (v : Value) (xs : List Fr) (bv : Value) (b : List Int) (h : LaySt w B M qf qn qs f n v xs) (hb : RowAt w bv b) (hoff : Off (qf :: qs :: M) bv b)
    (h1 : b.length ≤ 64) (hx : xs.length ≤ 64) (hd : ∀ x ∈ xs, x.d.length ≤ 6000) (n3 : 3 ≤ n) (n16 : n ≤ 16) (f0 : 0 ≤ f.n) (f1 : f.n ≤ 1073741824) (hp : 0 < xs.length) (hc : newF (mostI n) (fls xs) b = false) :
    Calls Tryd.prog 41 #[bv, .pointer (some ⟨qf, 0, none⟩), .pointer (some ⟨qn, 0, none⟩), .pointer (some ⟨qs, 0, none⟩)] w (FillP9 w B M qf qn qs f n xs b) := by
  obtain ⟨ab, cb, rfl, _⟩ := id hb
  obtain ⟨av, cv, rfl⟩ := h.fs.shape
  have k0 : ∀ j, Keeps [] w ((w.alloc (.cells pZ.cells.toArray 36)).drewN j) := fun j => ((Keeps.refl [] w).alloc _).drewN j
  have K0 := hid k0
  have HLj := hid (fun j => h.later (k0 j) (by simp))
  have HBj := hid (fun j => hb.keep (k0 j) (by intro _ _ _ _ _; simp))
  have HRj := hid (show ∀ j, ((w.alloc (.cells pZ.cells.toArray 36)).drewN j).heap[w.heap.size]? = some (.cells pZ.cells.toArray 36 (0, 0)) from fun j => heap_alloc_new w _)
  have HD := hid hd
  have HBS := hid h.hB
  have HLOW := hid h.fs.low
  have HOFF := hid hoff
  have q1 : ∀ j, ((w.alloc (.cells pZ.cells.toArray 36)).drewN j).cell? ⟨qf, 0, none⟩ = some (.slice av xs.length cv) := fun j => (HLj.out j).cells.1
  have q2 : ∀ j, ((w.alloc (.cells pZ.cells.toArray 36)).drewN j).cell? ⟨qn, 0, none⟩ = some (.int .i64 n) := fun j => (HLj.out j).cells.2.1
  have q10 := q1 0
  have z0 : (w.alloc (.cells pZ.cells.toArray 36)).drewN 0 = w.alloc (.cells pZ.cells.toArray 36) := rfl
  rw [z0] at q10
  have MO := hid (fun W => pMost_any W n (by omega))
  obtain ⟨mo, hmo⟩ : ∃ mo, mo = mostI n := ⟨_, rfl⟩
  have HMO := hid hmo
  rw [← hmo] at MO
  have m0 : 0 ≤ mo := by rw [hmo]; unfold mostI; omega
  have m1 : mo ≤ 6000 := by rw [hmo]; unfold mostI; omega
  clear hmo
  clear k0 h hb hd hoff z0
  obtain ⟨l, hl⟩ : ∃ l, xs.length = l + 1 := ⟨xs.length - 1, by omega⟩
  have hli : (xs.length : Int) - 1 = (l : Int) := by omega
  have dl : decide ((l : Int) < 0) = false := by simp
  have hlx : l < xs.length := by omega
  obtain ⟨ar, cr, har⟩ := (HLj.out 0).fs.rshape hlx
  obtain ⟨gv, gc, hgv, _, _⟩ := (HLj.out 0).fs.form (by omega)
  injection hgv with g1 _ g3
  subst g1; subst g3
  have q3 : ∀ j, ((w.alloc (.cells pZ.cells.toArray 36)).drewN j).cell? ⟨gv, l * 4 + 3, none⟩ = some (.slice ar (xs[l]).d.length cr) := fun j => by rw [← har]; exact (HLj.out j).fs.cells hlx 3 _ rfl
  have hld : (xs[l]).d.length ≤ 6000 := HD.out _ (List.getElem_mem hlx)
  have HN0 := hid (show newF mo (fls xs) b = decide (mo < ((xs[l]).d.length + b.length : Int)) by
    unfold newF
    rw [lastF_fls (by omega)]
    have e2 : xs.length - 1 = l := by omega
    simp only [e2, fls_len]
    rw [show (xs.length == 0) = false by rw [beq_eq_false_iff_ne]; omega]
    rfl)
  obtain ⟨ld, hldd⟩ : ∃ ld, ld = (xs[l]).d.length := ⟨_, rfl⟩
  rw [← hldd] at q3 hld HN0
  have HLX := hid (And.intro hl hlx)
  clear har hldd hl
  have dm : decide (mo < (ld : Int) + (b.length : Int)) = false := by rw [← HN0.out, HMO.out]; exact hc
  have HNW := hid (show newF mo (fls xs) b = false by rw [HMO.out]; exact hc)
  clear hc
  go_enter Tryd.func41, Tryd.ntmps41
  go_wp2_with (first | (refine wpList_is rfl _ _ (exec_alloc 36 pZ.cells.toArray iPtr2 rfl) ?_) | fail)
  go_quiet ((go_at_call 42; exact Calls.quiet_of_same ((MO.out _).mono fun e w' ⟨h, k⟩ => ⟨h, k.symm⟩)))
  have K1 := hid (K0.out nq)
  have HL1 := hid (HLj.out nq)
  have HB1 := hid (HBj.out nq)
  have HR1 := hid (HRj.out nq)
  clear K0 HLj HBj HRj q1 q2 q10 q3 dl dm
  generalize ((w.alloc (.cells pZ.cells.toArray 36)).drewN nq) = w1 at K1 HL1 HB1 HR1 ⊢
  have c1 := HL1.out.cells.1
  have K4 := hid (K1.out.mono (S' := qf :: qs :: M) (by simp))
  have HM4 := hid (show ∀ k ∈ M, k ∈ M ∨ w.heap.size < k from fun k hk => .inl hk)
  have HB4 := HB1
  have HR4 := HR1
  have HL4 := HL1
  have HOP := hid (openF_old (f := f) HNW.out)
  have f4 := HL1.out.fs
  have t1 := c1
  have hyd := HD.out
  have hly : l < xs.length := by exact HLX.out.2
  obtain ⟨ar4, cr4, har4⟩ := f4.rshape hly
  have t2 : w1.cell? ⟨gv, l * 4 + 3, none⟩ = some (.slice ar4 (xs[l]).d.length cr4) := by rw [← har4]; exact f4.cells hly 3 _ rfl
  have hd4 : (xs[l]).d.length ≤ 6000 := hyd _ (List.getElem_mem hly)
  obtain ⟨ld4, hld4⟩ : ∃ z, z = (xs[l]).d.length := ⟨_, rfl⟩
  obtain ⟨s4, hs4⟩ : ∃ z, z = (xs[l]).s := ⟨_, rfl⟩
  obtain ⟨a5, c5, w5, hrun5, ⟨M5, f5, m5⟩, k5, d5, z5⟩ := append_row9 f4 hly ab cb HB4.out (by omega) HL4.out.hB
  rw [har4, ← hld4] at hrun5 d5
  rw [← hld4] at t2 hd4
  generalize hnn : (xs[l].d ++ b).length = nn at hrun5 f5
  clear hnn
  have RUN5 := hid hrun5
  have D5 := hid d5
  have Z5 := hid z5
  obtain ⟨w6, hw6⟩ : ∃ x, x = w5.setCell ⟨gv, l * 4 + 3, none⟩ (.slice a5 nn c5) := ⟨_, rfl⟩
  rw [← hw6] at f5
  have k6 : Keeps M w1 w6 := by
    rw [hw6]
    exact k5.setCell (.inl (f4.memv gv rfl)) _
  have hl6 := HL4.out.grow k6 f5 (by first | rfl | rw [hyl]) (by first | rw [List.length_set] | simp) m5
  have R6 := hid (show w6.rangeAt gv (l * 4) s4.cells from f5.name (i := l) (by rw [List.length_set]; exact hly) (by rw [List.getElem_set_self, hs4]))
  have HW6 := hid hw6
  have hr6 : w6.heap[w.heap.size]? = some (.cells pZ.cells.toArray 36 (0, 0)) := (k6.block w.heap.size (lt_of_block HR4.out) (fun hm => by
    rcases HM4.out _ hm with hm | hm
    · have := HLOW.out _ hm; omega
    · omega)).trans HR4.out
  have HR6 := hid hr6
  obtain ⟨p7, hp7⟩ : ∃ p, p = ptrS s4 (ld4 : Int) (b.length : Int) := ⟨_, rfl⟩
  obtain ⟨b7, k7⟩ := set5_range hr6 p7
  obtain ⟨w7, hw7⟩ : ∃ x, x = w6.setCells w.heap.size 0 p7.cells := ⟨_, rfl⟩
  rw [← hw7] at b7 k7
  have HW7 := hid hw7
  have B7 := hid b7
  have HP7 := hid (show p7 = ptrF f mo (fls xs) b by rw [hp7, hs4, hld4]; exact (ptrF_is HOP.out HLX.out.1).symm)
  have HPE := hid hp7
  have hM5 : ∀ k ∈ M5, k ∈ M ∨ w.heap.size < k := fun k hk => by
    rcases m5 k hk with h | h
    · exact HM4.out k h
    · have := lt_of_block HR4.out; right; omega
  have HL7 := hid (hl6.later k7 (fun k hk => by
    have := HBS.out
    have := hl6.lf
    have := hl6.ls
    have := hl6.ln
    simp at hk
    subst hk
    refine ⟨by omega, by omega, by omega, fun hm => ?_⟩
    rcases hM5 _ hm with h | h
    · have := HLOW.out _ h; omega
    · omega))
  have K7 := hid ((K4.out.trans' k6 (fun i hi hm => by
    rcases HM4.out i hm with h | h
    · simp; right; right; exact h
    · omega)).trans' k7 (fun i hi hm => by simp at hm; omega))
  have HM5 := hid (show ∀ k ∈ M5, k ∈ M ∨ w.heap.size ≤ k from fun k hk => (hM5 k hk).imp id Nat.le_of_lt)
  have HPU := hid (putF_is (r := .slice a5 nn c5) HOP.out HLX.out.1)
  clear hld4 hs4 har4 hrun5 f4 f5 m5 k5 d5 z5 hw6 k6 hl6 hr6 b7 k7 hw7 hM5 hyd hp7
  go_wp2_with (first | fail | (refine wpList_is rfl _ _ (exec_appendT 31 _ _ rfl rfl rfl RUN5.out) ?_) | (refine wpList_noval rfl _ (exec_storeBs _ _ rfl rfl rfl D5.out Z5.out) ?_; rw [← HW6.out]) | (refine wpList_isW rfl _ _ (exec_load _ _ _ _ rfl rfl (loadSpe _ gv (l * 4) _ R6.out)) ?_) | (refine wpList_is rfl _ _ (exec_buildPtr9 _ _ _ rfl _ _ _ rfl rfl rfl) ?_; rw [← HPE.out]) | (refine wpList_noval rfl _ (exec_storePt9 _ _ rfl w.heap.size p7 rfl rfl HR6.out) ?_; rw [← HW7.out]) | fail)
  refine bodyPost_ret (pt_ret (x := p7) rfl rfl (range_cells B7.out)) rfl ?_
  exact ⟨_, M5, _, by rw [HP7.out, HMO.out], HL7.out, by rw [← HMO.out]; exact HPU.out, K7.out, HM5.out⟩

theorem layF_any (w : World) (B : Nat) (M : List Nat) (qf qn qs : Nat) (f : Spe) (n : Int) (v : Value) (xs : List Fr) (bv : Value) (b : List Int) (h : LaySt w B M qf qn qs f n v xs) (hb : RowAt w bv b) (hoff : Off (qf :: qs :: M) bv b)
    (h1 : b.length ≤ 64) (hx : xs.length ≤ 64) (hd : ∀ x ∈ xs, x.d.length ≤ 6000) (n3 : 3 ≤ n) (n16 : n ≤ 16) (f0 : 0 ≤ f.n) (f1 : f.n ≤ 1073741824) :
    Calls Tryd.prog 41 #[bv, .pointer (some ⟨qf, 0, none⟩), .pointer (some ⟨qn, 0, none⟩), .pointer (some ⟨qs, 0, none⟩)] w (FillP9 w B M qf qn qs f n xs b) := by
  rcases Nat.eq_zero_or_pos xs.length with h0 | h0
  · exact fillA_any w B M qf qn qs f n v xs bv b h hb hoff h1 hx hd n3 n16 f0 f1 h0
  · cases hc : newF (mostI n) (fls xs) b with
    | true => exact fillB_any w B M qf qn qs f n v xs bv b h hb hoff h1 hx hd n3 n16 f0 f1 h0 hc
    | false => exact fillC_any w B M qf qn qs f n v xs bv b h hb hoff h1 hx hd n3 n16 f0 f1 h0 hc
end Go.Proofs.YtcfmonlgpccndaaDoor
