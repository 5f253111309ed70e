/- Write: its appended write, in a region that draws its order. -/
import Derived.Test.YtnhcfkiejldicaaGreatDkF
import Derived.Deep.AppendLies
import Derived.Great.BuildSlice
namespace Go.Proofs.YtnhcfkiejldicaaGreat
open Go.RowKit

section
variable {P : Program} {ops : Array Oper} {Q : Exit → Act → World → Prop} {md : Region.Mode}

theorem any_op {i : Nat} {o : Oper} {a : Act} {w w' : World} {v : Value} {K : Act → World → Prop} (ho : ops[i]? = some o) (hg : o.guard = none) (hrun : (execOp a.eval o).run P w = .ok (.value v) w') (h : K (a.put o.dst v) w') : wpOp P ops Q i K a w := by
  have hw : Region.wanted o (yielded ops a.tmps) = true := by simp [Region.wanted, hg]
  unfold wpOp
  simp only [ho, hw, if_true]
  refine Or.inl ?_
  unfold Oper.wp
  rw [hrun, Oper.upon_value]
  exact h

theorem any_take {i : Nat} {oi : Oper} {v : Value} {fuel : Nat} {listed : Array Bool} {a : Act} {w : World} (hi : ops.toList[i]? = some oi)
    (hs : Region.noSelect ops = true) (hf : Region.free md ops listed i = true) (hr : (Region.ready md ops listed).contains i = true)
    (hQ : ∀ c a w, Q (.panic c) (a.put oi.dst v) w → Q (.panic c) a w) (hg : oi.guard = none) (hy : ∀ w, (execOp a.eval oi).run P w = .ok (.value v) w)
    (h : wpAny P md ops Q fuel (listed.setIfInBounds i true) (a.put oi.dst v) w) : wpAny P md ops Q (fuel + 1) listed a w :=
  wpAny_take (by simpa using hi) hs hf hr hQ (Or.inl ⟨by simp [Region.wanted, hg], hy⟩) h

/-- The one that may come up. -/
theorem any_do {i : Nat} {o : Oper} {fuel : Nat} {listed : Array Bool} {a : Act} {w : World} (hr : Region.ready md ops listed = [i]) (ho' : ops.toList[i]? = some o) (hg : o.guard = none)
    (h : o.wp P a w (wpAny P md ops Q fuel (listed.setIfInBounds i true)) Q) : wpAny P md ops Q (fuel + 1) listed a w := by
  have ho : ops[i]? = some o := by simpa using ho'
  have hw : Region.wanted o (yielded ops a.tmps) = true := by simp [Region.wanted, hg]
  refine wpAny_all hr (by simp) fun j hj => ?_
  obtain rfl : j = i := by simpa using hj
  unfold wpOp
  simp only [ho, hw, if_true]
  exact Or.inl h

/-- A load beside a load and what lays a block with it: in whatever order. -/
theorem any_three {i j k : Nat} {oi oj ok : Oper} {vi vj vk : Value} {fuel : Nat} {listed : Array Bool} {a : Act} {w w' : World}
    (r0 : Region.ready md ops listed = [i, j]) (r1 : Region.ready md ops (listed.setIfInBounds i true) = [j]) (r2 : Region.ready md ops ((listed.setIfInBounds i true).setIfInBounds j true) = [k])
    (r3 : Region.ready md ops (listed.setIfInBounds j true) = [i, k]) (r5 : Region.ready md ops ((listed.setIfInBounds j true).setIfInBounds k true) = [i])
    (hij : i ≠ j) (hik : i ≠ k) (hi' : ops.toList[i]? = some oi) (hj' : ops.toList[j]? = some oj) (hk' : ops.toList[k]? = some ok) (gi : oi.guard = none) (gj : oj.guard = none) (gk : ok.guard = none)
    (dij : ∀ d, oj.dst = some d → oi.dst ≠ some d) (dik : ∀ d, ok.dst = some d → oi.dst ≠ some d)
    (e1 : (execOp a.eval oi).run P w = .ok (.value vi) w) (e2 : (execOp (a.put oi.dst vi).eval oj).run P w = .ok (.value vj) w) (e2' : (execOp a.eval oj).run P w = .ok (.value vj) w)
    (e3 : (execOp ((a.put oi.dst vi).put oj.dst vj).eval ok).run P w = .ok (.value vk) w') (e3' : (execOp (a.put oj.dst vj).eval ok).run P w = .ok (.value vk) w')
    (e1' : (execOp (a.put oj.dst vj).eval oi).run P w = .ok (.value vi) w) (e1'' : (execOp ((a.put oj.dst vj).put ok.dst vk).eval oi).run P w' = .ok (.value vi) w')
    (h : wpAny P md ops Q fuel (((listed.setIfInBounds i true).setIfInBounds j true).setIfInBounds k true) (((a.put oi.dst vi).put oj.dst vj).put ok.dst vk) w') :
    wpAny P md ops Q (fuel + 3) listed a w := by
  have hi : ops[i]? = some oi := by simpa using hi'
  have hj : ops[j]? = some oj := by simpa using hj'
  have hk : ops[k]? = some ok := by simpa using hk'
  have c1 : (listed.setIfInBounds j true).setIfInBounds i true = (listed.setIfInBounds i true).setIfInBounds j true := Array.setIfInBounds_comm _ _ (Ne.symm hij)
  have c2 : ((listed.setIfInBounds j true).setIfInBounds k true).setIfInBounds i true = ((listed.setIfInBounds i true).setIfInBounds j true).setIfInBounds k true := by
    rw [Array.setIfInBounds_comm _ _ (Ne.symm hik), c1]
  have p1 : ((a.put oj.dst vj).put oi.dst vi) = (a.put oi.dst vi).put oj.dst vj := Act.put_comm a vj vi dij
  have p2 : (((a.put oj.dst vj).put ok.dst vk).put oi.dst vi) = ((a.put oi.dst vi).put oj.dst vj).put ok.dst vk := by
    rw [← p1]; exact Act.put_comm _ vk vi dik
  refine wpAny_all r0 (by simp) fun x hx => ?_
  simp only [List.mem_cons, List.not_mem_nil, or_false] at hx
  rcases hx with rfl | rfl
  · refine any_op hi gi e1 (wpAny_all r1 (by simp) fun y hy => ?_)
    obtain rfl : y = j := by simpa using hy
    refine any_op hj gj e2 (wpAny_all r2 (by simp) fun z hz => ?_)
    obtain rfl : z = k := by simpa using hz
    exact any_op hk gk e3 h
  · refine any_op hj gj e2' (wpAny_all r3 (by simp) fun y hy => ?_)
    simp only [List.mem_cons, List.not_mem_nil, or_false] at hy
    rcases hy with rfl | rfl
    · refine any_op hi gi e1' ?_
      rw [c1, p1]
      refine wpAny_all r2 (by simp) fun z hz => ?_
      obtain rfl : z = k := by simpa using hz
      exact any_op hk gk e3 h
    · refine any_op hk gk e3' (wpAny_all r5 (by simp) fun z hz => ?_)
      obtain rfl : z = i := by simpa using hz
      refine any_op hi gi e1'' ?_
      rw [c2, p2]
      exact h
end

theorem exec_load {P : Program} {ρ : Operand → Value} {o : Oper} {w : World} (t : TypeId) (x : Operand) (u v : Value) (ho : o.op = .load t x) (hx : ρ x = u) (h : (Instr.loadAt t u).run P w = .ok v w) : (execOp ρ o).run P w = .ok (.value v) w := by
  simp only [execOp, ho, hx, Sem.run_bind, h, Result.andThen_ok, Sem.run_pure]

theorem iWr' : ∃ i, Tryz.prog.info? 114 = some i ∧ i.zero = some (wrV 0 zrow) ∧ i.size = 65 ∧ i.bytes = 72 := by
  cases hq : Tryz.prog.info? 114 with
  | none => have := iWr; simp [hq] at this
  | some i => have := iWr; simp [hq] at this; exact ⟨i, rfl, this⟩

theorem run_sliceWr (n : Int) (r : Row) (w : World) : (Instr.buildSlice 77 1 #[(0, wrV n r)]).run Tryz.prog w = .ok (.slice (some ⟨w.heap.size, 0, none⟩) 1 1) (w.alloc (.cells (.int .i64 n :: r.cells).toArray 114)) := by
  obtain ⟨ie, hie, hz, hs, _⟩ := iWr'
  have e3 : (wrV 0 zrow).cells = (.int .i64 0 :: zrow.cells).toArray := rfl
  have e5 : (wrV n r).cells = (.int .i64 n :: r.cells).toArray := rfl
  have hb : ((Array.range 65).map (fun x => (wrV 0 zrow).cells[x % (wrV 0 zrow).cells.size]!)) = (wrV 0 zrow).cells := by
    have : (wrV 0 zrow).cells.size = 65 := by rw [e3]; simp
    apply Array.ext
    · simp [this]
    · intro i h1 h2
      simp only [Array.size_map, Array.size_range] at h1
      simp only [this, Array.getElem_map, Array.getElem_range, Nat.mod_eq_of_lt h1]
      rw [getElem!_pos]
  refine run_buildSlice w _ _ 1 _ _ ie _ uWrs hie hz (by rw [hs]; decide) (by rw [hs]; decide) ?_
  rw [hs, Nat.one_mul, hb]
  have := set_part 0 (.int .i64 n :: r.cells) (.int .i64 0 :: zrow.cells) (by simp)
  simp only [Instr.fill, e3, e5]
  rw [if_neg (by simp), Nat.zero_mul, this]
  simp

theorem run_load65 (w : World) (b : Nat) (n : Int) (r : Row) (hc : w.rangeAt b 0 (.int .i64 n :: r.cells)) : (Instr.loadAt 114 (.pointer (some ⟨b, 0, none⟩))).run Tryz.prog w = .ok (wrV n r) w :=
  run_loadAt_mid w b 0 114 (.int .i64 n :: r.cells) _ hc uWr rfl (by rw [sWr]; simp)

theorem run_loadCell {P : Program} (w : World) (t : TypeId) (a : Addr) (v : Value) (hc : w.cell? a = some v) (ht : ∀ w, (isAgg t).run P w = .ok false w) : (Instr.loadAt t (.pointer (some a))).run P w = .ok v w := by
  simp [Instr.loadAt, Instr.sureAddr, loadVar, ht, hc, Result.andThen]

theorem exec_sliceWr {ρ : Operand → Value} {o : Oper} {w : World} (x : Operand) (n : Int) (r : Row) (ho : o.op = .buildSlice 77 1 #[(0, x)]) (hx : ρ x = wrV n r) :
    (execOp ρ o).run Tryz.prog w = .ok (.value (.slice (some ⟨w.heap.size, 0, none⟩) 1 1)) (w.alloc (.cells (.int .i64 n :: r.cells).toArray 114)) := by
  have h : (Instr.buildSlice 77 1 #[(0, wrV n r)]).run Tryz.prog w = .ok (.slice (some ⟨w.heap.size, 0, none⟩) 1 1) (w.alloc (.cells (.int .i64 n :: r.cells).toArray 114)) := run_sliceWr n r w
  simp only [execOp, ho, List.map_toArray, List.map_cons, List.map_nil, hx, Sem.run_bind, h, Result.andThen_ok, Sem.run_pure]

section
variable {ops : Array Oper} {rest : List Oper} {o : Oper} {a : Act} {w : World} {Q : Exit → Act → World → Prop}

/-- The bytes of a slice of 64 bytes, as an array. -/
theorem wpList_toArr (hgd : o.guard = none) (x : Operand) (ho : o.op = .sliceToArrayPointer 112 x) (ad : Option Addr) (c : Nat) (hx : a.eval x = .slice ad 64 c)
    (h : wpList Tryz.prog ops Q rest (a.put o.dst (.pointer ad)) w) : wpList Tryz.prog ops Q (o :: rest) a w := by
  refine wpList_is hgd _ _ ?_ h
  simp [execOp, ho, hx, Instr.arrayAt, run_underlying uRow, Result.andThen]

theorem wpList_loadAd (hgd : o.guard = none) (x : Operand) (ho : o.op = .load 112 x) (ad : Addr) (hx : a.eval x = .pointer (some ad)) (r : Row) (hc : ∀ j u, r.cells[j]? = some u → w.cell? (ad.add j) = some u)
    (h : wpList Tryz.prog ops Q rest (a.put o.dst (rowV r)) w) : wpList Tryz.prog ops Q (o :: rest) a w := by
  refine wpList_is hgd _ _ ?_ h
  have hl := run_loadCells_list (P := Tryz.prog) w ad r.cells hc
  rw [r.len] at hl
  simp only [execOp, ho, hx, Instr.loadAt, Instr.sureAddr, loadVar, Sem.run_bind, Sem.run_pure, Result.andThen_ok, aggRow, sizeRow, if_true, hl]
  rfl

theorem wpList_storeWrNew (hgd : o.guard = none) (x y : Operand) (ho : o.op = .store 114 x y) (W : World) (p r : Row) (q n : Int) (hw : w = W.alloc (.cells (.int .i64 q :: p.cells).toArray 114)) (N : Nat) (hx : a.eval x = .pointer (some ⟨N, 0, none⟩)) (hN : N = W.heap.size)
    (hy : a.eval y = wrV n r)
    (h : wpList Tryz.prog ops Q rest (a.put o.dst undef) (W.alloc (.cells (.int .i64 n :: r.cells).toArray 114))) : wpList Tryz.prog ops Q (o :: rest) a w := by
  subst hN
  exact wpList_storeNew hgd 114 x y ho W _ _ hw hx hy (by rw [sWr]; simp) (by simp) (wrV_one _ _) h
end

theorem run_storeRow0 (W : World) (p q r : Row) : (Instr.storeAt 112 (.pointer (some ⟨W.heap.size, 0, none⟩)) (rowV r)).run Tryz.prog (W.alloc (.cells (p.cells ++ q.cells).toArray 116)) = .ok () (W.alloc (.cells (r.cells ++ q.cells).toArray 116)) := by
  have h := run_storeCells_at (P := Tryz.prog) W.heap.size 0 116 r.cells 0 (p.cells ++ q.cells).toArray (W.alloc (.cells (p.cells ++ q.cells).toArray 116)) (heap_alloc_new W _) (by simp) r.one
  rw [World.setRow_alloc_new] at h
  have e : ((p.cells ++ q.cells).toArray.toList.take (0 + 0) ++ r.cells ++ (p.cells ++ q.cells).toArray.toList.drop (0 + 0 + r.cells.length)) = r.cells ++ q.cells := by simp
  rw [e] at h
  simp only [Instr.storeAt, Instr.sureAddr, storeVar, Sem.run_bind, Sem.run_pure, Result.andThen_ok, sizeRow, rowV_cells, List.size_toArray, Row.len, ne_eq, not_true, if_false, List.toList_toArray]
  exact h

theorem wpList_storeNow {ops : Array Oper} {rest : List Oper} {o : Oper} {a : Act} {w : World} {Q : Exit → Act → World → Prop} (hgd : o.guard = none) (x y : Operand) (ho : o.op = .store 112 x y) (W : World) (p q r : Row) (hw : w = W.alloc (.cells (p.cells ++ q.cells).toArray 116)) (N : Nat) (hx : a.eval x = .pointer (some ⟨N, 0, none⟩)) (hN : N = W.heap.size)
    (hy : a.eval y = rowV r)
    (h : wpList Tryz.prog ops Q rest (a.put o.dst undef) (W.alloc (.cells (r.cells ++ q.cells).toArray 116))) : wpList Tryz.prog ops Q (o :: rest) a w := by
  subst hN
  subst hw
  refine wpList_plain hgd fun _ hK => ?_
  unfold Oper.wp execOp
  simp only [ho, hx, hy, run_storeRow0 W p q r, Sem.run_bind, Result.andThen_ok]
  exact hK _ _ h

/-- What a Write has become of a disk. -/
def DS.wrote (s : DS) (i : Nat) (r : Row) : DS :=
  if s.fuse = 0 then { s with loose := s.loose ++ [(i, r)], dead := true } else { ({ s with loose := s.loose ++ [(i, r)] } : DS).spent with now := upd s.now i r }

theorem lcells_snoc (l : List (Nat × Row)) (i : Nat) (r : Row) : lcells (l ++ [(i, r)]) = lcells l ++ (.int .i64 (i : Int) :: r.cells) := by simp [lcells]
theorem lcells_len (l : List (Nat × Row)) : (lcells l).length = l.length * 65 := by
  induction l with
  | nil => rfl
  | cons x l ih => simp only [lcells, List.flatMap_cons, List.length_append, List.length_cons, Row.len] at *; omega

/-- Behind an append to the disk's row. -/
theorem DiskIn.push {w w1 : World} {p m n : Nat} {lv : Value} {s : DS} (H : DiskIn w p m lv n s) (g cap : Nat) (i : Nat) (r : Row) (hg : w.grownBy w1 lv.ownBlock)
    (ho : w1.ownsRow 0 114 65 (.slice (some ⟨g, 0, none⟩) (s.loose.length + 1) cap) (s.loose.length + 1) (lcells s.loose ++ (.int .i64 (i : Int) :: r.cells))) (hat : lv.ownBlock = some g ∨ w.heap.size ≤ g) :
    DiskIn (w1.setCell ⟨p, 2, none⟩ (.slice (some ⟨g, 0, none⟩) (s.loose.length + 1) cap)) p m (.slice (some ⟨g, 0, none⟩) (s.loose.length + 1) cap) n { s with loose := s.loose ++ [(i, r)] } := by
  have hb : w1.heap[p]? = some (.cells (dcells s m lv) 79 (0, 0)) := by rw [hg.block p H.lt (fun e => H.pl e.symm)]; exact H.blk
  have hgp : g ≠ p := by
    rcases hat with e | e
    · rintro rfl; exact H.pl e
    · have := H.lt; omega
  refine ⟨?_, ?_, ?_⟩
  · rw [heap_setCell_same w1 p 2 _ _ _ hb]
    simp [dcells]
  · exact (H.map.block (hg.block m H.map.lt (fun e => H.ml e.symm))).block (Below.heap_setCell _ _ _ _ H.pm)
  · simp only [List.length_append, List.length_cons, List.length_nil, lcells_snoc]
    refine ⟨ho.1, ?_⟩
    rcases ho.2 with ⟨e, _⟩ | ⟨g', cap', cur, e, a1, a2, a3⟩
    · cases e
    · refine Or.inr ⟨g', cap', cur, e, a1, ?_, a3⟩
      injection e with e _ _
      injection e with e
      injection e with e
      subst e
      rw [Below.heap_setCell _ _ _ _ hgp]
      exact a2

theorem range_tail {w4 w5 : World} {b p : Nat} {v : Value} {l : List Value} (h : w4.rangeAt b 0 (v :: l)) (k : Keeps [p] w4 w5) (hp : b ≠ p) : w5.rangeAt b 1 l := fun j u hu => by
  have h1 := h (j + 1) u (by simpa using hu)
  rw [show 1 + j = 0 + (j + 1) by omega, World.cell?_of_block (w := w4) (k.block _ (World.block_lt_of_cell? w4 _ h1) (by simpa using hp))]
  exact h1

/-- The map has turned. -/
theorem DiskIn.mapped {w w' : World} {p m n n' : Nat} {lv : Value} {s : DS} {f : Nat → Row × Row} (H : DiskIn w p m lv n s) (k : Keeps [m] w w') (M : MapIs w' m n' s.cnt f) (a b : Nat → Row) (hf : ∀ i, f i = (a i, b i)) :
    DiskIn w' p m lv n' { s with now := a, las := b } := by
  refine ⟨?_, ?_, ?_⟩
  · rw [k.block p H.lt (by simpa using fun e => H.pm e.symm)]
    exact H.blk
  · have e : f = fun i => (a i, b i) := funext hf
    rw [e] at M
    exact M
  · rcases H.row with ⟨h1, h2⟩
    refine ⟨h1, ?_⟩
    rcases h2 with h2 | ⟨g, cap, cur, rfl, a1, a2, a3⟩
    · exact Or.inl h2
    · exact Or.inr ⟨g, cap, cur, rfl, a1, by rw [k.block g (lt_of_block a2) (by simpa using fun e => H.ml (by simp [Value.ownBlock, e]))]; exact a2, a3⟩

theorem spend_dies (w : World) (p m n : Nat) (lv : Value) (s : DS) (h : DiskIn w p m lv n s) (hf : -9223372036854775808 ≤ s.fuse ∧ s.fuse ≤ 9223372036854775807) (ho : 0 ≤ s.ops ∧ s.ops ≤ 4611686018427387904) (h0 : s.fuse = 0) :
    Calls Tryz.prog 73 #[.pointer (some ⟨p, 0, none⟩)] w fun e w' => e = .returned (.int .i64 14) ∧ DiskIn w' p m lv n { s with dead := true } ∧ Keeps [p] w w' :=
  (spend_any w p m n lv s h hf ho).mono fun _ _ ⟨g1, _, g3⟩ => ⟨(g1 h0).1, (g1 h0).2, g3⟩
theorem spend_ok (w : World) (p m n : Nat) (lv : Value) (s : DS) (h : DiskIn w p m lv n s) (hf : -9223372036854775808 ≤ s.fuse ∧ s.fuse ≤ 9223372036854775807) (ho : 0 ≤ s.ops ∧ s.ops ≤ 4611686018427387904) (h0 : s.fuse ≠ 0) :
    Calls Tryz.prog 73 #[.pointer (some ⟨p, 0, none⟩)] w fun e w' => e = .returned (.int .i64 0) ∧ DiskIn w' p m lv n s.spent ∧ Keeps [p] w w' :=
  (spend_any w p m n lv s h hf ho).mono fun _ _ ⟨_, g2, g3⟩ => ⟨(g2 h0).1, (g2 h0).2, g3⟩

set_option maxRecDepth 100000 in
set_option maxHeartbeats 4000000 in
theorem write_good (w : World) (p m n : Nat) (lv : Value) (s : DS) (H : DiskIn w p m lv n s) (hc : 2 ≤ s.cnt) (hc2 : s.cnt ≤ 4160) (hd : s.dead = false) (i : Nat) (hi : i < s.cnt) (r : Row) (bv : Value) (hb : RowAt w bv r.1)
    (hl : s.loose.length ≤ 1000000000) (hn : n ≤ 1000000000) (hfz : -9223372036854775808 ≤ s.fuse ∧ s.fuse ≤ 9223372036854775807) (hop : 0 ≤ s.ops ∧ s.ops ≤ 4611686018427387904) :
    Calls Tryz.prog 43 #[.pointer (some ⟨p, 0, none⟩), .int .i64 i, bv] w fun e w' => e = .returned (.int .i64 (if s.fuse = 0 then 14 else 0)) ∧ ∃ lv', DiskIn w' p m lv' (n + 1) (s.wrote i r) ∧ Keeps (foot p m lv) w w' ∧ (lv'.ownBlock = lv.ownBlock ∨ NewV w lv') := by
  have c0 := H.c0
  have c1 := H.c1
  have c2 := H.c2
  have c5 := H.c5
  rw [hd] at c5
  have HH := hid H
  have hp := H.lt
  clear H
  obtain ⟨ad, cap, rfl, b1, b2, b3, b4, b5⟩ := hb
  have hlen := r.2.1
  rw [hlen] at b1 ⊢
  obtain ⟨ad, rfl⟩ : ∃ x, ad = some x := by
    cases ad with
    | none => have := b3 rfl; omega
    | some x => exact ⟨x, rfl⟩
  have hcell : ∀ j u, r.cells[j]? = some u → w.cell? (ad.add j) = some u := b5 ad rfl
  clear b1 b2 b3 b4 b5
  have hh : (decide (0 ≤ (i : Int)) && decide ((i : Int) < s.cnt)) = true := by simp; omega
  go_enter Tryz.func43, Tryz.ntmps43
  go_wp2_with (first | (go_at_call 71; refine (well_any _ _ s.cnt (by omega) _ c0 c5).mono ?_; rintro e w' ⟨rfl, rfl⟩) | (go_at_call 72; refine (has_any _ _ s.cnt _ c0).mono ?_; rw [hh]; rintro e w' ⟨rfl, rfl⟩) | (refine wpList_toArr rfl _ rfl _ _ rfl ?_) | (refine wpList_loadAd rfl _ rfl _ rfl r hcell ?_) | (refine wpList_buildWr rfl _ _ rfl _ _ rfl rfl ?_) | (refine wpList_allocWr rfl rfl ?_) | (refine wpList_storeWrNew rfl _ _ rfl _ _ _ _ _ rfl _ rfl (by simp) rfl ?_) | fail)
  refine wp_region_any (by kernel_rfl) ?_
  change wpAny _ _ _ _ _ _ _ (World.drew (w.alloc (.cells (.int .i64 (i : Int) :: r.cells).toArray 114)))
  have K0 : Keeps [] w (w.alloc (.cells (.int .i64 (i : Int) :: r.cells).toArray 114)).drew := ((Keeps.refl _ _).alloc _).drew
  have rg : (w.alloc (.cells (.int .i64 (i : Int) :: r.cells).toArray 114)).drew.rangeAt w.heap.size 0 (.int .i64 (i : Int) :: r.cells) := (World.rangeAt_drew _ _ _ _).2 (rangeNew _ _ _)
  generalize World.drew (w.alloc (.cells (.int .i64 (i : Int) :: r.cells).toArray 114)) = w2 at K0 rg ⊢
  have H2 := hid (HH.out.keep K0 (by simp))
  have c2' := H2.out.c2
  refine any_take (i := 0) (v := .pointer (some ⟨p, 0, none⟩)) rfl (by kernel_rfl) (by kernel_rfl) (by kernel_rfl) (fun _ _ _ h => h) rfl (fun W => ?_) ?_
  · go_simp
  simp only [Act.put, List.setIfInBounds_toArray, List.set_cons_zero, List.set_cons_succ]
  refine any_take (i := 1) (v := .pointer (some ⟨p, 0, none⟩)) rfl (by kernel_rfl) (by kernel_rfl) (by kernel_rfl) (fun _ _ _ h => h) rfl (fun W => ?_) ?_
  · go_simp
  simp only [Act.put, List.setIfInBounds_toArray, List.set_cons_zero, List.set_cons_succ]
  refine any_take (i := 2) (v := .pointer (some ⟨p, 0, none⟩)) rfl (by kernel_rfl) (by kernel_rfl) (by kernel_rfl) (fun _ _ _ h => h) rfl (fun W => ?_) ?_
  · go_simp
  simp only [Act.put, List.setIfInBounds_toArray, List.set_cons_zero, List.set_cons_succ]
  refine any_take (i := 3) (v := .pointer (some ⟨p, 2, none⟩)) rfl (by kernel_rfl) (by kernel_rfl) (by kernel_rfl) (fun _ _ _ h => h) rfl (fun W => ?_) ?_
  · go_simp
  simp only [Act.put, List.setIfInBounds_toArray, List.set_cons_zero, List.set_cons_succ]
  have hag : ∀ W, (isAgg 77).run Tryz.prog W = .ok false W := fun W => by
    unfold isAgg
    rw [Sem.run_bind, run_underlying uWrs W]
    rfl
  have c2a : (w2.alloc (.cells (.int .i64 (i : Int) :: r.cells).toArray 114)).cell? ⟨p, 2, none⟩ = some lv := by
    rw [World.cell?_of_block (w := w2) (Below.heap_alloc _ _ _ H2.out.lt)]; exact c2'
  have L0 := run_loadCell (P := Tryz.prog) w2 77 ⟨p, 2, none⟩ lv c2' hag
  have L1 := run_loadCell (P := Tryz.prog) _ 77 ⟨p, 2, none⟩ lv c2a hag
  have L2 := run_load65 w2 w.heap.size i r rg
  refine any_three (i := 4) (j := 5) (k := 6) (vi := lv) (vj := wrV i r) (vk := .slice (some ⟨w2.heap.size, 0, none⟩) 1 1) (by kernel_rfl) (by kernel_rfl) (by kernel_rfl) (by kernel_rfl) (by kernel_rfl) (by decide) (by decide) rfl rfl rfl rfl rfl rfl (by simp) (by simp)
    (exec_load _ _ _ _ rfl rfl L0) (exec_load _ _ _ _ rfl rfl L2) (exec_load _ _ _ _ rfl rfl L2) (exec_sliceWr _ _ _ rfl rfl) (exec_sliceWr _ _ _ rfl rfl) (exec_load _ _ _ _ rfl rfl L0) (exec_load _ _ _ _ rfl rfl L1) ?_
  simp only [Act.put, List.setIfInBounds_toArray, List.set_cons_zero, List.set_cons_succ]
  refine any_do (i := 7) (by kernel_rfl) rfl rfl ?_
  obtain ⟨ie, hie, hz, hs, hby⟩ := iWr'
  have HA := H2.out.keep ((Keeps.refl [] _).alloc (.cells (.int .i64 (i : Int) :: r.cells).toArray 114)) (by simp)
  refine wp_append_lies _ _ _ _ rfl 0 114 ie _ 65 72 uWrs hie hz hs hby (by rw [wrV_cells]; simp) (by omega) lv s.loose.length (lcells s.loose) rfl HA.row ⟨w2.heap.size, 0, none⟩ 1 1 (.int .i64 (i : Int) :: r.cells) rfl (by simp)
    (fun j u hu => by rw [Addr.add_mid]; exact rangeNew w2 (.int .i64 (i : Int) :: r.cells) 114 j u hu) (by
      intro v hv
      rcases List.mem_cons.1 hv with rfl | hv
      · rfl
      · exact r.one v hv) (by omega) (by unfold maxLen; omega) (by omega) (by omega) _ rfl ?_
  intro g cap w3 ho hg hat hlt
  have hat' : lv.ownBlock = some g ∨ (w2.alloc (.cells (.int .i64 (i : Int) :: r.cells).toArray 114)).heap.size ≤ g := by
    rcases hat with e | e
    · exact Or.inl e
    · exact Or.inr (by omega)
  have DP := hid (HA.push g cap i r hg ho hat')
  have B3 : w3.heap[p]? = some (.cells (dcells s m lv) 79 (0, 0)) := by rw [hg.block p HA.lt (fun e => HA.pl e.symm)]; exact HA.blk
  have c3 : w3.cell? ⟨p, 2, none⟩ = some lv := by simp [World.cell?, B3, dcells]
  have f3 : w3.frozen? ⟨p, 2, none⟩ = false := by simp [World.frozen?, B3]
  have K3 : Hid (Keeps (foot p m lv) w (w3.setCell ⟨p, 2, none⟩ (.slice (some ⟨g, 0, none⟩) (s.loose.length + 1) cap))) :=
    (((K0.alloc (.cells (.int .i64 (i : Int) :: r.cells).toArray 114)).mono (by simp)).grown hg (fun k hk => Or.inl (by simp [foot, hk]))).setCell (Or.inl (by simp [foot])) _
  have hnw : lv.ownBlock ≠ some w.heap.size := fun e => by have := (HH.out.row.lt _ e).2; omega
  have rg3 : Hid ((w3.setCell ⟨p, 2, none⟩ (.slice (some ⟨g, 0, none⟩) (s.loose.length + 1) cap)).rangeAt w.heap.size 0 (.int .i64 (i : Int) :: r.cells)) := fun j u hu => by
    have h1 := rg j u hu
    have l1 := World.block_lt_of_cell? w2 _ h1
    rw [World.cell?_of_block (w := w3) (Below.heap_setCell _ _ _ _ (show w.heap.size ≠ p by omega)), World.cell?_of_block (hg.block _ (by have := (Keeps.refl [] w2).alloc (.cells (.int .i64 (i : Int) :: r.cells).toArray 114) |>.size; exact Nat.lt_of_lt_of_le l1 this) (fun e => hnw e.symm)),
      World.cell?_of_block (Below.heap_alloc _ _ _ l1)]
    exact h1
  simp only [Act.put, List.setIfInBounds_toArray, List.set_cons_zero, List.set_cons_succ]
  refine any_take (i := 8) (v := .pointer (some ⟨p, 0, none⟩)) rfl (by kernel_rfl) (by kernel_rfl) (by kernel_rfl) (fun _ _ _ h => h) rfl (fun W => ?_) ?_
  · go_simp
  simp only [Act.put, List.setIfInBounds_toArray, List.set_cons_zero, List.set_cons_succ]
  refine any_take (i := 9) (v := .pointer (some ⟨p, 2, none⟩)) rfl (by kernel_rfl) (by kernel_rfl) (by kernel_rfl) (fun _ _ _ h => h) rfl (fun W => ?_) ?_
  · go_simp
  simp only [Act.put, List.setIfInBounds_toArray, List.set_cons_zero, List.set_cons_succ]
  refine any_do (i := 10) (by kernel_rfl) rfl rfl ?_
  have hat0 : Hid (lv.ownBlock = some g ∨ w.heap.size ≤ g) := by
    rcases hat' with e | e
    · exact Or.inl e
    · right
      have := ((Keeps.refl [] w2).alloc (.cells (.int .i64 (i : Int) :: r.cells).toArray 114)).size
      have := K0.size
      omega
  clear hg ho hat hat' B3 HA
  go_simp
  refine wpAny_done (by kernel_rfl) ?_ _
  clear c3 f3 L0 L1 L2 c2a c2' rg H2
  have NL : Hid ((Value.slice (some ⟨g, 0, none⟩) (s.loose.length + 1) cap).ownBlock = lv.ownBlock ∨ NewV w (Value.slice (some ⟨g, 0, none⟩) (s.loose.length + 1) cap)) := by
    rcases hat0.out with e | e
    · exact Or.inl e.symm
    · refine Or.inr fun b hb => ?_
      injection hb with hb
      simp only at hb
      omega
  clear hat0
  generalize Value.slice (some ⟨g, 0, none⟩) (s.loose.length + 1) cap = lv2 at DP K3 rg3 NL ⊢
  generalize w3.setCell ⟨p, 2, none⟩ lv2 = w4 at DP K3 rg3 ⊢
  clear hlt hnw K0
  generalize w2.heap.size = n2
  clear w2 w3
  have W4 : w.heap.size ≤ w4.heap.size := K3.out.size
  by_cases hf : s.fuse = 0
  · have SP := hid (spend_dies w4 p m n lv2 { s with loose := s.loose ++ [(i, r)] } DP.out hfz hop hf)
    have HF := hid hf
    clear hf
    go_wp2_with (first | (go_at_call 73; refine SP.out.mono ?_; rintro e w5 ⟨rfl, g1, g3⟩; have D5 := hid g1; have K5 := hid g3; clear g1 g3) | fail)
    go_ret
    refine ⟨by first | rfl | (rw [if_pos HF.out]; rfl), lv2, ?_, K3.out.trans (K5.out.mono (by intro k _ hk; simp at hk; simp [foot, hk])), NL.out⟩
    have e : s.wrote i r = { s with loose := s.loose ++ [(i, r)], dead := true } := by simp [DS.wrote, HF.out]
    rw [e]
    have D := D5.out
    exact ⟨D.blk, D.map.mono (by omega), D.row⟩
  · have SP := hid (spend_ok w4 p m n lv2 { s with loose := s.loose ++ [(i, r)] } DP.out hfz hop hf)
    have HF := hid hf
    clear hf
    go_wp2_with (first | (go_at_call 73; refine SP.out.mono ?_; rintro e w5 ⟨rfl, g2, g3⟩; have D5 := hid g2; have K5 := hid g3; have c15 := D5.out.c1; have M5 : Hid (MapIs w5 m n s.cnt fun i => (s.now i, s.las i)) := D5.out.map; have rg5 := hid (range_tail rg3.out K5.out (by omega)); clear g2 g3) | (refine wpList_look rfl _ _ rfl m n s.cnt _ M5.out rfl i (by omega) rfl ?_) | (refine wpList_allocSec rfl rfl ?_) | (refine wpList_storeSecNew rfl _ _ rfl _ _ _ _ _ rfl _ rfl (by simp) rfl ?_) | (refine wpList_loadRow rfl _ rfl _ _ rfl r (World.rangeAt_alloc rg5.out _) ?_) | (refine wpList_storeNow rfl _ _ rfl _ _ _ r rfl _ rfl rfl rfl ?_) | (refine wpList_loadSec rfl _ rfl _ _ rfl r (s.las i) (rangeNew _ _ _) ?_) | (go_at_call 74; refine (keep_any _ p m n s.cnt _ (D5.out.keep ((Keeps.refl [] _).alloc _) (by simp)).c1 (M5.out.keep ((Keeps.refl [] _).alloc _) (by simp)) i hi (by omega) (by omega) r (s.las i)).mono ?_; rintro e w7 ⟨rfl, g4, g5⟩; have M7 := hid g4; have K7 := hid g5; clear g4 g5) | fail)
    go_ret
    have DA := D5.out.keep ((Keeps.refl [] _).alloc (.cells (r.cells ++ (s.las i).cells).toArray 116)) (by simp)
    have DM := DA.mapped K7.out M7.out (upd s.now i r) s.las (by
      intro j
      by_cases e : j = i
      · subst e; simp
      · simp [upd, e])
    refine ⟨by first | rfl | (rw [if_neg HF.out]; rfl), lv2, ?_, ((K3.out.trans (K5.out.mono (by intro k _ hk; simp at hk; simp [foot, hk]))).alloc _).trans (K7.out.mono (by intro k _ hk; simp at hk; simp [foot, hk])), NL.out⟩
    have e : s.wrote i r = { ({ s with loose := s.loose ++ [(i, r)] } : DS).spent with now := upd s.now i r } := by simp only [DS.wrote, if_neg HF.out]
    rw [e]
    exact DM

end Go.Proofs.YtnhcfkiejldicaaGreat
