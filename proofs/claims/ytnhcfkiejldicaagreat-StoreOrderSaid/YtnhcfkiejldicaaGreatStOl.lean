/- store: ids: the reference's MayId and Less, ids compared, a slice of ids that came in, the latest of some. -/
import Derived.Test.YtnhcfkiejldicaaGreatStFl
import Derived.Test.YtnhcfkiejldicaaGreatOpenC
import Derived.Laws.StructEq
import Derived.ChangeSame
import Derived.ChangeMaps5
import Derived.Deep.Strs
namespace Go.Proofs.YtnhcfkiejldicaaGreat
open Go.RowKit Go.Shelf
set_option maxRecDepth 100000
set_option linter.unusedSimpArgs false
set_option linter.unusedVariables false

set_option maxHeartbeats 3200000 in
theorem mayS_any (w : World) (c l n : Int) : Calls Tryz.prog 41 #[.agg #[.int .i64 c, .int .i64 l, .int .i64 n]] w fun e w' => e = .returned (.bool (withinB c 4 && withinB l 1048576 && withinB n 1073741824)) ∧ Keeps [] w w' := by
  have KB := hid ((Keeps.refl [] w).alloc (.cells #[.int .i64 c, .int .i64 l, .int .i64 n] 34))
  unfold withinB
  by_cases h0 : 0 ≤ c
  · by_cases h1 : c ≤ 4
    · by_cases h2 : 0 ≤ l
      · by_cases h3 : l ≤ 1048576
        · by_cases h4 : 0 ≤ n
          · by_cases h5 : n ≤ 1073741824
            · go_enter Tryz.func41, Tryz.ntmps41
              go_wp2_with fail
              go_ret
              exact ⟨by simp [h0, h1, h2, h3, h4, h5], KB.out⟩
            · go_enter Tryz.func41, Tryz.ntmps41
              go_wp2_with fail
              go_ret
              exact ⟨by simp [h5], KB.out⟩
          · go_enter Tryz.func41, Tryz.ntmps41
            go_wp2_with fail
            go_ret
            exact ⟨by simp; omega, KB.out⟩
        · go_enter Tryz.func41, Tryz.ntmps41
          go_wp2_with fail
          go_ret
          exact ⟨by simp; omega, KB.out⟩
      · go_enter Tryz.func41, Tryz.ntmps41
        go_wp2_with fail
        go_ret
        exact ⟨by simp; omega, KB.out⟩
    · go_enter Tryz.func41, Tryz.ntmps41
      go_wp2_with fail
      go_ret
      exact ⟨by simp; omega, KB.out⟩
  · go_enter Tryz.func41, Tryz.ntmps41
    go_wp2_with fail
    go_ret
    exact ⟨by simp; omega, KB.out⟩

set_option maxHeartbeats 3200000 in
theorem mayR_any (w : World) (x : Idn) : Calls Tryz.prog 16 #[idV x] w fun e w' => e = .returned (.bool (mayI x)) ∧ Keeps [] w w' := by
  unfold idV mayI
  have KB := hid ((Keeps.refl [] w).alloc (.cells #[.int .i64 x.c, .int .i64 x.l, .int .i64 x.n, .int .i64 x.i] 36))
  have B1 := hid (heap_alloc_new w (.cells #[.int .i64 x.c, .int .i64 x.l, .int .i64 x.n, .int .i64 x.i] 36))
  have MS := hid (mayS_any (w.alloc (.cells #[.int .i64 x.c, .int .i64 x.l, .int .i64 x.n, .int .i64 x.i] 36)) x.c x.l x.n)
  cases hb : (withinB x.c 4 && withinB x.l 1048576 && withinB x.n 1073741824) with
  | false =>
    rw [hb] at MS
    go_enter Tryz.func16, Tryz.ntmps16
    go_wp2_with fail
    refine MS.out.mono ?_
    rintro e w2 ⟨rfl, k2⟩
    have K2 := hid (KB.out.trans k2)
    clear k2
    go_wp2_with fail
    go_ret
    exact ⟨rfl, K2.out⟩
  | true =>
    rw [hb] at MS
    unfold withinB
    by_cases h0 : 0 ≤ x.i
    · by_cases h1 : x.i < 16
      · go_enter Tryz.func16, Tryz.ntmps16
        go_wp2_with fail
        refine MS.out.mono ?_
        rintro e w2 ⟨rfl, k2⟩
        have K2 := hid (KB.out.trans k2)
        have b2 := (k2.block _ (lt_of_block B1.out) (by simp)).trans B1.out
        have c2 : w2.cell? ⟨w.heap.size, 3, none⟩ = some (.int .i64 x.i) := by simp [World.cell?, b2]
        clear k2 b2
        go_wp2_with fail
        go_ret
        exact ⟨by simp [h0]; omega, K2.out⟩
      · go_enter Tryz.func16, Tryz.ntmps16
        go_wp2_with fail
        refine MS.out.mono ?_
        rintro e w2 ⟨rfl, k2⟩
        have K2 := hid (KB.out.trans k2)
        have b2 := (k2.block _ (lt_of_block B1.out) (by simp)).trans B1.out
        have c2 : w2.cell? ⟨w.heap.size, 3, none⟩ = some (.int .i64 x.i) := by simp [World.cell?, b2]
        clear k2 b2
        go_wp2_with fail
        go_ret
        exact ⟨by simp [h0]; omega, K2.out⟩
    · go_enter Tryz.func16, Tryz.ntmps16
      go_wp2_with fail
      refine MS.out.mono ?_
      rintro e w2 ⟨rfl, k2⟩
      have K2 := hid (KB.out.trans k2)
      have b2 := (k2.block _ (lt_of_block B1.out) (by simp)).trans B1.out
      have c2 : w2.cell? ⟨w.heap.size, 3, none⟩ = some (.int .i64 x.i) := by simp [World.cell?, b2]
      clear k2 b2
      go_wp2_with fail
      go_ret
      exact ⟨by simp; omega, K2.out⟩
theorem eqIds (w : World) (a b : Idn) : (binOp .eql 36 (idV a) (idV b)).run Tryz.prog w = .ok (.bool (a.c == b.c && a.l == b.l && a.n == b.n && a.i == b.i)) w := by
  have f1 : Tryz.prog.underlying 36 = some (.struct (Tryz.prog.fieldsOf 36)) := by kernel_rfl
  have f2 : Tryz.prog.underlying 34 = some (.struct (Tryz.prog.fieldsOf 34)) := by kernel_rfl
  have p1 : ∀ w, (part 34 #[.int .i64 a.c, .int .i64 a.l, .int .i64 a.n, .int .i64 a.i] 0).run Tryz.prog w = .ok (.agg #[.int .i64 a.c, .int .i64 a.l, .int .i64 a.n]) w := fun w => by kernel_rfl
  have p2 : ∀ w, (part 34 #[.int .i64 b.c, .int .i64 b.l, .int .i64 b.n, .int .i64 b.i] 0).run Tryz.prog w = .ok (.agg #[.int .i64 b.c, .int .i64 b.l, .int .i64 b.n]) w := fun w => by kernel_rfl
  have p3 : ∀ w, (part 3 #[.int .i64 a.c, .int .i64 a.l, .int .i64 a.n, .int .i64 a.i] 3).run Tryz.prog w = .ok (.int .i64 a.i) w := fun w => by kernel_rfl
  have p4 : ∀ w, (part 3 #[.int .i64 b.c, .int .i64 b.l, .int .i64 b.n, .int .i64 b.i] 3).run Tryz.prog w = .ok (.int .i64 b.i) w := fun w => by kernel_rfl
  have q : ∀ (x y z : Int), (∀ w, (part 3 #[.int .i64 x, .int .i64 y, .int .i64 z] 0).run Tryz.prog w = .ok (.int .i64 x) w) ∧ (∀ w, (part 3 #[.int .i64 x, .int .i64 y, .int .i64 z] 1).run Tryz.prog w = .ok (.int .i64 y) w) ∧ (∀ w, (part 3 #[.int .i64 x, .int .i64 y, .int .i64 z] 2).run Tryz.prog w = .ok (.int .i64 z) w) := fun x y z => ⟨fun w => by kernel_rfl, fun w => by kernel_rfl, fun w => by kernel_rfl⟩
  have u : Tryz.prog.underlying 3 = some (.int .i64) := by kernel_rfl
  have i : ∀ (d : Nat) (x y : Int) (w : World), (Op.equalIn (d + 1) 3 (.int .i64 x) (.int .i64 y)).run Tryz.prog w = .ok (x == y) w := fun d x y w => run_equalIn_int w d 3 .i64 .i64 x y u
  have i8 : ∀ (x y : Int) (w : World), (Op.equalIn 9998 3 (.int .i64 x) (.int .i64 y)).run Tryz.prog w = .ok (x == y) w := i 9997
  have i9 : ∀ (x y : Int) (w : World), (Op.equalIn 9999 3 (.int .i64 x) (.int .i64 y)).run Tryz.prog w = .ok (x == y) w := i 9998
  have g1 : (Tryz.prog.fieldsOf 36).toList.map (fun f => (f.name != "_", f.type, f.offset)) = [(true, 34, 0), (true, 3, 3)] := by kernel_rfl
  have g2 : (Tryz.prog.fieldsOf 34).toList.map (fun f => (f.name != "_", f.type, f.offset)) = [(true, 3, 0), (true, 3, 1), (true, 3, 2)] := by kernel_rfl
  have S : ∀ w, (Op.equalIn 9999 34 (.agg #[.int .i64 a.c, .int .i64 a.l, .int .i64 a.n]) (.agg #[.int .i64 b.c, .int .i64 b.l, .int .i64 b.n])).run Tryz.prog w = .ok (a.c == b.c && a.l == b.l && a.n == b.n) w := fun w => by
    rw [run_equalIn_agg w 9998 34 _ _ f2 (by kernel_rfl)]
    generalize (Tryz.prog.fieldsOf 34).toList = fs at g2 ⊢
    obtain ⟨x, y, z, rfl⟩ : ∃ x y z, fs = [x, y, z] := by
      have hl := congrArg List.length g2
      rw [List.length_map] at hl
      match fs, hl with
      | [x, y, z], _ => exact ⟨x, y, z, rfl⟩
    · clear g1
      simp only [List.map_cons, List.map_nil, List.cons.injEq, Prod.mk.injEq, and_true, bne_iff_ne] at g2
      obtain ⟨⟨n1, t1, o1⟩, ⟨n2, t2, o2⟩, n3, t3, o3⟩ := g2
      cases h1 : a.c == b.c <;> cases h2 : a.l == b.l <;> cases h3 : a.n == b.n <;>
        simp only [Op.eqFields, n1, n2, n3, t1, t2, t3, o1, o2, o3, (q _ _ _).1, (q _ _ _).2.1, (q _ _ _).2.2, i8, h1, h2, h3, if_true, if_false, Bool.not_true, Bool.not_false, Bool.false_eq_true, Sem.run_bind, Sem.run_ite, Sem.run_pure, Result.andThen_ok, ne_eq, not_false_eq_true, Bool.and_true, Bool.and_false, Bool.false_and, Bool.true_and]
  unfold idV
  rw [run_eql_struct, run_equalIn_agg w 9999 36 _ _ f1 (by kernel_rfl)]
  generalize (Tryz.prog.fieldsOf 36).toList = fs at g1 ⊢
  obtain ⟨x, y, rfl⟩ : ∃ x y, fs = [x, y] := by
    have hl := congrArg List.length g1
    rw [List.length_map] at hl
    match fs, hl with
    | [x, y], _ => exact ⟨x, y, rfl⟩
  · clear g2
    simp only [List.map_cons, List.map_nil, List.cons.injEq, Prod.mk.injEq, and_true, bne_iff_ne] at g1
    obtain ⟨⟨n1, t1, o1⟩, n2, t2, o2⟩ := g1
    cases h1 : (a.c == b.c && a.l == b.l && a.n == b.n) <;> cases h2 : a.i == b.i <;>
      simp only [Op.eqFields, n1, n2, t1, t2, o1, o2, p1, p2, p3, p4, S, h1, h2, i9, if_true, if_false, Bool.not_true, Bool.not_false, Bool.false_eq_true, Sem.run_bind, Sem.run_ite, Sem.run_pure, Result.andThen_ok, ne_eq, not_false_eq_true, Bool.and_true, Bool.and_false, Bool.false_and, Bool.true_and]
theorem eqIds_is (a b : Idn) : (a.c == b.c && a.l == b.l && a.n == b.n && a.i == b.i) = decide (a = b) := by
  obtain ⟨a1, a2, a3, a4⟩ := a
  obtain ⟨b1, b2, b3, b4⟩ := b
  simp only [Idn.mk.injEq]
  rw [Bool.eq_iff_iff]
  simp [and_assoc]
theorem exec_eqIds {ρ : Operand → Value} {o : Oper} {w : World} (x y : Operand) (u : TypeId) (a b : Idn) (ho : o.op = .binOp .eql 36 x y u) (hx : ρ x = idV a) (hy : ρ y = idV b) : (execOp ρ o).run Tryz.prog w = .ok (.value (.bool (decide (a = b)))) w := by
  have hg : (eqGuard .eql 36 x y (idV a) (idV b)).run Tryz.prog w = .ok () w := run_eqGuard_agg w .eql 36 x y _ _ (by kernel_rfl)
  simp only [execOp, ho, hx, hy, Sem.run_bind, hg, eqIds, eqIds_is, Result.andThen_ok, Sem.run_pure]

theorem sorted_ext : ∀ (xs ys : List Idn), xs.Pairwise (fun x y => cmpI x y < 0) → ys.Pairwise (fun x y => cmpI x y < 0) → (∀ x, x ∈ xs ↔ x ∈ ys) → xs = ys
  | [], [], _, _, _ => rfl
  | [], y :: ys, _, _, h => absurd ((h y).2 (by simp)) (by simp)
  | x :: xs, [], _, _, h => absurd ((h x).1 (by simp)) (by simp)
  | x :: xs, y :: ys, hx, hy, h => by
    rw [List.pairwise_cons] at hx hy
    have e : x = y := by
      have h1 := (h x).1 (by simp)
      have h2 := (h y).2 (by simp)
      rcases List.mem_cons.1 h1 with e | h1
      · exact e
      rcases List.mem_cons.1 h2 with e | h2
      · exact e.symm
      have a := hy.1 x h1
      have b := hx.1 y h2
      have c := cmpI_trans a b
      rw [cmpI_self] at c
      omega
    subst e
    have := sorted_ext xs ys hx.2 hy.2 (fun z => ⟨fun hz => by
      rcases List.mem_cons.1 ((h z).1 (List.mem_cons_of_mem _ hz)) with e | h1
      · subst e
        have c := hx.1 z hz
        rw [cmpI_self] at c
        omega
      · exact h1, fun hz => by
      rcases List.mem_cons.1 ((h z).2 (List.mem_cons_of_mem _ hz)) with e | h1
      · subst e
        have c := hy.1 z hz
        rw [cmpI_self] at c
        omega
      · exact h1⟩)
    rw [this]
theorem latO_snoc (l : List Idn) (x : Idn) (cl : Int) : latO (l ++ [x]) cl = if x.c = cl then some x else latO l cl := by
  unfold latO
  rw [List.reverse_append, List.reverse_cons, List.reverse_nil, List.nil_append, List.singleton_append, List.find?_cons]
  by_cases h : x.c = cl <;> simp [h]
/-- A slice of ids that came in. -/
def IdsIn (w : World) (v : Value) (l : List Idn) : Prop :=
  ∃ (a : Option Addr) (cap : Nat), v = .slice a l.length cap ∧ l.length ≤ cap ∧ cap ≤ maxLen ∧ (a = none → cap = 0) ∧
    (l ≠ [] → ∃ g off, a = some ⟨g, off, none⟩ ∧ ∀ i (h : i < l.length), w.rangeAt g (off + i * 4) (l[i]'h).cells)
theorem IdsIn.keep {w w' : World} {v : Value} {l : List Idn} (h : IdsIn w v l) (k : Keeps [] w w') : IdsIn w' v l := by
  obtain ⟨a, cap, e, h1, h2, h0, h3⟩ := h
  refine ⟨a, cap, e, h1, h2, h0, fun hne => ?_⟩
  obtain ⟨g, off, e2, hc⟩ := h3 hne
  exact ⟨g, off, e2, fun i hi j u hu => k.cell (hc i hi j u hu) (by simp)⟩
theorem IdsIn.at {w : World} {a : Option Addr} {n cap : Nat} {l : List Idn} (h : IdsIn w (.slice a n cap) l) (i : Nat) (hi : i < l.length) : ∃ g off, a = some ⟨g, off, none⟩ ∧ w.rangeAt g (off + i * 4) (l[i]'hi).cells := by
  obtain ⟨a', c', e, _, _, _, h3⟩ := h
  injection e with e1 _ _
  subst e1
  obtain ⟨g, off, e2, hc⟩ := h3 (by intro e; rw [e] at hi; simp at hi)
  exact ⟨g, off, e2, hc i hi⟩
theorem IdsIn.few {w : World} {v : Value} {l : List Idn} (h : IdsIn w v l) : l.length ≤ maxLen := by
  obtain ⟨a, cap, _, h1, h2, _⟩ := h
  omega
set_option maxHeartbeats 6400000 in
theorem less_any (w : World) (a b : Idn) : Calls Tryz.prog 13 #[idV a, idV b] w fun e w' => e = .returned (.bool (decide (cmpI a b < 0))) ∧ Keeps [] w w' := by
  have KB := hid (((Keeps.refl [] w).alloc (.cells #[.int .i64 a.c, .int .i64 a.l, .int .i64 a.n, .int .i64 a.i] 36)).alloc (.cells #[.int .i64 b.c, .int .i64 b.l, .int .i64 b.n, .int .i64 b.i] 36))
  have HL := hid (cmpI_lt a b)
  unfold idV
  by_cases h1 : a.c = b.c
  case neg =>
    have f1 : (a.c != b.c) = true := by simpa using h1
    have HE := hid (show decide (cmpI a b < 0) = decide (a.c < b.c) by
      by_cases h : a.c < b.c
      · rw [decide_eq_true h, decide_eq_true (HL.out.2 (Or.inl h))]
      · rw [decide_eq_false h, decide_eq_false (fun x => by rcases HL.out.1 x with x | x <;> omega)])
    clear h1
    go_enter Tryz.func13, Tryz.ntmps13
    go_wp2_with fail
    go_ret
    exact ⟨by rw [HE.out] <;> rfl, KB.out⟩
  have f1 : (a.c != b.c) = false := by simpa using h1
  by_cases h2 : a.l = b.l
  case neg =>
    have f2 : (a.l != b.l) = true := by simpa using h2
    have HE := hid (show decide (cmpI a b < 0) = decide (a.l < b.l) by
      by_cases h : a.l < b.l
      · rw [decide_eq_true h, decide_eq_true (HL.out.2 (Or.inr ⟨h1, Or.inl h⟩))]
      · rw [decide_eq_false h, decide_eq_false (fun x => by have := HL.out.1 x; omega)])
    clear h1 h2
    go_enter Tryz.func13, Tryz.ntmps13
    go_wp2_with fail
    go_ret
    exact ⟨by rw [HE.out] <;> rfl, KB.out⟩
  have f2 : (a.l != b.l) = false := by simpa using h2
  by_cases h3 : a.n = b.n
  case neg =>
    have f3 : (a.n != b.n) = true := by simpa using h3
    have HE := hid (show decide (cmpI a b < 0) = decide (a.n < b.n) by
      by_cases h : a.n < b.n
      · rw [decide_eq_true h, decide_eq_true (HL.out.2 (Or.inr ⟨h1, Or.inr ⟨h2, Or.inl h⟩⟩))]
      · rw [decide_eq_false h, decide_eq_false (fun x => by have := HL.out.1 x; omega)])
    clear h1 h2 h3
    go_enter Tryz.func13, Tryz.ntmps13
    go_wp2_with fail
    go_ret
    exact ⟨by rw [HE.out] <;> rfl, KB.out⟩
  have f3 : (a.n != b.n) = false := by simpa using h3
  have HE := hid (show decide (cmpI a b < 0) = decide (a.i < b.i) by
    by_cases h : a.i < b.i
    · rw [decide_eq_true h, decide_eq_true (HL.out.2 (Or.inr ⟨h1, Or.inr ⟨h2, Or.inr ⟨h3, h⟩⟩⟩))]
    · rw [decide_eq_false h, decide_eq_false (fun x => by have := HL.out.1 x; omega)])
  clear h1 h2 h3
  go_enter Tryz.func13, Tryz.ntmps13
  go_wp2_with fail
  go_ret
  exact ⟨by rw [HE.out] <;> rfl, KB.out⟩
section
open Go.Deep Go.ChangeShapes Go.WideShapes Go.ChangeAt
variable {H : Type} {enc : TypeId × Value → H}
theorem idc_of_trod {W : World} {fuel : Nat} {cs : List Value} {x : DataW H × List MemPlace} (hl : cs.length = 4) (h : DataW.trod enc Tryz.prog W 0 (fun _ => true) true fuel 36 cs = some x) : ∃ d : Idn, cs = d.cells := by
  match cs, hl with
  | [c0, c1, c2, c3], _ =>
    obtain ⟨ye, yi, m, e, _, h0, h1⟩ := trod_struct2 Tryz.underlying36 h
    simp only [cellsStripe, cellsInt1, List.drop_zero, List.drop_succ_cons, List.take_succ_cons, List.take_zero, List.take_nil] at h0 h1
    obtain ⟨_, _, _, m2, rfl, _, g0, g1, g2⟩ := trod_struct3 Tryz.underlying34 h0
    simp only [cellsInt1, List.drop_zero, List.drop_succ_cons, List.take_succ_cons, List.take_zero, List.take_nil] at g0 g1 g2
    obtain ⟨z, e0, _, _⟩ := DataW.trod_int Tryz.underlying3 g0
    obtain ⟨y, e1, _, _⟩ := DataW.trod_int Tryz.underlying3 g1
    obtain ⟨u, e2, _, _⟩ := DataW.trod_int Tryz.underlying3 g2
    obtain ⟨v, e3, _, _⟩ := DataW.trod_int Tryz.underlying3 h1
    simp at e0 e1 e2 e3
    subst e0 e1 e2 e3
    exact ⟨⟨z, y, u, v⟩, rfl⟩
theorem ids_of_trod {W : World} {fuel : Nat} {cs : List Value} {x : DataW H × List MemPlace}
    (h : DataW.trod enc Tryz.prog W 0 (fun _ => true) true fuel 39 cs = some x) : ∃ v ds, cs = [v] ∧ IdsIn W v ds := by
  rcases Go.Deep.open_slice Tryz.underlying39 h with ⟨rfl, _⟩ | ⟨a, len, cap, m, n, D, Pl, rfl, _, hl, hm, hmm, rfl, hi⟩
  · exact ⟨_, [], rfl, ⟨none, 0, rfl, by simp, by simp, fun _ => rfl, fun h => absurd rfl h⟩⟩
  · simp only [if_true] at hmm
    subst hmm
    by_cases h0 : len = 0
    · subst h0
      exact ⟨_, [], rfl, ⟨some a, m, rfl, by simp, hm, by simp, fun h => absurd rfl h⟩⟩
    · obtain ⟨g, off, sp⟩ := a
      have hsp : sp = none := by
        obtain ⟨cs0, hc0, _⟩ := hi 0 (by omega)
        rw [cellsId] at hc0
        obtain ⟨_, hl4, hat⟩ := World.cells?_some hc0
        have := hat 0 (by omega)
        rw [List.getElem?_eq_getElem (by omega)] at this
        have hs := World.cell?_spot this
        simpa [Addr.add] using hs
      subst hsp
      obtain ⟨ds, hdl, hda⟩ := list_of (P := fun i (d : Idn) => W.rangeAt g (off + i * 4) (d.cells)) len (fun i hil => by
        obtain ⟨cs', hc1, ht⟩ := hi i (by omega)
        rw [cellsId, Addr.add_lit] at hc1
        obtain ⟨_, hl4b, hat⟩ := World.cells?_some hc1
        have hr : W.rangeAt g (off + i * 4) cs' := fun j u hu => by
          have hj := (List.getElem?_eq_some_iff.1 hu).1
          have := hat j (by omega)
          rw [Addr.add_lit] at this
          rw [this]; exact hu
        obtain ⟨d, rfl⟩ := idc_of_trod hl4b ht
        exact ⟨d, hr⟩)
      exact ⟨_, ds, rfl, ⟨some ⟨g, off, none⟩, m, by rw [hdl], by omega, hm, by simp, fun _ => ⟨g, off, rfl, hda⟩⟩⟩
end
end Go.Proofs.YtnhcfkiejldicaaGreat
