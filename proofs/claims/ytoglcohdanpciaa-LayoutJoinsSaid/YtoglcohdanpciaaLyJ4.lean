/- LyP, LyEq, LyQ, LyR, LyS. -/
import Derived.Test.YtoglcohdanpciaaLyJ3
import Derived.Test.YtoglcohdanpciaaLyJ1
import Derived.Laws.StructEq
/- layout, plainly: fragments looked at, the missing one made again, all joined. -/
namespace Go.Proofs.Ytoglcohdanpciaa
open Go.RowKit Go.Shelf
set_option maxRecDepth 100000
set_option linter.unusedSimpArgs false
set_option linter.unusedVariables false

theorem readL_ok {zs : List Int} (hb : ∀ z ∈ zs, 0 ≤ z ∧ z ≤ 255) (h : (readL zs).2.2 = 0) :
    mayH (readL zs).1 = true ∧ ((readL zs).2.1.length : Int) = longI (readL zs).1.i (readL zs).1.z (readL zs).1.n ∧ (readL zs).2.1 = zs.drop 12 ∧ 12 ≤ zs.length := by
  unfold readL at h ⊢
  by_cases h1 : zs.length < 12
  · rw [if_pos h1] at h; exact absurd h (by decide)
  · rw [if_neg h1] at h ⊢
    by_cases h2 : fitsH (headS13 (zs, 0)).1 zs.length = true
    · rw [if_pos h2]
      unfold fitsH at h2
      rw [Bool.and_eq_true, decide_eq_true_eq] at h2
      refine ⟨h2.1, ?_, rfl, by omega⟩
      simp only [List.length_drop]
      omega
    · rw [if_neg h2] at h; exact absurd h (by decide)
theorem readL_nil : readL [] = (hZ13, [], 2) := readL_short (by decide)
theorem readL_byte {zs : List Int} (hb : ∀ z ∈ zs, 0 ≤ z ∧ z ≤ 255) : ∀ z ∈ (readL zs).2.1, 0 ≤ z ∧ z ≤ 255 := by
  by_cases h : (readL zs).2.2 = 0
  · rw [(readL_ok hb h).2.2.1]
    exact fun z hz => hb z (List.mem_of_mem_drop hz)
  · rw [(readL_no h).2]; simp
theorem readL_len (zs : List Int) : (readL zs).2.1.length ≤ zs.length := by
  unfold readL
  split
  · simp
  · split
    · simp only [List.length_drop]; omega
    · simp

/-- The size that the first one which is there says. -/
def firstZ : List (List Int) → Option Int
  | [] => none
  | l :: r => if l = [] then firstZ r else some (readL l).1.z
theorem firstZ_snoc (ls : List (List Int)) (l : List Int) : firstZ (ls ++ [l]) = if (firstZ ls).isSome then firstZ ls else if l = [] then none else some (readL l).1.z := by
  induction ls with
  | nil => rfl
  | cons a r ih =>
    rw [List.cons_append, firstZ, ih, firstZ]
    by_cases h : a = []
    · rw [if_pos h, if_pos h]
    · rw [if_neg h, if_neg h]; rfl
/-- One that is there, and is not what it should be. -/
def badB (s : Spe) (n : Nat) (ls : List (List Int)) (k : Nat) : Bool :=
  !decide (ls.getD k [] = []) && !(decide ((readL (ls.getD k [])).2.2 = 0) && decide ((readL (ls.getD k [])).1 = ⟨s, k, n, (firstZ (ls.take (k + 1))).getD 0⟩))
def lookBad (s : Spe) (n : Nat) (ls : List (List Int)) : Bool := (List.range ls.length).any (badB s n ls)
def rowsOf (ls : List (List Int)) : List (List Int) := ls.map fun l => (readL l).2.1
def missK (ls : List (List Int)) (k : Nat) : List Nat := (List.range k).filter fun i => decide (ls.getD i [] = [])
def missL (ls : List (List Int)) : List Nat := missK ls ls.length
def zL (ls : List (List Int)) : Int := (firstZ ls).getD 0
theorem missK_succ (ls : List (List Int)) (k : Nat) : missK ls (k + 1) = if ls.getD k [] = [] then missK ls k ++ [k] else missK ls k := by
  unfold missK
  rw [List.range_succ, List.filter_append]
  by_cases h : ls.getD k [] = []
  · rw [if_pos h, List.filter_cons, if_pos (by rw [decide_eq_true h]), List.filter_nil]
  · rw [if_neg h, List.filter_cons, if_neg (by rw [decide_eq_false h]; simp), List.filter_nil, List.append_nil]
theorem missK_len (ls : List (List Int)) (k : Nat) : (missK ls k).length ≤ k := by
  unfold missK
  have := List.length_filter_le (fun i => decide (ls.getD i [] = [])) (List.range k)
  simpa using this
theorem missL_mem {ls : List (List Int)} {i : Nat} : i ∈ missL ls ↔ i < ls.length ∧ ls.getD i [] = [] := by
  unfold missL missK
  rw [List.mem_filter, List.mem_range, decide_eq_true_eq]
/-- All fragments of a stripe, the missing one made of the others; or why not. -/
def wholeL (s : Spe) (ls : List (List Int)) (n : Int) : Except Int (List (List Int) × Int) :=
  if maySv n = true ∧ (ls.length : Int) = n then
    if lookBad s ls.length ls = true then .error 4 else
    match missL ls with
    | [] => if zeroB (xorL (rowsOf ls)) = true then .ok (rowsOf ls, zL ls) else .error 4
    | [i] => .ok ((rowsOf ls).set i (xorN (longN i (zL ls).toNat ls.length) ((rowsOf ls).eraseIdx i)), zL ls)
    | _ => .error 15
  else .error 1
def joinL (s : Spe) (ls : List (List Int)) (n : Int) : List Int × Int :=
  match wholeL s ls n with
  | .ok (rows, _) => ((rows.take (ls.length - 1)).flatten, 0)
  | .error e => ([], e)
def mendL (s : Spe) (ls : List (List Int)) (i n : Int) : List Int × Int :=
  if 0 ≤ i ∧ i < ls.length then
    match wholeL s (ls.set i.toNat []) n with
    | .ok (rows, z) => (headB13 ⟨s, i, n, z⟩ ++ rows.getD i.toNat [], 0)
    | .error e => ([], e)
  else ([], 1)

/-- All that are there are right. -/
structure LookOk (s : Spe) (ls : List (List Int)) : Prop where
  at_ : ∀ k, k < ls.length → ls.getD k [] ≠ [] → (readL (ls.getD k [])).2.2 = 0 ∧ (readL (ls.getD k [])).1 = ⟨s, k, ls.length, zL ls⟩
theorem firstZ_take {ls : List (List Int)} : ∀ (k : Nat) (z : Int), firstZ (ls.take k) = some z → firstZ ls = some z := by
  induction ls with
  | nil => intro k z h; simp at h; exact h
  | cons a r ih =>
    intro k z h
    cases k with
    | zero => simp [firstZ] at h
    | succ k =>
      rw [List.take_succ_cons, firstZ] at h
      rw [firstZ]
      by_cases ha : a = []
      · rw [if_pos ha] at h ⊢
        exact ih k z h
      · rw [if_neg ha] at h ⊢
        exact h
theorem take_getD (ls : List (List Int)) (k : Nat) (h : k < ls.length) : ls.take (k + 1) = ls.take k ++ [ls.getD k []] := by
  rw [List.take_succ_eq_append_getElem h, List.getD_eq_getElem?_getD, List.getElem?_eq_getElem h]
  rfl
theorem firstZ_at {ls : List (List Int)} {k : Nat} (h : k < ls.length) (hne : ls.getD k [] ≠ []) : ∃ z, firstZ (ls.take (k + 1)) = some z := by
  rw [take_getD ls k h, firstZ_snoc]
  cases hf : firstZ (ls.take k) with
  | some z => exact ⟨z, rfl⟩
  | none => exact ⟨(readL (ls.getD k [])).1.z, by rw [if_neg (by simp), if_neg hne]⟩
theorem lookOk_of {s : Spe} {ls : List (List Int)} (h : lookBad s ls.length ls = false) : LookOk s ls := by
  refine ⟨fun k hk hne => ?_⟩
  unfold lookBad at h
  rw [List.any_eq_false] at h
  have hb := h k (by simpa using hk)
  unfold badB at hb
  obtain ⟨z, hz⟩ := firstZ_at hk hne
  have hzL : zL ls = z := by unfold zL; rw [firstZ_take _ _ hz]; rfl
  rw [hz] at hb
  simp only [Option.getD_some, decide_eq_false hne, Bool.not_false, Bool.true_and, Bool.not_eq_true', Bool.not_eq_false, Bool.and_eq_true, decide_eq_true_eq] at hb
  rw [hzL]
  simpa using hb
theorem LookOk.size {s : Spe} {ls : List (List Int)} (h : LookOk s ls) (hb : BytesL ls) {k : Nat} (hk : k < ls.length) (hne : ls.getD k [] ≠ []) :
    mayHv (zL ls) ls.length = true ∧ ((readL (ls.getD k [])).2.1).length = longN k (zL ls).toNat ls.length ∧ mayE s = true := by
  obtain ⟨h1, h2⟩ := h.at_ k hk hne
  have hbk : ∀ z ∈ ls.getD k [], 0 ≤ z ∧ z ≤ 255 := by
    intro z hz
    refine hb (ls.getD k []) ?_ z hz
    rw [List.getD_eq_getElem?_getD, List.getElem?_eq_getElem hk]
    exact List.getElem_mem hk
  obtain ⟨q1, q2, _, _⟩ := readL_ok hbk h1
  rw [h2] at q1 q2
  simp only at q2
  unfold mayH at q1
  rw [Bool.and_eq_true, Bool.and_eq_true] at q1
  obtain ⟨⟨q3, q4'⟩, q5⟩ := q1
  have q4 : mayHv (zL ls) (ls.length : Int) = true := q4'
  obtain ⟨⟨n3, n16⟩, z0, z1⟩ := mayHv_is.1 q4
  refine ⟨q4, ?_, q3⟩
  have e : ((zL ls).toNat : Int) = zL ls := Int.toNat_of_nonneg z0
  have := longI_is (i := k) (z := (zL ls).toNat) (n := ls.length) (by clear q2; omega) (by clear q2; omega)
  rw [e] at this
  rw [this] at q2
  omega
theorem rowsOf_len (ls : List (List Int)) : (rowsOf ls).length = ls.length := by simp [rowsOf]
theorem rowsOf_get {ls : List (List Int)} {k : Nat} (h : k < (rowsOf ls).length) : (rowsOf ls)[k] = (readL (ls.getD k [])).2.1 := by
  have hk : k < ls.length := by rw [rowsOf_len] at h; exact h
  have h' : k < (ls.map fun l => (readL l).2.1).length := h
  show (ls.map fun l => (readL l).2.1)[k]'h' = _
  rw [List.getElem_map, List.getD_eq_getElem?_getD, List.getElem?_eq_getElem hk]
  rfl
theorem rowsOf_byte {ls : List (List Int)} (hb : BytesL ls) : BytesL (rowsOf ls) := by
  intro r hr z hz
  obtain ⟨l, hl, rfl⟩ := List.mem_map.1 hr
  exact readL_byte (hb l hl) z hz
/-- With one missing, the others are long enough. -/
theorem one_long {s : Spe} {ls : List (List Int)} (h : LookOk s ls) (hb : BytesL ls) (h3 : 3 ≤ ls.length) {i : Nat} (hm : missL ls = [i]) :
    i < ls.length ∧ mayHv (zL ls) ls.length = true ∧ mayE s = true ∧ (∀ k, k < ls.length → k ≠ i → ((rowsOf ls).getD k []).length = longN k (zL ls).toNat ls.length) ∧ longN i (zL ls).toNat ls.length ≤ longest ((rowsOf ls).eraseIdx i) := by
  have hi : i ∈ missL ls := by rw [hm]; simp
  obtain ⟨hil, hie⟩ := missL_mem.1 hi
  have hne : ∀ k, k < ls.length → k ≠ i → ls.getD k [] ≠ [] := fun k hk hki he => by
    have : k ∈ missL ls := missL_mem.2 ⟨hk, he⟩
    rw [hm] at this
    simp at this
    exact hki this
  have hlen : ∀ k, k < ls.length → k ≠ i → ((rowsOf ls).getD k []).length = longN k (zL ls).toNat ls.length := fun k hk hki => by
    rw [List.getD_eq_getElem?_getD, List.getElem?_eq_getElem (by rw [rowsOf_len]; exact hk)]
    simp only [Option.getD_some]
    rw [rowsOf_get]
    exact (h.size hb hk (hne k hk hki)).2.1
  obtain ⟨j, hj, hji, hjl⟩ : ∃ j, j < ls.length ∧ j ≠ i ∧ longN j (zL ls).toNat ls.length = eN (zL ls).toNat ls.length := by
    by_cases h0 : i = 0
    · exact ⟨ls.length - 1, by omega, by omega, longN_last _ _⟩
    · exact ⟨0, by omega, by omega, longN_zero _ _⟩
  obtain ⟨q1, _, q3⟩ := h.size hb hj (hne j hj hji)
  refine ⟨hil, q1, q3, hlen, ?_⟩
  have hmem : (rowsOf ls).getD j [] ∈ (rowsOf ls).eraseIdx i := by
    rw [List.mem_eraseIdx_iff_getElem]
    refine ⟨j, by rw [rowsOf_len]; exact hj, hji, ?_⟩
    rw [List.getD_eq_getElem?_getD, List.getElem?_eq_getElem (by rw [rowsOf_len]; exact hj)]
    rfl
  have := le_longest hmem
  rw [hlen j hj hji, hjl] at this
  exact Nat.le_trans (longN_le _ _ _) this
end Go.Proofs.Ytoglcohdanpciaa


/- layout: stripes and heads are compared. -/
namespace Go.Proofs.Ytoglcohdanpciaa
open Go.RowKit
set_option maxRecDepth 100000
set_option linter.unusedSimpArgs false
set_option linter.unusedVariables false

def speV (s : Spe) : Value := .agg #[.int .i64 s.c, .int .i64 s.l, .int .i64 s.n]
theorem speEqIn (d : Nat) (a b : Spe) (w : World) : (Op.equalIn (d + 2) 30 (speV a) (speV b)).run Try.prog w = .ok (a.c == b.c && a.l == b.l && a.n == b.n) w := by
  have f2 : Try.prog.underlying 30 = some (.struct (Try.prog.fieldsOf 30)) := by kernel_rfl
  have q : ∀ (x y z : Int), (∀ w, (part 3 #[.int .i64 x, .int .i64 y, .int .i64 z] 0).run Try.prog w = .ok (.int .i64 x) w) ∧ (∀ w, (part 3 #[.int .i64 x, .int .i64 y, .int .i64 z] 1).run Try.prog w = .ok (.int .i64 y) w) ∧ (∀ w, (part 3 #[.int .i64 x, .int .i64 y, .int .i64 z] 2).run Try.prog w = .ok (.int .i64 z) w) := fun x y z => ⟨fun w => by kernel_rfl, fun w => by kernel_rfl, fun w => by kernel_rfl⟩
  have u : Try.prog.underlying 3 = some (.int .i64) := by kernel_rfl
  have i : ∀ (x y : Int) (w : World), (Op.equalIn (d + 1) 3 (.int .i64 x) (.int .i64 y)).run Try.prog w = .ok (x == y) w := fun x y w => run_equalIn_int w d 3 .i64 .i64 x y u
  have g2 : (Try.prog.fieldsOf 30).toList.map (fun f => (f.name != "_", f.type, f.offset)) = [(true, 3, 0), (true, 3, 1), (true, 3, 2)] := by kernel_rfl
  unfold speV
  rw [run_equalIn_agg w (d + 1) 30 _ _ f2 (by kernel_rfl)]
  generalize (Try.prog.fieldsOf 30).toList = fs at g2 ⊢
  obtain ⟨x, y, z, rfl⟩ : ∃ x y z, fs = [x, y, z] := by
    have hl := congrArg List.length g2
    rw [List.length_map] at hl
    match fs, hl with
    | [x, y, z], _ => exact ⟨x, y, z, rfl⟩
  · simp only [List.map_cons, List.map_nil, List.cons.injEq, Prod.mk.injEq, and_true, bne_iff_ne] at g2
    obtain ⟨⟨n1, t1, o1⟩, ⟨n2, t2, o2⟩, n3, t3, o3⟩ := g2
    cases h1 : a.c == b.c <;> cases h2 : a.l == b.l <;> cases h3 : a.n == b.n <;>
      simp only [Op.eqFields, n1, n2, n3, t1, t2, t3, o1, o2, o3, (q _ _ _).1, (q _ _ _).2.1, (q _ _ _).2.2, i, h1, h2, h3, if_true, if_false, Bool.not_true, Bool.not_false, Bool.false_eq_true, Sem.run_bind, Sem.run_ite, Sem.run_pure, Result.andThen_ok, ne_eq, not_false_eq_true, Bool.and_true, Bool.and_false, Bool.false_and, Bool.true_and]
theorem spe_is (a b : Spe) : (a.c == b.c && a.l == b.l && a.n == b.n) = decide (a = b) := by
  obtain ⟨a1, a2, a3⟩ := a
  obtain ⟨b1, b2, b3⟩ := b
  simp only [Spe.mk.injEq]
  rw [Bool.eq_iff_iff]
  simp [and_assoc]
theorem guardSpe (w : World) (op : BinOp) (x y : Operand) (a b : Spe) : (eqGuard op 30 x y (speV a) (speV b)).run Try.prog w = .ok () w := run_eqGuard_agg w op 30 x y _ _ (by kernel_rfl)
theorem exec_eqSpe {ρ : Operand → Value} {o : Oper} {w : World} (x y : Operand) (u : TypeId) (a b : Spe) (ho : o.op = .binOp .eql 30 x y u) (hx : ρ x = speV a) (hy : ρ y = speV b) : (execOp ρ o).run Try.prog w = .ok (.value (.bool (decide (a = b)))) w := by
  have hg := guardSpe w .eql x y a b
  have hr : (binOp .eql 30 (speV a) (speV b)).run Try.prog w = .ok (.bool (decide (a = b))) w := by
    have := speEqIn 9998 a b w
    unfold speV at this ⊢
    rw [run_eql_struct, this, spe_is]; rfl
  simp only [execOp, ho, hx, hy, Sem.run_bind, hg, hr, Result.andThen_ok, Sem.run_pure]
theorem exec_neqSpe {ρ : Operand → Value} {o : Oper} {w : World} (x y : Operand) (u : TypeId) (a b : Spe) (ho : o.op = .binOp .neq 30 x y u) (hx : ρ x = speV a) (hy : ρ y = speV b) : (execOp ρ o).run Try.prog w = .ok (.value (.bool (!decide (a = b)))) w := by
  have hg := guardSpe w .neq x y a b
  have hr : (binOp .neq 30 (speV a) (speV b)).run Try.prog w = .ok (.bool (!decide (a = b))) w := by
    have := speEqIn 9998 a b w
    unfold speV at this ⊢
    rw [run_neq_struct, this, spe_is]; rfl
  simp only [execOp, ho, hx, hy, Sem.run_bind, hg, hr, Result.andThen_ok, Sem.run_pure]
theorem hdEqIn (d : Nat) (a b : Hd13) (w : World) : (Op.equalIn (d + 3) 33 (hdV13 a) (hdV13 b)).run Try.prog w = .ok (decide (a.s = b.s) && a.i == b.i && a.n == b.n && a.z == b.z) w := by
  have f1 : Try.prog.underlying 33 = some (.struct (Try.prog.fieldsOf 33)) := by kernel_rfl
  have p0 : ∀ (z : Hd13) w, (part 30 #[.int .i64 z.s.c, .int .i64 z.s.l, .int .i64 z.s.n, .int .i64 z.i, .int .i64 z.n, .int .i64 z.z] 0).run Try.prog w = .ok (speV z.s) w := fun z w => by kernel_rfl
  have p3 : ∀ (z : Hd13) w, (part 3 #[.int .i64 z.s.c, .int .i64 z.s.l, .int .i64 z.s.n, .int .i64 z.i, .int .i64 z.n, .int .i64 z.z] 3).run Try.prog w = .ok (.int .i64 z.i) w := fun z w => by kernel_rfl
  have p4 : ∀ (z : Hd13) w, (part 3 #[.int .i64 z.s.c, .int .i64 z.s.l, .int .i64 z.s.n, .int .i64 z.i, .int .i64 z.n, .int .i64 z.z] 4).run Try.prog w = .ok (.int .i64 z.n) w := fun z w => by kernel_rfl
  have p5 : ∀ (z : Hd13) w, (part 3 #[.int .i64 z.s.c, .int .i64 z.s.l, .int .i64 z.s.n, .int .i64 z.i, .int .i64 z.n, .int .i64 z.z] 5).run Try.prog w = .ok (.int .i64 z.z) w := fun z w => by kernel_rfl
  have u : Try.prog.underlying 3 = some (.int .i64) := by kernel_rfl
  have i : ∀ (x y : Int) (w : World), (Op.equalIn (d + 2) 3 (.int .i64 x) (.int .i64 y)).run Try.prog w = .ok (x == y) w := fun x y w => run_equalIn_int w (d + 1) 3 .i64 .i64 x y u
  have S : ∀ w, (Op.equalIn (d + 2) 30 (speV a.s) (speV b.s)).run Try.prog w = .ok (decide (a.s = b.s)) w := fun w => by rw [speEqIn d a.s b.s w, spe_is]
  have g1 : (Try.prog.fieldsOf 33).toList.map (fun f => (f.name != "_", f.type, f.offset)) = [(true, 30, 0), (true, 3, 3), (true, 3, 4), (true, 3, 5)] := by kernel_rfl
  unfold hdV13
  rw [run_equalIn_agg w (d + 2) 33 _ _ f1 (by kernel_rfl)]
  generalize (Try.prog.fieldsOf 33).toList = fs at g1 ⊢
  obtain ⟨x, y, v, t, rfl⟩ : ∃ x y v t, fs = [x, y, v, t] := by
    have hl := congrArg List.length g1
    rw [List.length_map] at hl
    match fs, hl with
    | [x, y, v, t], _ => exact ⟨x, y, v, t, rfl⟩
  · simp only [List.map_cons, List.map_nil, List.cons.injEq, Prod.mk.injEq, and_true, bne_iff_ne] at g1
    obtain ⟨⟨n1, t1, o1⟩, ⟨n2, t2, o2⟩, ⟨n3, t3, o3⟩, n4, t4, o4⟩ := g1
    cases h1 : decide (a.s = b.s) <;> cases h2 : a.i == b.i <;> cases h3 : a.n == b.n <;> cases h4 : a.z == b.z <;>
      simp only [Op.eqFields, n1, n2, n3, n4, t1, t2, t3, t4, o1, o2, o3, o4, p0, p3, p4, p5, S, h1, h2, h3, h4, i, if_true, if_false, Bool.not_true, Bool.not_false, Bool.false_eq_true, Sem.run_bind, Sem.run_ite, Sem.run_pure, Result.andThen_ok, ne_eq, not_false_eq_true, Bool.and_true, Bool.and_false, Bool.false_and, Bool.true_and]
theorem hd_is (a b : Hd13) : (decide (a.s = b.s) && a.i == b.i && a.n == b.n && a.z == b.z) = decide (a = b) := by
  obtain ⟨a1, a2, a3, a4⟩ := a
  obtain ⟨b1, b2, b3, b4⟩ := b
  simp only [Hd13.mk.injEq]
  rw [Bool.eq_iff_iff]
  simp [and_assoc]
theorem guardHd (w : World) (op : BinOp) (x y : Operand) (a b : Hd13) : (eqGuard op 33 x y (hdV13 a) (hdV13 b)).run Try.prog w = .ok () w := run_eqGuard_agg w op 33 x y _ _ (by kernel_rfl)
theorem exec_neqHd {ρ : Operand → Value} {o : Oper} {w : World} (x y : Operand) (u : TypeId) (a b : Hd13) (ho : o.op = .binOp .neq 33 x y u) (hx : ρ x = hdV13 a) (hy : ρ y = hdV13 b) : (execOp ρ o).run Try.prog w = .ok (.value (.bool (!decide (a = b)))) w := by
  have hg := guardHd w .neq x y a b
  have hr : (binOp .neq 33 (hdV13 a) (hdV13 b)).run Try.prog w = .ok (.bool (!decide (a = b))) w := by
    have := hdEqIn 9997 a b w
    unfold hdV13 at this ⊢
    rw [run_neq_struct, this, hd_is]; rfl
  simp only [execOp, ho, hx, hy, Sem.run_bind, hg, hr, Result.andThen_ok, Sem.run_pure]
end Go.Proofs.Ytoglcohdanpciaa


/- layout: the closure that looks at one fragment. -/
namespace Go.Proofs.Ytoglcohdanpciaa
open Go.RowKit Go.Shelf
set_option maxRecDepth 100000
set_option linter.unusedSimpArgs false
set_option linter.unusedVariables false

/-- append onto an own row of numbers: the row is the old one, or new. -/
theorem append_int (w : World) (B : Nat) (ty : TypeId) (v : Value) (xs : List Value) (n : Nat) (hown : w.ownsRow B 3 1 v n xs) (x : Int) (b : Nat) (hx : w.cell? ⟨b, 0, none⟩ = some (.int .i64 x)) (hn : n ≤ 1000) (hB : B ≤ w.heap.size) :
    ∃ a c w', (Builtin.append_ #[178, 178] ty #[v, .slice (some ⟨b, 0, none⟩) 1 1]).run Try.prog w = .ok (.slice a (n + 1) c) w' ∧ w'.ownsRow B 3 1 (.slice a (n + 1) c) (n + 1) (xs ++ [.int .i64 x]) ∧ w.grownBy w' v.ownBlock ∧ NewRow w v (.slice a (n + 1) c) := by
  obtain ⟨i0, hi, hz0, hz1, hz2⟩ := info_parts infoT3
  have hcell : ∀ j u, ([.int .i64 x] : List Value)[j]? = some u → w.cell? ((⟨b, 0, none⟩ : Addr).add j) = some u := by
    intro j u hu
    rw [Addr.add_lit]
    match j, hu with
    | 0, hu => simp at hu; subst hu; exact hx
  obtain ⟨v', w', hr, ho, hg, _⟩ := run_append_own (P := Try.prog) w B 178 ty 3 i0 (.int .i64 0) 1 8 Try.underlying178 hi hz0 hz1 hz2 rfl (by omega) v n xs hown ⟨b, 0, none⟩ 1 1 [.int .i64 x] rfl hcell (by simp [Value.oneCell']) (by unfold maxLen; omega) (by omega) hB
  obtain ⟨a, c, rfl⟩ := ownsRow_slice ho
  refine ⟨a, c, w', hr, ho, hg, ?_⟩
  rcases hown.2 with ⟨rfl, rfl⟩ | ⟨g, cap, cur, rfl, _, hgg, hnc, _, hcs, htake⟩
  · right
    have hx0 : xs = [] := List.eq_nil_of_length_eq_zero (by simpa using hown.1)
    subst hx0
    obtain ⟨v2, w2, hr2, ho2, _⟩ := run_append_own (P := Try.prog) w w.heap.size 178 ty 3 i0 (.int .i64 0) 1 8 Try.underlying178 hi hz0 hz1 hz2 rfl (by omega) (.slice none 0 0) 0 [] (World.ownsRow_nil _ _ _ _) ⟨b, 0, none⟩ 1 1 [.int .i64 x] rfl hcell (by simp [Value.oneCell']) (by unfold maxLen; omega) (by omega) (Nat.le_refl _)
    rw [hr] at hr2
    injection hr2 with e1 e2
    subst e1; subst e2
    exact fun k hk => (ho2.lt k hk).1
  · by_cases hroom : n + 1 ≤ cap
    · left
      have hr2 := run_append_room (P := Try.prog) w 178 ty 3 i0 Try.underlying178 hi g n cap cur hgg ⟨b, 0, none⟩ 1 1 [.int .i64 x] (by rw [hz1]; rfl) hcell (by simp [Value.oneCell']) hroom (by rw [hz1, hcs]; simp; omega)
      rw [hr] at hr2
      injection hr2 with e1 e2
      rw [e1]; rfl
    · right
      have hr2 := run_append_grow (P := Try.prog) w 178 ty 3 i0 (.int .i64 0) Try.underlying178 hi hz0 ⟨g, 0, none⟩ n cap xs (by rw [hz1]; exact hown.1) (hown.cells (g := g) rfl) ⟨b, 0, none⟩ 1 1 [.int .i64 x] (by rw [hz1]; rfl) hcell (by omega) (by omega) (growslice_fits (by omega) (by rw [hz2]; omega))
      rw [hr] at hr2
      injection hr2 with e1 e2
      intro k hk
      rw [e1] at hk
      simp [Value.ownBlock] at hk
      omega
/-- What looking knows behind k of the fragments. -/
structure LkI (w0 w : World) (bm bt bz : Nat) (ls : List (List Int)) (k : Nat) (F : List Nat) (W : World) : Prop where
  ex : ∃ mv, F = bm :: bt :: bz :: mv.ownBlock.toList ∧ W.heap[bm]? = some (.cells #[mv] 178 (0, 0)) ∧ W.ownsRow (w.heap.size + 1) 3 1 mv (missK ls k).length ((missK ls k).map fun (i : Nat) => Value.int .i64 (i : Int))
  told : W.heap[bt]? = some (.cells #[.bool (firstZ (ls.take k)).isSome] 4 (0, 0))
  size : W.heap[bz]? = some (.cells #[.int .i64 ((firstZ (ls.take k)).getD 0)] 3 (0, 0))
  since : Keeps [bm, bt, bz, w.heap.size] w W
  old : Keeps [] w0 W
/-- Where the closure's boxes lie. -/
structure LkB (w0 w : World) (bm bt bz bs bn bf : Nat) (s : Spe) (n : Nat) (fv : Value) (ls : List (List Int)) : Prop where
  k0 : Keeps [] w0 w
  o : w0.heap.size ≤ bs ∧ bs < bf ∧ bf < bz ∧ bz < bm ∧ bm < bn ∧ bn < bt ∧ bt < w.heap.size
  cs : w.heap[bs]? = some (.cells #[.int .i64 s.c, .int .i64 s.l, .int .i64 s.n] 30 (0, 0))
  cf : w.heap[bf]? = some (.cells #[fv] 26 (0, 0))
  cn : w.heap[bn]? = some (.cells #[.int .i64 (n : Int)] 3 (0, 0))
  rs : RsAt w0 fv ls
  len : ls.length = n
theorem RsAt.keepB {w w' : World} {v : Value} {ls : List (List Int)} {M : List Nat} (h : RsAt w v ls) (k : Keeps M w w') (hM : ∀ b ∈ M, w.heap.size ≤ b) : RsAt w' v ls :=
  h.keep (k.mono (fun i hi hm => absurd (hM i hm) (by omega)))
theorem LkI.step {w0 w : World} {bm bt bz bs bn bf : Nat} {s : Spe} {n : Nat} {fv : Value} {ls : List (List Int)} (hB : LkB w0 w bm bt bz bs bn bf s n fv ls) :
    ∀ k F W W', LkI w0 w bm bt bz ls k F W → Keeps [w.heap.size] W W' → LkI w0 w bm bt bz ls k F W' := fun k F W W' h kk => by
  obtain ⟨o1, o2, o3, o4, o5, o6, o7⟩ := hB.o
  obtain ⟨mv, e, hb, ho⟩ := h.ex
  have hne : ∀ b, b < w.heap.size → b ∉ [w.heap.size] := fun b hb => by simp; omega
  refine ⟨⟨mv, e, (kk.block bm (lt_of_block hb) (hne _ (by omega))).trans hb, ownsRow_kept' ho kk (fun g hg => ?_)⟩, (kk.block bt (lt_of_block h.told) (hne _ o7)).trans h.told, (kk.block bz (lt_of_block h.size) (hne _ (by omega))).trans h.size, h.since.trans (kk.mono (fun i _ hm => by simp at hm; simp [hm])), h.old.trans' kk (fun i hi hm => by simp at hm; have := hB.k0.size; omega)⟩
  have := (ho.lt g hg).1
  simp
  omega
set_option maxHeartbeats 25600000 in
theorem lookC_any {w0 w : World} {bm bt bz bs bn bf : Nat} {s : Spe} {n : Nat} {fv : Value} {ls : List (List Int)} (hB : LkB w0 w bm bt bz bs bn bf s n fv ls) (hn : n ≤ 16) (hfew : ∀ l ∈ ls, l.length ≤ 35184372088832)
    (k : Nat) (F : List Nat) (W : World) (hk : k < n) (hI : LkI w0 w bm bt bz ls k F W) (hgt : w.heap.size < W.heap.size) :
    Calls Try.prog 164 (#[.int .i64 (k : Int)] ++ #[.pointer (some ⟨bf, 0, none⟩), .pointer (some ⟨bm, 0, none⟩), .pointer (some ⟨bt, 0, none⟩), .pointer (some ⟨bz, 0, none⟩), .pointer (some ⟨bs, 0, none⟩), .pointer (some ⟨bn, 0, none⟩)]) W
      (CPost w.heap.size (LkI w0 w bm bt bz ls) (fun i => (readL (ls.getD i [])).2.1) (fun i => badB s n ls i = true) k F W) := by
  obtain ⟨o1, o2, o3, o4, o5, o6, o7⟩ := hB.o
  have OO := hid hB.o
  have hlen := hB.len
  obtain ⟨mv, hF, hm, hown⟩ := hI.ex
  obtain ⟨g, off, cap, u, hfv, cu, ru, lu, hcap⟩ := (hB.rs.keep hI.old).at (by rw [hlen]; exact hk)
  subst hfv
  rw [hlen] at hcap
  have hmem : ls.getD k [] ∈ ls := by
    rw [List.getD_eq_getElem?_getD, List.getElem?_eq_getElem (by omega)]
    exact List.getElem_mem _
  have FEW := hid (hfew _ hmem)
  obtain ⟨l, hl⟩ : ∃ l, l = ls.getD k [] := ⟨_, rfl⟩
  rw [← hl] at ru lu FEW
  have HL := hid hl
  obtain ⟨ua, uc, rfl, _⟩ := id ru
  have nb : ∀ b, b < w.heap.size → b ≠ bm → b ≠ bt → b ≠ bz → b ∉ [bm, bt, bz, w.heap.size] := fun b h1 h2 h3 h4 => by simp; omega
  have CF := hid ((hI.since.block bf (by omega) (nb _ (by omega) (by omega) (by omega) (by omega))).trans hB.cf)
  have CS := hid ((hI.since.block bs (by omega) (nb _ (by omega) (by omega) (by omega) (by omega))).trans hB.cs)
  have CN := hid ((hI.since.block bn (by omega) (nb _ (by omega) (by omega) (by omega) (by omega))).trans hB.cn)
  have CM := hid hm
  have CT := hid hI.told
  have CZ := hid hI.size
  have OW := hid hown
  have SI := hid hI.since
  have OLD := hid hI.old
  have W0 := hid hB.k0.size
  have RU := hid ru
  have GT := hid hgt
  have HFF := hid hF
  have cf := (five_cells CF.out 0).1
  simp only [List.getElem?_toArray, List.getElem?_cons_zero] at cf
  rw [hlen] at cf
  have TK := hid (take_getD ls k (by omega))
  have HB := hid hB
  have HLEN := hid hlen
  have hmv : ∃ a c, mv = .slice a (missK ls k).length c := ownsRow_slice hown
  obtain ⟨ma, mc, rfl⟩ := hmv
  clear hI hB hm hown ru hgt hF hlen hmem hl nb
  simp only [List.push_toArray, List.append_toArray, List.nil_append, List.cons_append]
  by_cases h0 : l = []
  · have H0 := hid h0
    have hl0 : (l.length : Int) = 0 := by rw [h0]; rfl
    have hl0b : ((l.length : Int) == 0) = true := by simpa using hl0
    have cm := (five_cells CM.out 0).1
    simp only [List.getElem?_toArray, List.getElem?_cons_zero] at cm
    have ka : Keeps [] W (W.alloc (.cells #[.int .i64 (k : Int)] 3)) := (Keeps.refl [] W).alloc _
    have hnew := heap_alloc_new W (.cells #[.int .i64 (k : Int)] 3)
    obtain ⟨a', c', w2, hrun, own2, gr2, nr2⟩ := append_int _ (w.heap.size + 1) 178 (.slice ma (missK ls k).length mc) _ _ (OW.out.alloc (.cells #[.int .i64 (k : Int)] 3)) k W.heap.size (by rw [cell_of_row _ _ _ _ _ _ hnew]; rfl) (by have := missK_len ls k; omega) (by simp; have := GT.out; omega)
    have RUN := hid hrun
    have hob : ∀ b, (Value.slice ma (missK ls k).length mc).ownBlock = some b → w.heap.size + 1 ≤ b ∧ b < W.heap.size := fun b hb => (OW.out.lt b hb)
    have bm2 : w2.heap[bm]? = some (.cells #[.slice ma (missK ls k).length mc] 178 (0, 0)) := by
      rw [gr2.block bm (by simp; have := lt_of_block CM.out; omega) (fun e => by have := hob bm e.symm; omega), ka.block bm (lt_of_block CM.out) (by simp)]
      exact CM.out
    have BM2 := hid bm2
    obtain ⟨cb, fb⟩ := five_cells bm2 0
    simp only [List.getElem?_toArray, List.getElem?_cons_zero] at cb
    have k2 : Keeps (Value.slice ma (missK ls k).length mc).ownBlock.toList W w2 := (ka.mono (by simp)).grown gr2 (fun b hb => .inl (by rw [hb]; simp))
    have K2 := hid k2
    have OWN2 := hid own2
    have NR := hid nr2
    have HOB := hid hob
    clear hrun bm2 own2 gr2 nr2 k2 hob hnew ka
    go_enter Try.func164, Try.ntmps164
    go_wp2_with (first | (refine wpList_is rfl _ _ (exec_oneInt _ (k : Int) rfl rfl) ?_) | (refine wpList_is rfl _ _ (exec_appendT 178 _ _ rfl rfl rfl RUN.out) ?_) | fail)
    go_ret
    have sk : Keeps [bm] w2 (w2.setCell ⟨bm, 0, none⟩ (.slice a' ((missK ls k).length + 1) c')) := set_keep
    have k3 : Keeps (bm :: (Value.slice ma (missK ls k).length mc).ownBlock.toList) W (w2.setCell ⟨bm, 0, none⟩ (.slice a' ((missK ls k).length + 1) c')) := (K2.out.mono (fun i _ hm => by simp [hm])).trans (sk.mono (fun i _ hm => by simp at hm; simp [hm]))
    have bm3 := set_five (i := 0) BM2.out (.slice a' ((missK ls k).length + 1) c')
    have obn : ∀ b ∈ (Value.slice ma (missK ls k).length mc).ownBlock.toList, w.heap.size + 1 ≤ b := fun b hb => (HOB.out b (by simpa using hb)).1
    have own3 := ownsRow_setCell_other (a := ⟨bm, 0, none⟩) OWN2.out (fun e => by have := (OWN2.out.lt _ e).1; simp at this; omega) (.slice a' ((missK ls k).length + 1) c')
    have nt : ∀ b, b < w.heap.size → b ≠ bm → b ∉ bm :: (Value.slice ma (missK ls k).length mc).ownBlock.toList := fun b h1 h2 hm => by
      rcases List.mem_cons.1 hm with h | h
      · exact h2 h
      · have := obn b h; omega
    have hms : missK ls (k + 1) = missK ls k ++ [k] := by rw [missK_succ, if_pos (by rw [← HL.out]; exact H0.out)]
    have hfz : firstZ (ls.take (k + 1)) = firstZ (ls.take k) := by
      rw [TK.out, firstZ_snoc, ← HL.out, if_pos H0.out]
      cases firstZ (ls.take k) <;> rfl
    have hrow : (readL (ls.getD k [])).2.1 = [] := by rw [← HL.out, H0.out, readL_nil]
    refine .inl ⟨.slice none 0 0, bm :: bt :: bz :: (Value.slice a' ((missK ls k).length + 1) c').ownBlock.toList, rfl, ?_, ?_, ?_, ?_, ⟨⟨.slice a' ((missK ls k).length + 1) c', rfl, bm3, ?_⟩, ?_, ?_, ?_, ?_⟩, ?_, ?_⟩
    · show RowAt _ _ (readL (ls.getD k [])).2.1
      rw [hrow]; exact RowAt.nil _
    · show (readL (ls.getD k [])).2.1.length ≤ _
      rw [hrow]; simp
    · intro ad n' c e hne
      exact absurd hrow hne
    · rw [HFF.out]
      exact k3.mono (fun i _ hm => by
        rcases List.mem_cons.1 hm with h | h
        · simp [h]
        · simp only [List.mem_cons]; exact .inr (.inr (.inr h)))
    · rw [hms, List.map_append, List.length_append]
      exact own3
    · rw [hfz]; exact (k3.block bt (lt_of_block CT.out) (nt bt (by have := OO.out; omega) (by have := OO.out; omega))).trans CT.out
    · rw [hfz]; exact (k3.block bz (lt_of_block CZ.out) (nt bz (by have := OO.out; omega) (by have := OO.out; omega))).trans CZ.out
    · exact SI.out.trans' k3 (fun i hi hm => by
        rcases List.mem_cons.1 hm with h | h
        · simp [h]
        · have := obn i h; omega)
    · exact OLD.out.trans' k3 (fun i hi hm => by
        rcases List.mem_cons.1 hm with h | h
        · have := OO.out; omega
        · have := obn i h; have := W0.out; omega)
    · intro b hb
      simp only [List.mem_cons] at hb
      rw [HFF.out]
      rcases hb with h | h | h | h
      · left; simp [h]
      · left; simp [h]
      · left; simp [h]
      · rcases NR.out with e | e
        · left; rw [e] at h; simp only [List.mem_cons]; exact .inr (.inr (.inr h))
        · right
          have := e b (by simpa using h)
          rw [World.size_alloc] at this
          omega
    · show ¬ badB s n ls k = true
      unfold badB
      rw [← HL.out, decide_eq_true H0.out]
      simp
  · have H0 := hid h0
    have hl0 : ¬ (l.length : Int) = 0 := fun e => h0 (List.eq_nil_of_length_eq_zero (by omega))
    have hl0b : ((l.length : Int) == 0) = false := by simpa using hl0
    obtain ⟨h, row, why, hr⟩ : ∃ h row why, readL l = (h, row, why) := ⟨_, _, _, rfl⟩
    have A := lRead_any W (.slice ua l.length uc) l RU.out FEW.out
    have NO := hid (@readL_no l)
    rw [hr] at A NO
    have HRD := hid hr
    have HMS := hid (show missK ls (k + 1) = missK ls k by rw [missK_succ, if_neg (by rw [← HL.out]; exact H0.out)])
    clear h0 hl0 hr
    have go1 : True := trivial
    go_enter Try.func164, Try.ntmps164
    go_wp2_with fail
    refine A.mono ?_
    rintro e w1 ⟨k1, ra, rc, rfl, r1, r2⟩
    simp only at r1 r2
    have kb : Keeps [] w1 (w1.alloc (.cells h.cells.toArray 33)) := (Keeps.refl [] w1).alloc _
    have K2 := hid (k1.trans kb)
    have HQ := hid (heap_alloc_new w1 (.cells h.cells.toArray 33))
    have SQ := hid (show W.heap.size ≤ w1.heap.size from k1.size)
    have R2 := hid (r1.keep kb (by intro _ _ _ _ _; simp))
    have N2 := hid r2
    have LQ := hid (show w1.heap.size < (w1.alloc (.cells h.cells.toArray 33)).heap.size by simp)
    obtain ⟨w2, hw2⟩ : ∃ x, x = w1.alloc (.cells h.cells.toArray 33) := ⟨_, rfl⟩
    obtain ⟨q, hq⟩ : ∃ q, q = w1.heap.size := ⟨_, rfl⟩
    rw [← hw2] at K2 HQ R2 LQ
    rw [← hq] at HQ SQ LQ
    have HW2 := hid hw2
    have HQQ := hid hq
    clear A k1 r1 r2 kb hw2 hq cf cu
    have c2t := (five_cells ((K2.out.block bt (lt_of_block CT.out) (by simp)).trans CT.out) 0).1
    simp only [List.getElem?_toArray, List.getElem?_cons_zero] at c2t
    cases hf : firstZ (ls.take k) with
    | some z0 =>
      have HF := hid hf
      have HFZ := hid (show firstZ (ls.take (k + 1)) = some z0 by rw [TK.out, firstZ_snoc, hf]; rfl)
      rw [hf] at c2t
      simp only [Option.isSome_some] at c2t
      clear hf
      have II := hid (show LkI w0 w bm bt bz ls (k + 1) F w2 from ⟨⟨.slice ma (missK ls k).length mc, HFF.out, (K2.out.block bm (lt_of_block CM.out) (by simp)).trans CM.out, by rw [HMS.out]; exact ownsRow_kept' OW.out K2.out (by simp)⟩,
        by rw [HFZ.out]; have := CT.out; rw [HF.out] at this; exact (K2.out.block bt (lt_of_block CT.out) (by simp)).trans this, by rw [HFZ.out]; have := CZ.out; rw [HF.out] at this; exact (K2.out.block bz (lt_of_block CZ.out) (by simp)).trans this, SI.out.trans (K2.out.mono (by simp)), OLD.out.trans K2.out⟩)
      have KF := hid (K2.out.mono (S' := F) (by simp))
      have cz := (five_cells II.out.size 0).1
      rw [HFZ.out] at cz
      have cn := (five_cells ((K2.out.block bn (lt_of_block CN.out) (by simp)).trans CN.out) 0).1
      simp only [List.getElem?_toArray, List.getElem?_cons_zero, Option.getD_some] at cz cn
      have RS3 := hid (range_cells (cs := s.cells) ((K2.out.block bs (lt_of_block CS.out) (by simp)).trans CS.out))
      have RQ3 := hid (range_cells (cs := h.cells) HQ.out)
      have RR := R2
      have OFFN := hid (show Off (w.heap.size :: F) (.slice ra row.length rc) row from off_new13 N2.out (fun b hb => by
        have := SQ.out
        have := HQQ.out
        simp only [List.mem_cons] at hb
        rw [HFF.out] at hb
        simp only [List.mem_cons] at hb
        rcases hb with h | h | h | h | h
        · have := GT.out; omega
        · have := OO.out; have := GT.out; omega
        · have := OO.out; have := GT.out; omega
        · have := OO.out; have := GT.out; omega
        · have := (OW.out.lt b (by simpa using h)).2; omega))
      by_cases hw : why = 0
      · have HW := hid hw
        have hwb : (why != 0) = false := by simpa using hw
        cases hh : decide (h = (⟨s, k, n, z0⟩ : Hd13)) with
        | true =>
          have HH := hid hh
          clear hw hh
          go_wp2_with (first | go_big_skip | (refine wpList_is rfl _ _ (exec_alloc 33 #[.int .i64 0, .int .i64 0, .int .i64 0, .int .i64 0, .int .i64 0, .int .i64 0] iHead rfl) ?_) | (refine wpList_noval rfl _ (exec_storeNew 33 _ _ rfl w1 #[.int .i64 0, .int .i64 0, .int .i64 0, .int .i64 0, .int .i64 0, .int .i64 0] h.cells.toArray rfl rfl rfl iHead rfl (hd_one h)) ?_; rw [← HW2.out]; try rw [← HQQ.out]) | (refine wpList_isW rfl _ _ (exec_load _ _ _ _ rfl rfl (loadHd _ q 0 h RQ3.out)) ?_) | (refine wpList_isW rfl _ _ (exec_load _ _ _ _ rfl rfl (loadSpe _ bs 0 s RS3.out)) ?_) | (refine wpList_isW rfl _ _ (exec_buildHd _ _ _ _ rfl s k n (z0) rfl rfl rfl rfl) ?_) | (refine wpList_isW rfl _ _ ((exec_neqHd _ _ _ h ⟨s, k, n, z0⟩ rfl rfl rfl).trans (by rw [HH.out])) ?_) | fail)
          go_ret
          refine .inl ⟨.slice ra row.length rc, F, rfl, ?_, ?_, ?_, KF.out, II.out, fun b hb => .inl hb, ?_⟩
          · show RowAt _ _ (readL (ls.getD k [])).2.1
            rw [← HL.out, HRD.out]; exact RR.out
          · show (readL (ls.getD k [])).2.1.length ≤ _
            have := readL_len l; rw [← HL.out, HRD.out]; rw [HRD.out] at this; have := FEW.out; simp only at *; omega
          · show Off _ _ (readL (ls.getD k [])).2.1
            rw [← HL.out, HRD.out]
            exact OFFN.out
          · show ¬ badB s n ls k = true
            unfold badB
            rw [← HL.out, HFZ.out, HRD.out, decide_eq_true HW.out]
            simp only [Option.getD_some]
            rw [HH.out]; simp
        | false =>
          have HH := hid hh
          clear hw hh
          go_wp2_with (first | go_big_skip | (refine wpList_is rfl _ _ (exec_alloc 33 #[.int .i64 0, .int .i64 0, .int .i64 0, .int .i64 0, .int .i64 0, .int .i64 0] iHead rfl) ?_) | (refine wpList_noval rfl _ (exec_storeNew 33 _ _ rfl w1 #[.int .i64 0, .int .i64 0, .int .i64 0, .int .i64 0, .int .i64 0, .int .i64 0] h.cells.toArray rfl rfl rfl iHead rfl (hd_one h)) ?_; rw [← HW2.out]; try rw [← HQQ.out]) | (refine wpList_isW rfl _ _ (exec_load _ _ _ _ rfl rfl (loadHd _ q 0 h RQ3.out)) ?_) | (refine wpList_isW rfl _ _ (exec_load _ _ _ _ rfl rfl (loadSpe _ bs 0 s RS3.out)) ?_) | (refine wpList_isW rfl _ _ (exec_buildHd _ _ _ _ rfl s k n (z0) rfl rfl rfl rfl) ?_) | (refine wpList_isW rfl _ _ ((exec_neqHd _ _ _ h ⟨s, k, n, z0⟩ rfl rfl rfl).trans (by rw [HH.out])) ?_) | fail)
          refine ⟨rfl, .inr ⟨?_, rfl, KF.out⟩⟩
          show badB s n ls k = true
          unfold badB
          rw [← HL.out, HFZ.out, HRD.out, decide_eq_false H0.out]
          simp only [Option.getD_some]
          rw [HH.out]; simp
      · have HW := hid hw
        have hwb : (why != 0) = true := by simpa using hw
        clear hw
        go_wp2_with (first | go_big_skip | (refine wpList_is rfl _ _ (exec_alloc 33 #[.int .i64 0, .int .i64 0, .int .i64 0, .int .i64 0, .int .i64 0, .int .i64 0] iHead rfl) ?_) | (refine wpList_noval rfl _ (exec_storeNew 33 _ _ rfl w1 #[.int .i64 0, .int .i64 0, .int .i64 0, .int .i64 0, .int .i64 0, .int .i64 0] h.cells.toArray rfl rfl rfl iHead rfl (hd_one h)) ?_; rw [← HW2.out]; try rw [← HQQ.out]) | fail)
        refine ⟨rfl, .inr ⟨?_, rfl, KF.out⟩⟩
        show badB s n ls k = true
        unfold badB
        rw [← HL.out, HRD.out, decide_eq_false H0.out, decide_eq_false HW.out]
        simp
    | none =>
      have HF := hid hf
      have HFZ := hid (show firstZ (ls.take (k + 1)) = some h.z by rw [TK.out, firstZ_snoc, hf, ← HL.out, if_neg H0.out, HRD.out]; rfl)
      rw [hf] at c2t
      simp only [Option.isSome_none] at c2t
      clear hf
      have ch := (five_cells HQ.out 5).1
      have chz : w2.cell? ⟨q, 5, none⟩ = some (.int .i64 h.z) := ch
      have bz2 := (K2.out.block bz (lt_of_block CZ.out) (by simp)).trans CZ.out
      have bt2 := (K2.out.block bt (lt_of_block CT.out) (by simp)).trans CT.out
      obtain ⟨czc, czf⟩ := five_cells bz2 0
      obtain ⟨ctc, ctf⟩ := five_cells bt2 0
      simp only [List.getElem?_toArray, List.getElem?_cons_zero] at czc ctc
      have sk1 : Keeps [bz] w2 (w2.setCell ⟨bz, 0, none⟩ (.int .i64 h.z)) := set_keep
      have sk2 : Keeps [bt] (w2.setCell ⟨bz, 0, none⟩ (.int .i64 h.z)) ((w2.setCell ⟨bz, 0, none⟩ (.int .i64 h.z)).setCell ⟨bt, 0, none⟩ (.bool true)) := set_keep
      have z3 := (sk2.block bz (by have := lt_of_block bz2; have := sk1.size; omega) (by have := OO.out; simp; omega)).trans (set_five (i := 0) bz2 (.int .i64 h.z))
      have t3 := set_five (i := 0) ((sk1.block bt (lt_of_block bt2) (by have := OO.out; simp; omega)).trans bt2) (.bool true)
      have ctc1 : (w2.setCell ⟨bz, 0, none⟩ (.int .i64 h.z)).frozen? ⟨bt, 0, none⟩ = false := (five_cells ((sk1.block bt (lt_of_block bt2) (by have := OO.out; simp; omega)).trans bt2) 0).2
      have ctc2 := (five_cells ((sk1.block bt (lt_of_block bt2) (by have := OO.out; simp; omega)).trans bt2) 0).1
      simp only [List.getElem?_toArray, List.getElem?_cons_zero] at ctc2
      have k23 : Keeps [bz, bt] w2 ((w2.setCell ⟨bz, 0, none⟩ (.int .i64 h.z)).setCell ⟨bt, 0, none⟩ (.bool true)) := (sk1.mono (fun i _ hm => by simp at hm; simp [hm])).trans (sk2.mono (fun i _ hm => by simp at hm; simp [hm]))
      have kW3 : Keeps [bz, bt] W ((w2.setCell ⟨bz, 0, none⟩ (.int .i64 h.z)).setCell ⟨bt, 0, none⟩ (.bool true)) := (K2.out.mono (by simp)).trans k23
      obtain ⟨w3, hw3⟩ : ∃ x, x = (w2.setCell ⟨bz, 0, none⟩ (.int .i64 h.z)).setCell ⟨bt, 0, none⟩ (.bool true) := ⟨_, rfl⟩
      rw [← hw3] at k23 kW3 z3 t3
      have HW3 := hid hw3
      have nn : ∀ b, b ≠ bz → b ≠ bt → b ∉ [bz, bt] := fun b h1 h2 => by simp; omega
      have obl : ∀ b, (Value.slice ma (missK ls k).length mc).ownBlock = some b → w.heap.size + 1 ≤ b := fun b hb => (OW.out.lt b hb).1
      have II := hid (show LkI w0 w bm bt bz ls (k + 1) F w3 from ⟨⟨.slice ma (missK ls k).length mc, HFF.out, (kW3.block bm (lt_of_block CM.out) (nn _ (by have := OO.out; omega) (by have := OO.out; omega))).trans CM.out, by rw [HMS.out]; exact ownsRow_kept' OW.out kW3 (fun b hb => nn _ (by have := obl b hb; have := OO.out; omega) (by have := obl b hb; have := OO.out; omega))⟩,
        by rw [HFZ.out]; exact t3, by rw [HFZ.out]; exact z3, SI.out.trans (kW3.mono (fun i _ hm => by simp at hm; rcases hm with h | h <;> simp [h])), OLD.out.trans' kW3 (fun i hi hm => by simp at hm; have := OO.out; omega)⟩)
      have KF := hid (kW3.mono (S' := F) (fun i _ hm => by rw [HFF.out]; simp at hm; rcases hm with h | h <;> simp [h]))
      have RS3 := hid (range_cells (cs := s.cells) ((kW3.block bs (lt_of_block CS.out) (nn _ (by have := OO.out; omega) (by have := OO.out; omega))).trans CS.out))
      have RQ3 := hid (range_cells (cs := h.cells) ((k23.block q LQ.out (nn _ (by have := OO.out; have := SQ.out; have := GT.out; omega) (by have := OO.out; have := SQ.out; have := GT.out; omega))).trans HQ.out))
      have cn0 := hid (five_cells ((kW3.block bn (lt_of_block CN.out) (nn _ (by have := OO.out; omega) (by have := OO.out; omega))).trans CN.out) 0).1
      have cz0 := hid (five_cells z3 0).1
      have NQ := hid (show ∀ b ∈ w.heap.size :: F, b < W.heap.size from fun b hb => by
        have := SQ.out
        have := HQQ.out
        simp only [List.mem_cons] at hb
        rw [HFF.out] at hb
        simp only [List.mem_cons] at hb
        rcases hb with h | h | h | h | h
        · have := GT.out; omega
        · have := OO.out; have := GT.out; omega
        · have := OO.out; have := GT.out; omega
        · have := OO.out; have := GT.out; omega
        · have := (OW.out.lt b (by simpa using h)).2; omega)
      have OFFN := hid (show Off (w.heap.size :: F) (.slice ra row.length rc) row from by
        intro ad n' c' e hne hm
        have h1 := NQ.out _ hm
        injection e with e _ _
        have := N2.out ad e
        have := SQ.out
        have := HQQ.out
        omega)
      have RR := hid (R2.out.keep k23 (by
        intro ad n' c' e hne hm
        injection e with e _ _
        have := N2.out ad e
        have := SQ.out
        have := HQQ.out
        have := OO.out
        have := GT.out
        simp at hm
        omega))
      clear z3 t3 sk1 sk2 k23 kW3 bz2 bt2 nn obl ch hw3
      have cn := cn0.out
      have cz := cz0.out
      simp only [List.getElem?_toArray, List.getElem?_cons_zero] at cn cz
      by_cases hw : why = 0
      · have HW := hid hw
        have hwb : (why != 0) = false := by simpa using hw
        cases hh : decide (h = (⟨s, k, n, h.z⟩ : Hd13)) with
        | true =>
          have HH := hid hh
          clear hw hh
          go_wp2_with (first | go_big_skip | (refine wpList_is rfl _ _ (exec_alloc 33 #[.int .i64 0, .int .i64 0, .int .i64 0, .int .i64 0, .int .i64 0, .int .i64 0] iHead rfl) ?_) | (refine wpList_noval rfl _ (exec_storeNew 33 _ _ rfl w1 #[.int .i64 0, .int .i64 0, .int .i64 0, .int .i64 0, .int .i64 0, .int .i64 0] h.cells.toArray rfl rfl rfl iHead rfl (hd_one h)) ?_; rw [← HW2.out]; try rw [← HQQ.out]) | (rw [← HW3.out]; refine wpList_isW rfl _ _ (exec_load _ _ _ _ rfl rfl (loadHd _ q 0 h RQ3.out)) ?_) | (refine wpList_isW rfl _ _ (exec_load _ _ _ _ rfl rfl (loadSpe _ bs 0 s RS3.out)) ?_) | (refine wpList_isW rfl _ _ (exec_buildHd _ _ _ _ rfl s k n (h.z) rfl rfl rfl rfl) ?_) | (refine wpList_isW rfl _ _ ((exec_neqHd _ _ _ h ⟨s, k, n, h.z⟩ rfl rfl rfl).trans (by rw [HH.out])) ?_) | fail)
          go_ret
          refine .inl ⟨.slice ra row.length rc, F, rfl, ?_, ?_, ?_, KF.out, II.out, fun b hb => .inl hb, ?_⟩
          · show RowAt _ _ (readL (ls.getD k [])).2.1
            rw [← HL.out, HRD.out]; exact RR.out
          · show (readL (ls.getD k [])).2.1.length ≤ _
            have := readL_len l; rw [← HL.out, HRD.out]; rw [HRD.out] at this; have := FEW.out; simp only at *; omega
          · show Off _ _ (readL (ls.getD k [])).2.1
            rw [← HL.out, HRD.out]
            exact OFFN.out
          · show ¬ badB s n ls k = true
            unfold badB
            rw [← HL.out, HFZ.out, HRD.out, decide_eq_true HW.out]
            simp only [Option.getD_some]
            rw [HH.out]; simp
        | false =>
          have HH := hid hh
          clear hw hh
          go_wp2_with (first | go_big_skip | (refine wpList_is rfl _ _ (exec_alloc 33 #[.int .i64 0, .int .i64 0, .int .i64 0, .int .i64 0, .int .i64 0, .int .i64 0] iHead rfl) ?_) | (refine wpList_noval rfl _ (exec_storeNew 33 _ _ rfl w1 #[.int .i64 0, .int .i64 0, .int .i64 0, .int .i64 0, .int .i64 0, .int .i64 0] h.cells.toArray rfl rfl rfl iHead rfl (hd_one h)) ?_; rw [← HW2.out]; try rw [← HQQ.out]) | (rw [← HW3.out]; refine wpList_isW rfl _ _ (exec_load _ _ _ _ rfl rfl (loadHd _ q 0 h RQ3.out)) ?_) | (refine wpList_isW rfl _ _ (exec_load _ _ _ _ rfl rfl (loadSpe _ bs 0 s RS3.out)) ?_) | (refine wpList_isW rfl _ _ (exec_buildHd _ _ _ _ rfl s k n (h.z) rfl rfl rfl rfl) ?_) | (refine wpList_isW rfl _ _ ((exec_neqHd _ _ _ h ⟨s, k, n, h.z⟩ rfl rfl rfl).trans (by rw [HH.out])) ?_) | fail)
          refine ⟨rfl, .inr ⟨?_, rfl, KF.out⟩⟩
          show badB s n ls k = true
          unfold badB
          rw [← HL.out, HFZ.out, HRD.out, decide_eq_false H0.out]
          simp only [Option.getD_some]
          rw [HH.out]; simp
      · have HW := hid hw
        have hwb : (why != 0) = true := by simpa using hw
        clear hw
        go_wp2_with (first | go_big_skip | (refine wpList_is rfl _ _ (exec_alloc 33 #[.int .i64 0, .int .i64 0, .int .i64 0, .int .i64 0, .int .i64 0, .int .i64 0] iHead rfl) ?_) | (refine wpList_noval rfl _ (exec_storeNew 33 _ _ rfl w1 #[.int .i64 0, .int .i64 0, .int .i64 0, .int .i64 0, .int .i64 0, .int .i64 0] h.cells.toArray rfl rfl rfl iHead rfl (hd_one h)) ?_; rw [← HW2.out]; try rw [← HQQ.out]) | fail)
        rw [← HW3.out]
        refine ⟨rfl, .inr ⟨?_, rfl, KF.out⟩⟩
        show badB s n ls k = true
        unfold badB
        rw [← HL.out, HRD.out, decide_eq_false H0.out, decide_eq_false HW.out]
        simp
end Go.Proofs.Ytoglcohdanpciaa


/- layout: look. -/
namespace Go.Proofs.Ytoglcohdanpciaa
open Go.RowKit Go.Shelf
set_option maxRecDepth 100000
set_option linter.unusedSimpArgs false
set_option linter.unusedVariables false

theorem enters_look : Enters Try.prog 164 := enters_of Try.func164 (by kernel_rfl) rfl
def LookPost (w : World) (s : Spe) (ls : List (List Int)) (e : Ending) (w' : World) : Prop :=
  Keeps [] w w' ∧ ((lookBad s ls.length ls = true ∧ e = gaveUp 4) ∨ (lookBad s ls.length ls = false ∧ ∃ g vs ma mc, e = .returned (.tuple #[.slice (some ⟨g, 0, none⟩) ls.length ls.length, .int .i64 (zL ls), .slice ma (missL ls).length mc]) ∧
    w'.heap[g]? = some (.cells vs.toArray 34 (0, 0)) ∧ HeadsAt w' g [] vs (rowsOf ls) ∧ w.heap.size ≤ g ∧ w'.ownsRow w.heap.size 3 1 (.slice ma (missL ls).length mc) (missL ls).length ((missL ls).map fun (i : Nat) => Value.int .i64 (i : Int))))
theorem lk_ret {fn : Func} {p q s : Tmp} (hr : fn.results = #[.tmp p, .cell q 3, .cell s 178]) {tmps : Array Value} {w : World} {x y z : Value} {b c : Addr} (hp : tmps.getD p undef = x) (hq : tmps.getD q undef = .pointer (some b)) (hy : w.cell? b = some y) (hs : tmps.getD s undef = .pointer (some c)) (hz : w.cell? c = some z) :
    (results fn tmps).run Try.prog w = .ok (.tuple #[x, y, z]) w := by
  have hp' : tmps[p]?.getD undef = x := by simpa using hp
  have hq' : tmps[q]?.getD undef = .pointer (some b) := by simpa using hq
  have hs' : tmps[s]?.getD undef = .pointer (some c) := by simpa using hs
  have h1 : (loadVar 3 b).run Try.prog w = .ok y w := by simp [loadVar, agg_no 3 (by kernel_rfl), hy, Result.andThen]
  have h2 : (loadVar 178 c).run Try.prog w = .ok z w := by simp [loadVar, agg_no 178 (by kernel_rfl), hz, Result.andThen]
  simp [results, hr, hp', hq', hs', asAddr, h1, h2]
theorem rows_range (ls : List (List Int)) : (List.range ls.length).map (fun i => (readL (ls.getD i [])).2.1) = rowsOf ls := by
  apply List.ext_getElem
  · simp [rowsOf]
  · intro i h1 h2
    rw [List.getElem_map, List.getElem_range, rowsOf_get]
theorem HeadsAt.less {w : World} {g : Nat} {F : List Nat} {vs : List Value} {ls : List (List Int)} (h : HeadsAt w g F vs ls) : HeadsAt w g [] vs ls :=
  ⟨h.len, h.row, h.few, fun j hj ad n c e hne hm => h.off j hj ad n c e hne (by simp at hm; simp [hm])⟩
set_option maxHeartbeats 12800000 in
theorem look_any (w : World) (s : Spe) (fv : Value) (ls : List (List Int)) (hr : RsAt w fv ls) (h3 : 3 ≤ ls.length) (h16 : ls.length ≤ 16) (hfew : ∀ l ∈ ls, l.length ≤ 35184372088832) :
    Calls Try.prog 117 #[.agg #[.int .i64 s.c, .int .i64 s.l, .int .i64 s.n], fv] w (LookPost w s ls) := by
  obtain ⟨fa, fc, hfv⟩ : ∃ a c, fv = .slice a ls.length c := by
    obtain ⟨rs, rfl, ⟨a, c, e, _⟩⟩ := hr
    exact ⟨a, c, by rw [e]; simp [raws]⟩
  subst hfv
  obtain ⟨w6, hw6⟩ : ∃ x, x = (((((w.alloc (.cells #[.int .i64 s.c, .int .i64 s.l, .int .i64 s.n] 30)).alloc (.cells #[.slice fa ls.length fc] 26)).alloc (.cells #[.int .i64 0] 3)).alloc (.cells #[.slice none 0 0] 178)).alloc (.cells #[.int .i64 (ls.length : Int)] 3)).alloc (.cells #[.bool false] 4) := ⟨_, rfl⟩
  have kk : ∀ (W : World) (o : Obj), Keeps [] W (W.alloc o) := fun W o => (Keeps.refl [] W).alloc o
  have hh : ∀ (W : World) (o : Obj) (n : Nat), W.heap.size = n → (W.alloc o).heap[n]? = some o := fun W o n h => by rw [← h]; exact heap_alloc_new W o
  have hold : ∀ (W : World) (o p : Obj) (n : Nat), W.heap[n]? = some p → (W.alloc o).heap[n]? = some p := fun W o p n h => ((kk W o).block n (lt_of_block h) (by simp)).trans h
  have B0 := hid (show w6.heap[w.heap.size]? = some (.cells #[.int .i64 s.c, .int .i64 s.l, .int .i64 s.n] 30 (0, 0)) by
    rw [hw6]; exact hold _ _ _ _ (hold _ _ _ _ (hold _ _ _ _ (hold _ _ _ _ (hold _ _ _ _ (hh _ _ _ rfl))))))
  have B1 := hid (show w6.heap[w.heap.size + 1]? = some (.cells #[.slice fa ls.length fc] 26 (0, 0)) by
    rw [hw6]; exact hold _ _ _ _ (hold _ _ _ _ (hold _ _ _ _ (hold _ _ _ _ (hh _ _ _ (by simp))))))
  have B2 := hid (show w6.heap[w.heap.size + 2]? = some (.cells #[.int .i64 0] 3 (0, 0)) by
    rw [hw6]; exact hold _ _ _ _ (hold _ _ _ _ (hold _ _ _ _ (hh _ _ _ (by simp)))))
  have B3 := hid (show w6.heap[w.heap.size + 3]? = some (.cells #[.slice none 0 0] 178 (0, 0)) by
    rw [hw6]; exact hold _ _ _ _ (hold _ _ _ _ (hh _ _ _ (by simp))))
  have B4 := hid (show w6.heap[w.heap.size + 4]? = some (.cells #[.int .i64 (ls.length : Int)] 3 (0, 0)) by
    rw [hw6]; exact hold _ _ _ _ (hh _ _ _ (by simp)))
  have B5 := hid (show w6.heap[w.heap.size + 5]? = some (.cells #[.bool false] 4 (0, 0)) by
    rw [hw6]; exact hh _ _ _ (by simp))
  have K6 := hid (show Keeps [] w w6 by rw [hw6]; exact ((((((Keeps.refl [] w).alloc _).alloc _).alloc _).alloc _).alloc _).alloc _)
  have S6 := hid (show w6.heap.size = w.heap.size + 6 by rw [hw6]; simp)
  have HW6 := hid hw6
  have LB := hid (show LkB w w6 (w.heap.size + 3) (w.heap.size + 5) (w.heap.size + 2) w.heap.size (w.heap.size + 4) (w.heap.size + 1) s ls.length (.slice fa ls.length fc) ls from
    ⟨K6.out, ⟨by omega, by omega, by omega, by omega, by omega, by omega, by rw [S6.out]; omega⟩, B0.out, B1.out, B4.out, hr, rfl⟩)
  have L0 := hid (show LkI w w6 (w.heap.size + 3) (w.heap.size + 5) (w.heap.size + 2) ls 0 ((w.heap.size + 3) :: (w.heap.size + 5) :: (w.heap.size + 2) :: (Value.slice none 0 0).ownBlock.toList) w6 from
    ⟨⟨.slice none 0 0, rfl, B3.out, World.ownsRow_nil _ _ _ _⟩, B5.out, B2.out, Keeps.refl _ _, K6.out⟩)
  have HFW := hid hfew
  have cn := (five_cells B4.out 0).1
  simp only [List.getElem?_toArray, List.getElem?_cons_zero] at cn
  clear kk hh hold hw6 hr hfew
  go_enter Try.func117, Try.ntmps117
  go_wp2_with fail
  rw [← HW6.out]
  refine (gather_any 164 _ ls.length w6 ((w.heap.size + 3) :: (w.heap.size + 5) :: (w.heap.size + 2) :: (Value.slice none 0 0).ownBlock.toList) (LkI w w6 (w.heap.size + 3) (w.heap.size + 5) (w.heap.size + 2) ls) (fun i => (readL (ls.getD i [])).2.1) (fun i => badB s ls.length ls i = true) enters_look (by omega) h16
    (fun b hb => by rw [S6.out]; simp [Value.ownBlock] at hb; omega) L0.out (LkI.step LB.out) (fun k F W hk hI hg _ => lookC_any LB.out h16 HFW.out k F W hk hI hg)).mono ?_
  rintro e w7 ⟨k7, ⟨F, vs, rfl, hb, hh, hi, hF, hnb⟩ | ⟨⟨k, hk, hbad⟩, rfl⟩⟩
  · obtain ⟨mv, hFe, hm, hown⟩ := hi.ex
    obtain ⟨ma, mc, rfl⟩ : ∃ a c, mv = .slice a (missK ls ls.length).length c := ownsRow_slice hown
    have hz := hi.size
    rw [List.take_length] at hz
    have K7 := hid hi.old
    have HB := hid hb
    have HH := hid hh.less
    have HM := hid hm
    have HZ := hid (show w7.heap[w.heap.size + 2]? = some (.cells #[.int .i64 (zL ls)] 3 (0, 0)) from hz)
    have OW := hid (ownsRow_low (B' := w.heap.size) (by rw [S6.out]; omega) hown)
    have OB := hid (show ∀ b, (Value.slice ma (missK ls ls.length).length mc).ownBlock = some b → w6.heap.size + 1 ≤ b from fun b h => (hown.lt b h).1)
    have NBD := hid (show lookBad s ls.length ls = false from List.any_eq_false.2 (fun k hk => hnb k (by simpa using hk)))
    have HFM := hid (show ∀ j (h : j < vs.length), Off ((w.heap.size + 3) :: (w.heap.size + 2) :: []) vs[j] (((List.range ls.length).map fun i => (readL (ls.getD i [])).2.1).getD j []) from fun j h ad n c e hne hm => hh.off j h ad n c e hne (by
      rw [hFe]
      simp only [List.mem_cons, List.not_mem_nil, or_false] at hm ⊢
      rcases hm with h | h
      · right; left; exact h
      · right; right; right; left; exact h))
    have L7 := hid (show w.heap.size + 5 < w7.heap.size from lt_of_block hi.told)
    clear hi hFe hm hown hz hb hh hF hnb k7 cn
    obtain ⟨g, hg⟩ : ∃ g, g = w6.heap.size := ⟨_, rfl⟩
    rw [← hg] at HB HH ⊢
    simp only [Nat.add_assoc, Nat.reduceAdd]
    have HG := hid hg
    clear hg
    have cM := hid (five_cells HM.out 0).1
    have cZ := hid (five_cells HZ.out 0).1
    go_wp2_with fail
    refine wp_region_any (by kernel_rfl) (wpAny_of_held (S := fun W1 => KpS [w.heap.size + 3, w.heap.size + 2] w7.heap.size w7.drew W1 ∧ W1.cell? ⟨w.heap.size + 2, 0, none⟩ = some (.int .i64 (zL ls)) ∧ W1.cell? ⟨w.heap.size + 3, 0, none⟩ = some (.slice ma (missK ls ls.length).length mc)) _ _ _ _ ?_)
    change wpAnyH _ _ _ _ _ _ _ _ w7.drew
    have s0 : KpS [w.heap.size + 3, w.heap.size + 2] w7.heap.size w7.drew w7.drew ∧ w7.drew.cell? ⟨w.heap.size + 2, 0, none⟩ = some (.int .i64 (zL ls)) ∧ w7.drew.cell? ⟨w.heap.size + 3, 0, none⟩ = some (.slice ma (missK ls ls.length).length mc) := ⟨KpS.refl _ _ _, cZ.out, cM.out⟩
    refine held_take (i := 0) (v := .slice (some ⟨g, 0, none⟩) ls.length ls.length) rfl (by kernel_rfl) (by kernel_rfl) (by kernel_rfl) (fun _ _ _ h => h) rfl (fun W1 hW1 => by go_simp) (s0) ?_
    simp only [Act.put, List.setIfInBounds_toArray, List.set_cons_zero, List.set_cons_succ]
    refine held_take (i := 1) (v := .int .i64 (zL ls)) rfl (by kernel_rfl) (by kernel_rfl) (by kernel_rfl) (fun _ _ _ h => h) rfl (fun W1 hW1 => exec_load _ _ _ _ rfl rfl (run_loadCell W1 _ _ _ (hW1.2.1) (agg_no _ (by kernel_rfl)))) (s0) ?_
    simp only [Act.put, List.setIfInBounds_toArray, List.set_cons_zero, List.set_cons_succ]
    refine held_take (i := 2) (v := .slice ma (missK ls ls.length).length mc) rfl (by kernel_rfl) (by kernel_rfl) (by kernel_rfl) (fun _ _ _ h => h) rfl (fun W1 hW1 => exec_load _ _ _ _ rfl rfl (run_loadCell W1 _ _ _ (hW1.2.2) (agg_no _ (by kernel_rfl)))) (s0) ?_
    simp only [Act.put, List.setIfInBounds_toArray, List.set_cons_zero, List.set_cons_succ]
    refine held_take (i := 3) (v := .slice (some ⟨g, 0, none⟩) ls.length ls.length) rfl (by kernel_rfl) (by kernel_rfl) (by kernel_rfl) (fun _ _ _ h => h) rfl (fun W1 hW1 => exec_asg _ rfl rfl) (s0) ?_
    simp only [Act.put, List.setIfInBounds_toArray, List.set_cons_zero, List.set_cons_succ]
    have bz7 : w7.drew.heap[w.heap.size + 2]? = some (.cells #[.int .i64 (zL ls)] 3 (0, 0)) := HZ.out
    have bm7 : w7.drew.heap[w.heap.size + 3]? = some (.cells #[.slice ma (missK ls ls.length).length mc] 178 (0, 0)) := HM.out
    obtain ⟨z1, z2⟩ := five_cells bz7 0
    simp only [List.getElem?_toArray, List.getElem?_cons_zero] at z1
    have sk1 : Keeps [w.heap.size + 2] w7.drew (w7.drew.setCell ⟨w.heap.size + 2, 0, none⟩ (.int .i64 (zL ls))) := set_keep
    have z3 := set_five (i := 0) bz7 (.int .i64 (zL ls))
    have m3 := (sk1.block (w.heap.size + 3) (lt_of_block bm7) (by simp)).trans bm7
    have s1 : KpS [w.heap.size + 3, w.heap.size + 2] w7.heap.size w7.drew (w7.drew.setCell ⟨w.heap.size + 2, 0, none⟩ (.int .i64 (zL ls))) ∧ (w7.drew.setCell ⟨w.heap.size + 2, 0, none⟩ (.int .i64 (zL ls))).cell? ⟨w.heap.size + 2, 0, none⟩ = some (.int .i64 (zL ls)) ∧ (w7.drew.setCell ⟨w.heap.size + 2, 0, none⟩ (.int .i64 (zL ls))).cell? ⟨w.heap.size + 3, 0, none⟩ = some (.slice ma (missK ls ls.length).length mc) :=
      ⟨KpS.keeps s0.1 sk1 (Nat.le_refl _) (fun i hi _ => by simp at hi; simp [hi]), (five_cells z3 0).1, (five_cells m3 0).1⟩
    refine held_do (i := 4) (by kernel_rfl) rfl rfl (wp_stored (w' := w7.drew.setCell ⟨w.heap.size + 2, 0, none⟩ (.int .i64 (zL ls))) (by go_simp) ⟨s1, ?_⟩)
    simp only [Act.put, List.setIfInBounds_toArray, List.set_cons_zero, List.set_cons_succ]
    generalize w7.drew.setCell ⟨w.heap.size + 2, 0, none⟩ (.int .i64 (zL ls)) = w8 at sk1 z3 m3 s1 ⊢
    obtain ⟨m1, m2⟩ := five_cells m3 0
    simp only [List.getElem?_toArray, List.getElem?_cons_zero] at m1
    have sk2 : Keeps [w.heap.size + 3] w8 (w8.setCell ⟨w.heap.size + 3, 0, none⟩ (.slice ma (missK ls ls.length).length mc)) := set_keep
    have m4 := set_five (i := 0) m3 (.slice ma (missK ls ls.length).length mc)
    have z4 := (sk2.block (w.heap.size + 2) (lt_of_block z3) (by simp)).trans z3
    have s2 : KpS [w.heap.size + 3, w.heap.size + 2] w7.heap.size w7.drew (w8.setCell ⟨w.heap.size + 3, 0, none⟩ (.slice ma (missK ls ls.length).length mc)) ∧ (w8.setCell ⟨w.heap.size + 3, 0, none⟩ (.slice ma (missK ls ls.length).length mc)).cell? ⟨w.heap.size + 2, 0, none⟩ = some (.int .i64 (zL ls)) ∧ (w8.setCell ⟨w.heap.size + 3, 0, none⟩ (.slice ma (missK ls ls.length).length mc)).cell? ⟨w.heap.size + 3, 0, none⟩ = some (.slice ma (missK ls ls.length).length mc) :=
      ⟨KpS.keeps s1.1 sk2 sk1.size (fun i hi _ => by simp at hi; simp [hi]), (five_cells z4 0).1, (five_cells m4 0).1⟩
    refine held_do (i := 5) (by kernel_rfl) rfl rfl (wp_stored (w' := w8.setCell ⟨w.heap.size + 3, 0, none⟩ (.slice ma (missK ls ls.length).length mc)) (by go_simp) ⟨s2, ?_⟩)
    simp only [Act.put, List.setIfInBounds_toArray, List.set_cons_zero, List.set_cons_succ]
    refine wpAnyH_done (by kernel_rfl) ?_ _
    have k79 : Keeps [w.heap.size + 3, w.heap.size + 2] w7 (w8.setCell ⟨w.heap.size + 3, 0, none⟩ (.slice ma (missK ls ls.length).length mc)) := ((Keeps.refl [] w7).drew.mono (by simp)).trans ((sk1.mono (fun i _ hm => by simp at hm; simp [hm])).trans (sk2.mono (fun i _ hm => by simp at hm; simp [hm])))
    generalize w8.setCell ⟨w.heap.size + 3, 0, none⟩ (.slice ma (missK ls ls.length).length mc) = w9 at k79 z4 m4 s2 ⊢
    have C1 := hid s2.2.1
    have C2 := hid s2.2.2
    have K79 := hid k79
    clear s0 s1 s2 sk1 sk2 z1 z2 z3 z4 m1 m2 m3 m4 bz7 bm7 k79
    go_wp2_with fail
    refine bodyPost_ret (v := .tuple #[.slice (some ⟨g, 0, none⟩) ls.length ls.length, .int .i64 (zL ls), .slice ma (missL ls).length mc]) (lk_ret rfl rfl rfl C1.out rfl C2.out) rfl ?_
    refine ⟨K7.out.trans' K79.out (fun i hi hm => by simp at hm; omega), .inr ⟨NBD.out, g, vs, ma, mc, rfl, ?_, ?_, by rw [HG.out, S6.out]; omega, ?_⟩⟩
    · exact (K79.out.block g (lt_of_block HB.out) (by rw [HG.out, S6.out]; simp)).trans HB.out
    · rw [← rows_range]
      exact ⟨HH.out.len, fun j hj => (HH.out.row j hj).keep K79.out (HFM.out j hj), HH.out.few, HH.out.off⟩
    · exact ownsRow_kept' OW.out K79.out (fun b hb => by have := OB.out b hb; have := S6.out; simp; omega)
  · have K7 := hid (K6.out.trans' k7 (fun i hi hm => by simp [Value.ownBlock] at hm; omega))
    have HBD := hid (show lookBad s ls.length ls = true from List.any_eq_true.2 ⟨k, by simpa using hk, hbad⟩)
    clear k7 hbad hk
    unfold gaveUp
    go_wp2_with fail
    exact ⟨rfl, K7.out, .inl ⟨HBD.out, rfl⟩⟩
end Go.Proofs.Ytoglcohdanpciaa


/- layout: whole. -/
namespace Go.Proofs.Ytoglcohdanpciaa
open Go.RowKit Go.Shelf
set_option maxRecDepth 100000
set_option linter.unusedSimpArgs false
set_option linter.unusedVariables false

theorem RsAt.holds {w : World} {v : Value} {ls : List (List Int)} (h : RsAt w v ls) (hl : ls.length ≤ 1099511627776) : Calls Try.prog 118 #[v] w fun e w' => e = .returned (.bool (zeroB (xorL ls))) ∧ Keeps [] w w' := by
  obtain ⟨rs, rfl, hr⟩ := h
  exact holds_any w v rs hr (by simpa [raws] using hl)
theorem RsAt.fill {w : World} {v : Value} {ls : List (List Int)} (h : RsAt w v ls) (hl : ls.length ≤ 1099511627776) (i n : Int) : Calls Try.prog 119 #[v, .int .i64 i, .int .i64 n] w (FillPost w (fillM ls i n)) := by
  obtain ⟨rs, rfl, hr⟩ := h
  exact fill_any w v rs hr (by simpa [raws] using hl) i n
/-- A row of bytes lies in no block of heads. -/
theorem off_heads {w : World} {g : Nat} {vs : List Value} {v : Value} {zs : List Int} (h : RowAt w v zs) (hb : w.heap[g]? = some (.cells vs.toArray 34 (0, 0))) (hv : ∀ u ∈ vs, ∃ a n c, u = .slice a n c) : Off [g] v zs := by
  intro ad n c e hne hm
  have hpos : 0 < zs.length := List.length_pos_iff.2 hne
  obtain ⟨g2, off, cap, rfl, _, hc⟩ := h.open hpos
  injection e with e _ _
  injection e with e
  subst e
  simp at hm
  subst hm
  have h0 := hc 0 hpos
  rw [(five_cells hb (off + 0)).1] at h0
  simp only [List.getElem?_toArray] at h0
  obtain ⟨a, n', c', hu⟩ := hv _ (List.mem_of_getElem? h0)
  cases hu
theorem HeadsAt.slices {w : World} {g : Nat} {F : List Nat} {vs : List Value} {ls : List (List Int)} (h : HeadsAt w g F vs ls) : ∀ u ∈ vs, ∃ a n c, u = .slice a n c := by
  intro u hu
  obtain ⟨i, hi, rfl⟩ := List.getElem_of_mem hu
  obtain ⟨a, c, e, _⟩ := h.row i hi
  exact ⟨a, _, c, e⟩
theorem HeadsAt.set {w : World} {g : Nat} {vs : List Value} {ls : List (List Int)} (h : HeadsAt w g [] vs ls) {i : Nat} (hi : i < vs.length) {v : Value} {zs : List Int} (hr : RowAt w v zs) (hl : zs.length ≤ 140737488351232) (ho : Off [g] v zs) : HeadsAt w g [] (vs.set i v) (ls.set i zs) := by
  have hlen := h.len
  have hget : ∀ j, j < vs.length → (ls.set i zs).getD j [] = if i = j then zs else ls.getD j [] := fun j hj => by
    rw [List.getD_eq_getElem?_getD, List.getElem?_set, List.getD_eq_getElem?_getD]
    by_cases e : i = j
    · rw [if_pos e, if_pos e, if_pos (by omega)]; rfl
    · rw [if_neg e, if_neg e]
  refine ⟨by simp [hlen], fun j hj => ?_, fun l hl' => ?_, fun j hj => ?_⟩
  · have hj' : j < vs.length := by simpa using hj
    rw [hget j hj', List.getElem_set]
    split
    · exact hr
    · exact h.row j hj'
  · rcases List.mem_or_eq_of_mem_set hl' with h1 | h1
    · exact h.few l h1
    · rw [h1]; exact hl
  · have hj' : j < vs.length := by simpa using hj
    rw [hget j hj', List.getElem_set]
    split
    · exact ho
    · exact h.off j hj'
/-- What whole leaves. -/
def WhPost (w : World) (n : Nat) (r : Except Int (List (List Int) × Int)) (e : Ending) (w' : World) : Prop :=
  Keeps [] w w' ∧ match r with
    | .error why => e = gaveUp why
    | .ok x => ∃ g vs, e = .returned (.tuple #[.slice (some ⟨g, 0, none⟩) n n, .int .i64 x.2]) ∧ w'.heap[g]? = some (.cells vs.toArray 34 (0, 0)) ∧ HeadsAt w' g [] vs x.1 ∧ w.heap.size ≤ g
theorem whole_no {s : Spe} {ls : List (List Int)} {n : Int} (h : ¬ (maySv n = true ∧ (ls.length : Int) = n)) : wholeL s ls n = .error 1 := by unfold wholeL; rw [if_neg h]
theorem whole_bad {s : Spe} {ls : List (List Int)} {n : Int} (h : maySv n = true ∧ (ls.length : Int) = n) (hb : lookBad s ls.length ls = true) : wholeL s ls n = .error 4 := by unfold wholeL; rw [if_pos h, if_pos hb]
theorem whole_all {s : Spe} {ls : List (List Int)} {n : Int} (h : maySv n = true ∧ (ls.length : Int) = n) (hb : lookBad s ls.length ls = false) (hm : missL ls = []) : wholeL s ls n = if zeroB (xorL (rowsOf ls)) = true then .ok (rowsOf ls, zL ls) else .error 4 := by
  unfold wholeL; rw [if_pos h, if_neg (by rw [hb]; simp), hm]
theorem whole_one {s : Spe} {ls : List (List Int)} {n : Int} (h : maySv n = true ∧ (ls.length : Int) = n) (hb : lookBad s ls.length ls = false) {i : Nat} (hm : missL ls = [i]) :
    wholeL s ls n = .ok ((rowsOf ls).set i (xorN (longN i (zL ls).toNat ls.length) ((rowsOf ls).eraseIdx i)), zL ls) := by
  unfold wholeL; rw [if_pos h, if_neg (by rw [hb]; simp), hm]
theorem whole_lost {s : Spe} {ls : List (List Int)} {n : Int} (h : maySv n = true ∧ (ls.length : Int) = n) (hb : lookBad s ls.length ls = false) (hm : 2 ≤ (missL ls).length) : wholeL s ls n = .error 15 := by
  unfold wholeL
  rw [if_pos h, if_neg (by rw [hb]; simp)]
  match h2 : missL ls, hm with
  | a :: b :: r, _ => rfl
theorem RsAt.byte {w : World} {v : Value} {ls : List (List Int)} (h : RsAt w v ls) : BytesL ls := by
  obtain ⟨rs, rfl, _⟩ := h
  exact raws_byte rs
set_option maxHeartbeats 12800000 in
theorem whole_any (w : World) (s : Spe) (fv : Value) (ls : List (List Int)) (n : Int) (hr : RsAt w fv ls) (hfew : ∀ l ∈ ls, l.length ≤ 35184372088832) :
    Calls Try.prog 72 #[.agg #[.int .i64 s.c, .int .i64 s.l, .int .i64 s.n], fv, .int .i64 n] w (WhPost w ls.length (wholeL s ls n)) := by
  obtain ⟨fa, fc, hfv⟩ : ∃ a c, fv = .slice a ls.length c := by
    obtain ⟨rs, rfl, ⟨a, c, e, _⟩⟩ := hr
    exact ⟨a, c, by rw [e]; simp [raws]⟩
  subst hfv
  obtain ⟨r, hre⟩ : ∃ r, r = wholeL s ls n := ⟨_, rfl⟩
  rw [← hre]
  have HRE := hid hre
  have HRS := hid hr
  have HFW := hid hfew
  have k1 : Keeps [] w (w.alloc (.cells #[.int .i64 s.c, .int .i64 s.l, .int .i64 s.n] 30)) := (Keeps.refl [] w).alloc _
  have K1 := hid k1
  have RS1 := hid (range_cells (cs := s.cells) (heap_alloc_new w (.cells #[.int .i64 s.c, .int .i64 s.l, .int .i64 s.n] 30)))
  have FR1 := hid (hr.keep k1)
  clear hre hr hfew k1
  cases hm : maySv n with
  | false =>
    have HM := hid hm
    clear hm
    go_enter Try.func72, Try.ntmps72
    go_wp2_with fail
    refine (lserve_as _ n false HM.out).mono ?_
    rintro e w' ⟨rfl, rfl⟩
    go_wp2_with fail
    refine ⟨rfl, K1.out, ?_⟩
    rw [HRE.out, whole_no (by rw [HM.out]; simp)]
    rfl
  | true =>
    have HM := hid hm
    obtain ⟨n3, n16⟩ := maySv_is.1 hm
    clear hm
    by_cases hl : (ls.length : Int) = n
    · subst hl
      have h3 : 3 ≤ ls.length := by omega
      have h16 : ls.length ≤ 16 := by omega
      clear n3 n16
      go_enter Try.func72, Try.ntmps72
      go_wp2_with fail
      refine (lserve_as _ ls.length true HM.out).mono ?_
      rintro e w' ⟨rfl, rfl⟩
      go_wp2_with (first | (refine wpList_isW rfl _ _ (exec_load _ _ _ _ rfl rfl (loadSpe _ w.heap.size 0 s RS1.out)) ?_) | fail)
      refine (look_any _ s _ ls FR1.out h3 h16 HFW.out).mono ?_
      rintro e w2 ⟨k2, ⟨hbad, rfl⟩ | ⟨hbad, g, vs, ma, mc, rfl, hb, hh, hg, ho⟩⟩
      · have K2 := hid (K1.out.trans k2)
        have HBD := hid hbad
        clear k2 hbad
        unfold gaveUp
        go_wp2_with fail
        refine ⟨rfl, K2.out, ?_⟩
        rw [HRE.out, whole_bad ⟨HM.out, rfl⟩ HBD.out]
        rfl
      · have K2 := hid (K1.out.trans k2)
        have HBD := hid hbad
        have HB := hid hb
        have HH := hid hh
        have HG := hid (show w.heap.size ≤ g by rw [World.size_alloc] at hg; omega)
        have OW := hid ho
        have LV := hid (show vs.length = ls.length by have := hh.len; rw [rowsOf_len] at this; exact this)
        have RSW := hid (show RsAt w2 (.slice (some ⟨g, 0, none⟩) ls.length ls.length) (rowsOf ls) from hh.rs hb LV.out (by unfold maxLen; omega))
        have HZ := hid (lookOk_of hbad)
        have BY := hid HRS.out.byte
        clear k2 hbad hb hh hg ho
        obtain ⟨ms, hms⟩ : ∃ m, m = missL ls := ⟨_, rfl⟩
        rw [← hms] at OW ⊢
        have HMS := hid hms
        clear hms
        match ms with
        | [] =>
          simp only [List.length_nil]
          cases hz : zeroB (xorL (rowsOf ls)) with
          | true =>
            have HZB := hid hz
            clear hz
            go_wp2_with fail
            refine (RSW.out.holds (by rw [rowsOf_len]; omega)).mono ?_
            rintro e w3 ⟨rfl, k3⟩
            rw [HZB.out]
            have K3 := hid k3
            clear k3
            go_wp2_with fail
            go_ret2
            refine ⟨K2.out.trans K3.out, ?_⟩
            rw [HRE.out, whole_all ⟨HM.out, rfl⟩ HBD.out HMS.out.symm, if_pos HZB.out]
            exact ⟨g, vs, rfl, (K3.out.block g (lt_of_block HB.out) (by simp)).trans HB.out, HH.out.keep K3.out (by simp) (by simp), HG.out⟩
          | false =>
            have HZB := hid hz
            clear hz
            go_wp2_with fail
            refine (RSW.out.holds (by rw [rowsOf_len]; omega)).mono ?_
            rintro e w3 ⟨rfl, k3⟩
            rw [HZB.out]
            have K3 := hid k3
            clear k3
            go_wp2_with fail
            refine ⟨rfl, K2.out.trans K3.out, ?_⟩
            rw [HRE.out, whole_all ⟨HM.out, rfl⟩ HBD.out HMS.out.symm, if_neg (by rw [HZB.out]; simp)]
            rfl
        | [i] =>
          simp only [List.length_cons, List.length_nil, Nat.zero_add]
          obtain ⟨hil, hv, hme, hlens, hlong⟩ := one_long HZ.out BY.out h3 HMS.out.symm
          obtain ⟨⟨_, _⟩, z0, z1⟩ := mayHv_is.1 hv
          obtain ⟨z, hz⟩ := Int.eq_ofNat_of_zero_le z0
          obtain ⟨mg, rfl⟩ : ∃ mg, ma = some ⟨mg, 0, none⟩ := by
            rcases OW.out.2 with ⟨h', h0⟩ | ⟨g', cap, cur, h', _⟩
            · simp at h0
            · injection h' with h' _ _
              exact ⟨g', h'⟩
          have ci := OW.out.cells (g := mg) rfl 0 (.int .i64 (i : Int)) rfl
          rw [Addr.add_lit] at ci
          have hsm : SmallF (i : Int) (z : Int) (ls.length : Int) := ⟨by omega, by omega, by omega, by omega, by omega, by omega⟩
          have hlg := longI_is (i := i) (z := z) (n := ls.length) h3 h16
          have A := fun W => ylong_any W i z ls.length hsm
          rw [hlg] at A
          have htn : (zL ls).toNat = z := by rw [hz]; exact Int.toNat_natCast z
          rw [htn] at hlens hlong
          obtain ⟨k, hk⟩ : ∃ k, k = longN i z ls.length := ⟨_, rfl⟩
          rw [← hk] at A hlong
          have hfill : fillM (rowsOf ls) (i : Int) (k : Int) = some (xorN k ((rowsOf ls).eraseIdx i)) := by
            unfold fillM
            rw [if_pos ⟨by omega, by rw [rowsOf_len]; omega, by omega, by rw [Int.toNat_natCast]; omega⟩, Int.toNat_natCast, Int.toNat_natCast]
          have B := RSW.out.fill (by rw [rowsOf_len]; omega) i k
          rw [hfill] at B
          have HXL := hid (xorN_length k ((rowsOf ls).eraseIdx i))
          have HKB := hid (show k ≤ 140737488351232 by
            have := longN_le i z ls.length
            have := eN_most (z := z) (n := ls.length) (by omega)
            omega)
          have HRR := hid (show r = .ok ((rowsOf ls).set i (xorN k ((rowsOf ls).eraseIdx i)), (z : Int)) by rw [HRE.out, whole_one ⟨HM.out, rfl⟩ HBD.out HMS.out.symm, htn, ← hk, hz])
          obtain ⟨x, hx⟩ : ∃ x, x = xorN k ((rowsOf ls).eraseIdx i) := ⟨_, rfl⟩
          rw [← hx] at B HXL HRR
          rw [hz]
          have HIL := hid hil
          clear hz hsm hlg htn hk hfill hx hlens hlong hv hme z0 z1
          go_wp2_with fail
          refine (A _).mono ?_
          rintro e w' ⟨rfl, rfl⟩
          go_wp2_with fail
          refine B.mono ?_
          rintro e w3 ⟨xa, xc, rfl, x1, k3⟩
          have x1' : RowAt w3 (.slice xa x.length xc) x := x1
          have K3 := hid k3
          have hb3 := (k3.block g (lt_of_block HB.out) (by simp)).trans HB.out
          have hh3 := HH.out.keep (F' := []) k3 (by simp) (by simp)
          have OF := hid (off_heads x1' hb3 hh3.slices)
          have HH3 := hid hh3
          have HB3 := hid hb3
          have X1 := hid x1'
          obtain ⟨cc, ff⟩ := five_cells hb3 i
          have cci : w3.cell? ⟨g, i, none⟩ = some (vs[i]'(by have := LV.out; omega)) := by
            rw [cc]
            simp only [List.getElem?_toArray]
            exact List.getElem?_eq_getElem _
          obtain ⟨oa, on, oc, hov⟩ := hh3.slices _ (List.getElem_mem (show i < vs.length by have := LV.out; omega))
          rw [hov] at cci
          have sk : Keeps [g] w3 (w3.setCell ⟨g, i, none⟩ (.slice xa x.length xc)) := set_keep
          have jj := set_five (i := i) hb3 (.slice xa x.length xc)
          rw [List.setIfInBounds_toArray] at jj
          have SK := hid sk
          have J := hid jj
          clear A B k3 hb3 hh3 x1 x1' cc hov sk jj
          show (_ : Prop)
          go_wp2_with fail
          go_ret2
          refine ⟨(K2.out.trans K3.out).trans' SK.out (fun j hj hm => by simp at hm; have := HG.out; omega), ?_⟩
          rw [HRR.out]
          exact ⟨g, vs.set i (.slice xa x.length xc), rfl, J.out, (HH3.out.set (by have := LV.out; have := HIL.out; omega) X1.out (by have := HXL.out; have := HKB.out; omega) OF.out).keep SK.out (by simp) (by simp), HG.out⟩
        | a :: b :: rest =>
          have hlen2 : ((a :: b :: rest).length : Int) = rest.length + 2 := by simp; omega
          have hb0 : (((a :: b :: rest).length : Int) == 0) = false := by rw [hlen2]; simp; omega
          have hb1 : (((a :: b :: rest).length : Int) == 1) = false := by rw [hlen2]; simp; omega
          have HL2 := hid (show 2 ≤ (missL ls).length by rw [← HMS.out]; simp)
          obtain ⟨c, hc⟩ : ∃ c : Nat, c = (a :: b :: rest).length := ⟨_, rfl⟩
          rw [← hc] at hb0 hb1 ⊢
          clear hlen2 hc
          go_wp2_with fail
          refine ⟨rfl, K2.out, ?_⟩
          rw [HRE.out, whole_lost ⟨HM.out, rfl⟩ HBD.out HL2.out]
          rfl
    · have hlb : ((ls.length : Int) != n) = true := by simpa using hl
      have HL := hid hl
      clear hl
      go_enter Try.func72, Try.ntmps72
      go_wp2_with fail
      refine (lserve_as _ n true HM.out).mono ?_
      rintro e w' ⟨rfl, rfl⟩
      go_wp2_with fail
      refine ⟨rfl, K1.out, ?_⟩
      rw [HRE.out, whole_no (fun h => HL.out h.2)]
      rfl
end Go.Proofs.Ytoglcohdanpciaa
