/- tokens: rows are compared; place, the predicates on rows. -/
import Derived.Test.YtjohikekhgcepaaTkA
import Derived.Laws.StructEq
import Derived.BigQuiet
namespace Go.Proofs.Ytjohikekhgcepaa
open Go.RowKit Go.Shelf
set_option maxRecDepth 100000
set_option linter.unusedSimpArgs false

def eqK (a b : Rk) : Bool := decide (a = b)
theorem eqK_is {a b : Rk} : eqK a b = true ↔ a = b := by simp [eqK]
/-- A type whose rows are compared field by field. -/
structure RE (T : TypeId) : Prop where
  f1 : Try.prog.underlying T = some (.struct (Try.prog.fieldsOf T))
  st : Try.prog.stoodInHeld T = false
  g1 : (Try.prog.fieldsOf T).toList.map (fun f => (f.name != "_", f.type, f.offset)) = [(true, 3, 0), (true, 3, 1), (true, 3, 2), (true, 4, 3)]
  gd : ∀ (w : World) (op : BinOp) (x y : Operand) (a b : Rk), (eqGuard op T x y (rkV a) (rkV b)).run Try.prog w = .ok () w
theorem cRe : RE 59 := ⟨by kernel_rfl, by kernel_rfl, by kernel_rfl, fun w op x y a b => run_eqGuard_agg w op 59 x y _ _ (by kernel_rfl)⟩
theorem rRe : RE 62 := ⟨by kernel_rfl, by kernel_rfl, by kernel_rfl, fun w op x y a b => run_eqGuard_agg w op 62 x y _ _ (by kernel_rfl)⟩
theorem eqInRk {T : TypeId} (R : RE T) (w : World) (a b : Rk) : (Op.equalIn 10000 T (rkV a) (rkV b)).run Try.prog w = .ok (eqK a b) w := by
  have p1 : ∀ (z : Rk) w, (part 3 #[.int .i64 z.c, .int .i64 z.h, .int .i64 z.n, .bool z.b] 0).run Try.prog w = .ok (.int .i64 z.c) w := fun z w => by kernel_rfl
  have p2 : ∀ (z : Rk) w, (part 3 #[.int .i64 z.c, .int .i64 z.h, .int .i64 z.n, .bool z.b] 1).run Try.prog w = .ok (.int .i64 z.h) w := fun z w => by kernel_rfl
  have p3 : ∀ (z : Rk) w, (part 3 #[.int .i64 z.c, .int .i64 z.h, .int .i64 z.n, .bool z.b] 2).run Try.prog w = .ok (.int .i64 z.n) w := fun z w => by kernel_rfl
  have p4 : ∀ (z : Rk) w, (part 4 #[.int .i64 z.c, .int .i64 z.h, .int .i64 z.n, .bool z.b] 3).run Try.prog w = .ok (.bool z.b) w := fun z w => by kernel_rfl
  have u : Try.prog.underlying 3 = some (.int .i64) := by kernel_rfl
  have u3 : Try.prog.underlying 4 = some .bool := by kernel_rfl
  have i9 : ∀ (x y : Int) (w : World), (Op.equalIn 9999 3 (.int .i64 x) (.int .i64 y)).run Try.prog w = .ok (x == y) w := fun x y w => run_equalIn_int w 9998 3 .i64 .i64 x y u
  have b9 : ∀ (x y : Bool) (w : World), (Op.equalIn 9999 4 (.bool x) (.bool y)).run Try.prog w = .ok (x == y) w := fun x y w => run_equalIn_bool w 9998 4 x y u3
  have e : eqK a b = (a.c == b.c && a.h == b.h && a.n == b.n && a.b == b.b) := by
    obtain ⟨a1, a2, a3, a4⟩ := a
    obtain ⟨b1, b2, b3, b4⟩ := b
    unfold eqK
    simp only [Rk.mk.injEq]
    rw [Bool.eq_iff_iff]
    simp [and_assoc]
  have g1 := R.g1
  unfold rkV Rk.cells
  rw [e, run_equalIn_agg w 9999 T _ _ R.f1 R.st]
  generalize (Try.prog.fieldsOf T).toList = fs at g1 ⊢
  obtain ⟨x, y, v, t, rfl⟩ : ∃ x y v t, fs = [x, y, v, t] := by
    have hl := congrArg List.length g1
    rw [List.length_map] at hl
    match fs, hl with
    | [x, y, v, t], _ => exact ⟨x, y, v, t, rfl⟩
  simp only [List.map_cons, List.map_nil, List.cons.injEq, Prod.mk.injEq, and_true, bne_iff_ne] at g1
  obtain ⟨⟨n1, t1, o1⟩, ⟨n2, t2, o2⟩, ⟨n3, t3, o3⟩, n4, t4, o4⟩ := g1
  cases h1 : a.c == b.c <;> cases h2 : a.h == b.h <;> cases h3 : a.n == b.n <;> cases h4 : a.b == b.b <;>
    simp only [Op.eqFields, n1, n2, n3, n4, t1, t2, t3, t4, o1, o2, o3, o4, p1, p2, p3, p4, h1, h2, h3, h4, i9, b9, if_true, if_false, Bool.not_true, Bool.not_false, Bool.false_eq_true, Sem.run_bind, Sem.run_ite, Sem.run_pure, Result.andThen_ok, ne_eq, not_false_eq_true, Bool.and_true, Bool.and_false, Bool.false_and, Bool.true_and]
theorem eqRk {T : TypeId} (R : RE T) (w : World) (a b : Rk) : (binOp .eql T (rkV a) (rkV b)).run Try.prog w = .ok (.bool (eqK a b)) w := by
  have h := eqInRk R w a b
  unfold rkV at h ⊢
  rw [run_eql_struct]
  simp [h, Result.andThen]
theorem neqRk {T : TypeId} (R : RE T) (w : World) (a b : Rk) : (binOp .neq T (rkV a) (rkV b)).run Try.prog w = .ok (.bool (!eqK a b)) w := by
  have h := eqInRk R w a b
  unfold rkV at h ⊢
  rw [run_neq_struct]
  simp [h, Result.andThen]
theorem exec_eqRk {T : TypeId} (R : RE T) {ρ : Operand → Value} {o : Oper} {w : World} (x y : Operand) (u : TypeId) (a b : Rk) (ho : o.op = .binOp .eql T x y u) (hx : ρ x = rkV a) (hy : ρ y = rkV b) : (execOp ρ o).run Try.prog w = .ok (.value (.bool (eqK a b))) w := by
  simp only [execOp, ho, hx, hy, Sem.run_bind, R.gd, eqRk R, Result.andThen_ok, Sem.run_pure]
theorem exec_neqRk {T : TypeId} (R : RE T) {ρ : Operand → Value} {o : Oper} {w : World} (x y : Operand) (u : TypeId) (a b : Rk) (ho : o.op = .binOp .neq T x y u) (hx : ρ x = rkV a) (hy : ρ y = rkV b) : (execOp ρ o).run Try.prog w = .ok (.value (.bool (!eqK a b))) w := by
  simp only [execOp, ho, hx, hy, Sem.run_bind, R.gd, neqRk R, Result.andThen_ok, Sem.run_pure]

def btwK (x lo hi : Int) : Bool := decide (lo ≤ x) && decide (x ≤ hi)
theorem btwK_is {x lo hi : Int} : btwK x lo hi = true ↔ lo ≤ x ∧ x ≤ hi := by simp [btwK]
theorem ret_boolK {a b : Bool} (h : a = b) : Ending.returned (.bool a) = .returned (.bool b) := by rw [h]
theorem tkWithin_as (w : World) (x lo hi : Int) (b : Bool) (h : btwK x lo hi = b) : Calls Try.prog 133 #[.int .i64 x, .int .i64 lo, .int .i64 hi] w fun e w' => e = .returned (.bool b) ∧ w = w' := by
  subst h
  unfold btwK
  by_cases h0 : lo ≤ x
  · by_cases h1 : x ≤ hi
    · go_enter Try.func133, Try.ntmps133
      go_wp2_with fail
      go_ret
      exact ⟨by simp [h0, h1], rfl⟩
    · go_enter Try.func133, Try.ntmps133
      go_wp2_with fail
      go_ret
      exact ⟨by simp [h1], rfl⟩
  · go_enter Try.func133, Try.ntmps133
    go_wp2_with fail
    go_ret
    exact ⟨by simp; omega, rfl⟩

def mayK (x : Rk) : Bool := btwK x.c 0 3 && (btwK x.h 0 3 && btwK x.n 2 128)
def atK (c h : Int) (x : Rk) : Bool := decide (c = x.c) && decide (h = x.h)
def aheadK (x y : Rk) : Bool := decide (x.c < y.c) || (decide (x.c = y.c) && decide (x.h < y.h))
def clashK (x y : Rk) : Bool := decide (x.n = y.n) && (x.b || y.b)
def PB (w : World) (b : Bool) (e : Ending) (w' : World) : Prop := e = .returned (.bool b) ∧ Keeps [] w w'

theorem rk_ret {fn : Func} {p : Tmp} (hr : fn.results = #[.cell p 59]) {tmps : Array Value} {w : World} {b : Nat} {x : Rk} (hp : tmps.getD p undef = .pointer (some ⟨b, 0, none⟩)) (hx : w.rangeAt b 0 x.cells) : (results fn tmps).run Try.prog w = .ok (rkV x) w := by
  have hp' : tmps[p]?.getD undef = .pointer (some ⟨b, 0, none⟩) := by simpa using hp
  have hv : (loadVar 59 ⟨b, 0, none⟩).run Try.prog w = .ok (rkV x) w := run_loadVar_mid w b 0 59 x.cells _ hx cRk.str rfl (by rw [cRk.size]; rfl)
  simp [results, hr, hp', asAddr, hv]
theorem build_place (w : World) (c h : Int) : (Instr.build 59 #[(0, .int .i64 c), (1, .int .i64 h)]).run Try.prog w = .ok (rkV ⟨c, h, 0, false⟩) w := by kernel_rfl
theorem exec_place {ρ : Operand → Value} {o : Oper} {w : World} (x y : Operand) (c h : Int) (ho : o.op = .build 59 #[(0, x), (1, y)]) (hx : ρ x = .int .i64 c) (hy : ρ y = .int .i64 h) : (execOp ρ o).run Try.prog w = .ok (.value (rkV ⟨c, h, 0, false⟩)) w := by
  simp only [execOp, ho, List.map_toArray, List.map_cons, List.map_nil, hx, hy, Sem.run_bind, build_place, Result.andThen_ok, Sem.run_pure]
theorem place_any (w : World) (c h : Int) : Calls Try.prog 74 #[.int .i64 c, .int .i64 h] w fun e w' => e = .returned (rkV ⟨c, h, 0, false⟩) ∧ Keeps [] w w' := by
  go_enter Try.func74, Try.ntmps74
  go_wp2_with (first | (refine wpList_allocRk cRk rfl rfl ?_) | (refine wpList_is rfl _ _ (exec_place _ _ c h rfl rfl rfl) ?_) | (refine wpList_newRk cRk rfl w _ _ rfl rfl rfl ⟨c, h, 0, false⟩ rfl ?_) | fail)
  refine bodyPost_ret (rk_ret rfl rfl (rkrange_new w _ _)) rfl ?_
  exact ⟨rfl, (Keeps.refl [] w).alloc _⟩
theorem at_is (c h : Int) (x : Rk) : eqK ⟨c, h, 0, false⟩ ⟨x.c, x.h, 0, false⟩ = atK c h x := by
  unfold eqK atK
  rw [Bool.eq_iff_iff]
  simp
set_option maxHeartbeats 3200000 in
theorem isPl_any (w : World) (c h : Int) (x : Rk) : Calls Try.prog 75 #[rkV ⟨c, h, 0, false⟩, rkV x] w (PB w (atK c h x)) := by
  have k1 : Keeps [] w (w.alloc (.cells (Rk.cells ⟨c, h, 0, false⟩).toArray 59)) := (Keeps.refl [] w).alloc _
  have k2 : Keeps [] w ((w.alloc (.cells (Rk.cells ⟨c, h, 0, false⟩).toArray 59)).alloc (.cells x.cells.toArray 59)) := k1.alloc _
  have R2 := rkrange_new (w.alloc (.cells (Rk.cells ⟨c, h, 0, false⟩).toArray 59)) x.cells 59
  have R1 := rkrange_keep (rkrange_new w (Rk.cells ⟨c, h, 0, false⟩) 59) ((Keeps.refl [] (w.alloc (.cells (Rk.cells ⟨c, h, 0, false⟩).toArray 59))).alloc (.cells x.cells.toArray 59)) (by simp)
  rw [World.size_alloc] at R2
  have AT := hid (at_is c h x)
  generalize hw2 : (w.alloc (.cells (Rk.cells ⟨c, h, 0, false⟩).toArray 59)).alloc (.cells x.cells.toArray 59) = w2 at R1 R2 k2
  have HW2 := hid hw2
  have H1 := hid R1
  obtain ⟨c0, c1, _, _⟩ := rkrange_at R2
  have K2 := hid k2
  have C0 := hid c0
  have C1 := hid c1
  have HL1 := hid (show w.heap.size + 1 < w2.heap.size by rw [← hw2]; simp)
  have HL := hid (show w.heap.size < w2.heap.size by rw [← hw2]; simp <;> omega)
  clear k1 k2 R1 R2 hw2 c0 c1
  go_enter Try.func75, Try.ntmps75
  go_wp2_with (first | (refine wpList_boxRk rfl _ rfl _ rfl ?_) | fail)
  rw [HW2.out]
  refine wp_region_any (by kernel_rfl) (wpAny_of_held (S := KpS [] w2.heap.size w2.drew) _ _ _ _ ?_)
  change wpAnyH _ _ _ _ _ _ _ _ w2.drew
  have D0 : ∀ W1, KpS [] w2.heap.size w2.drew W1 → W1.rangeAt w.heap.size 0 (Rk.cells ⟨c, h, 0, false⟩) := fun W1 h t u hu => h.cell (by rw [World.cell?_drew]; exact H1.out t u hu) HL.out (by simp)
  refine held_take (i := 0) (v := rkV ⟨c, h, 0, false⟩) rfl (by kernel_rfl) (by kernel_rfl) (by kernel_rfl) (fun _ _ _ h => h) rfl (fun W1 hW1 => exec_load _ _ _ _ rfl rfl (loadRk_run cRk W1 w.heap.size 0 _ (D0 W1 hW1))) (KpS.refl _ _ _) ?_
  simp only [Act.put, List.setIfInBounds_toArray, List.set_cons_zero, List.set_cons_succ]
  refine held_take (i := 1) (v := .pointer (some ⟨w.heap.size + 1, 0, none⟩)) rfl (by kernel_rfl) (by kernel_rfl) (by kernel_rfl) (fun _ _ _ h => h) rfl (fun W1 hW1 => by go_simp) (KpS.refl _ _ _) ?_
  simp only [Act.put, List.setIfInBounds_toArray, List.set_cons_zero, List.set_cons_succ]
  refine held_take (i := 2) (v := .int .i64 x.c) rfl (by kernel_rfl) (by kernel_rfl) (by kernel_rfl) (fun _ _ _ h => h) rfl (fun W1 hW1 => exec_load _ _ _ _ rfl rfl (run_loadCell W1 _ _ _ (hW1.cell (by rw [World.cell?_drew]; exact C0.out) HL1.out (by simp)) (agg_no _ (by kernel_rfl)))) (KpS.refl _ _ _) ?_
  simp only [Act.put, List.setIfInBounds_toArray, List.set_cons_zero, List.set_cons_succ]
  refine held_take (i := 3) (v := .pointer (some ⟨w.heap.size + 1, 1, none⟩)) rfl (by kernel_rfl) (by kernel_rfl) (by kernel_rfl) (fun _ _ _ h => h) rfl (fun W1 hW1 => by go_simp) (KpS.refl _ _ _) ?_
  simp only [Act.put, List.setIfInBounds_toArray, List.set_cons_zero, List.set_cons_succ]
  refine held_take (i := 4) (v := .int .i64 x.h) rfl (by kernel_rfl) (by kernel_rfl) (by kernel_rfl) (fun _ _ _ h => h) rfl (fun W1 hW1 => exec_load _ _ _ _ rfl rfl (run_loadCell W1 _ _ _ (hW1.cell (by rw [World.cell?_drew]; exact C1.out) HL1.out (by simp)) (agg_no _ (by kernel_rfl)))) (KpS.refl _ _ _) ?_
  simp only [Act.put, List.setIfInBounds_toArray, List.set_cons_zero, List.set_cons_succ]
  refine held_do (i := 5) (by kernel_rfl) rfl rfl (wp_enter (f := 74) (args := #[.int .i64 x.c, .int .i64 x.h]) (by go_simp) (place_any _ _ _) ?_)
  rintro e w3 ⟨rfl, k3⟩
  have s3 : KpS [] w2.heap.size w2.drew w3 := (KpS.refl _ _ _).keeps k3 (Nat.le_refl _) (by simp)
  refine ⟨_, rfl, s3, ?_⟩
  simp only [Act.put, List.setIfInBounds_toArray, List.set_cons_zero, List.set_cons_succ]
  refine held_take (i := 6) (v := .bool (atK c h x)) rfl (by kernel_rfl) (by kernel_rfl) (by kernel_rfl) (fun _ _ _ h => h) rfl (fun W1 hW1 => (exec_eqRk cRe _ _ _ ⟨c, h, 0, false⟩ ⟨x.c, x.h, 0, false⟩ rfl rfl rfl).trans (by rw [AT.out])) (s3) ?_
  simp only [Act.put, List.setIfInBounds_toArray, List.set_cons_zero, List.set_cons_succ]
  refine held_take (i := 7) (v := .bool (atK c h x)) rfl (by kernel_rfl) (by kernel_rfl) (by kernel_rfl) (fun _ _ _ h => h) rfl (fun W1 hW1 => by go_simp) (s3) ?_
  simp only [Act.put, List.setIfInBounds_toArray, List.set_cons_zero, List.set_cons_succ]
  refine wpAnyH_done (by kernel_rfl) ?_ _
  have K3 := hid (K2.out.drew.trans k3)
  clear D0 s3 k3
  go_wp2_with fail
  go_ret
  exact ⟨rfl, K3.out⟩

set_option maxHeartbeats 3200000 in
theorem clash_any (w : World) (r x : Rk) : Calls Try.prog 71 #[rkV r, rkV x] w (PB w (clashK r x)) := by
  obtain ⟨rc, rh, rn, rb⟩ := r
  obtain ⟨xc, xh, xn, xb⟩ := x
  change Calls Try.prog 71 #[.agg #[.int .i64 rc, .int .i64 rh, .int .i64 rn, .bool rb], .agg #[.int .i64 xc, .int .i64 xh, .int .i64 xn, .bool xb]] w _
  have KB := hid (((Keeps.refl [] w).alloc (.cells #[.int .i64 rc, .int .i64 rh, .int .i64 rn, .bool rb] 59)).alloc (.cells #[.int .i64 xc, .int .i64 xh, .int .i64 xn, .bool xb] 59))
  have E : Hid (clashK ⟨rc, rh, rn, rb⟩ ⟨xc, xh, xn, xb⟩ = (decide (rn = xn) && (rb || xb))) := hid rfl
  by_cases hn : rn = xn
  · have hn' : (rn == xn) = true := by simp [hn]
    have HN := hid hn
    clear hn
    cases rb with
    | true =>
      go_enter Try.func71, Try.ntmps71
      go_wp2_with fail
      go_ret
      exact ⟨ret_boolK (by rw [E.out]; simp [HN.out] <;> omega), KB.out⟩
    | false =>
      go_enter Try.func71, Try.ntmps71
      go_wp2_with fail
      go_ret
      exact ⟨ret_boolK (by rw [E.out]; simp [HN.out] <;> omega), KB.out⟩
  · have hn' : (rn == xn) = false := by simp [hn]
    have HN := hid hn
    clear hn
    go_enter Try.func71, Try.ntmps71
    go_wp2_with fail
    go_ret
    exact ⟨ret_boolK (by rw [E.out]; simp [HN.out] <;> omega), KB.out⟩
set_option maxHeartbeats 3200000 in
theorem ahead_any (w : World) (r x : Rk) : Calls Try.prog 134 #[rkV r, rkV x] w (PB w (aheadK r x)) := by
  obtain ⟨rc, rh, rn, rb⟩ := r
  obtain ⟨xc, xh, xn, xb⟩ := x
  change Calls Try.prog 134 #[.agg #[.int .i64 rc, .int .i64 rh, .int .i64 rn, .bool rb], .agg #[.int .i64 xc, .int .i64 xh, .int .i64 xn, .bool xb]] w _
  have KB := hid (((Keeps.refl [] w).alloc (.cells #[.int .i64 rc, .int .i64 rh, .int .i64 rn, .bool rb] 59)).alloc (.cells #[.int .i64 xc, .int .i64 xh, .int .i64 xn, .bool xb] 59))
  have E : Hid (aheadK ⟨rc, rh, rn, rb⟩ ⟨xc, xh, xn, xb⟩ = (decide (rc < xc) || (decide (rc = xc) && decide (rh < xh)))) := hid rfl
  by_cases h1 : rc < xc
  · have HN := hid h1
    have h1' : decide (rc < xc) = true := by simp [h1]
    clear h1
    go_enter Try.func134, Try.ntmps134
    go_wp2_with fail
    go_ret
    exact ⟨ret_boolK (by rw [E.out]; simp [HN.out] <;> omega), KB.out⟩
  · have HN := hid h1
    have h1' : decide (rc < xc) = false := by simp [h1]
    clear h1
    by_cases hn : rc = xc
    · have hn' : (rc == xc) = true := by simp [hn]
      have HM := hid hn
      clear hn
      go_enter Try.func134, Try.ntmps134
      go_wp2_with fail
      go_ret
      exact ⟨ret_boolK (by rw [E.out]; simp [HN.out, HM.out] <;> omega), KB.out⟩
    · have hn' : (rc == xc) = false := by simp [hn]
      have HM := hid hn
      clear hn
      go_enter Try.func134, Try.ntmps134
      go_wp2_with fail
      go_ret
      exact ⟨ret_boolK (by rw [E.out]; simp [HN.out, HM.out] <;> omega), KB.out⟩
def freeIno (n : Int) (x : Rk) : Bool := decide (x.n = n)
def sameCl (c : Int) (x : Rk) : Bool := decide (x.c = c)
set_option maxHeartbeats 3200000 in
theorem busyF_any (w : World) (q : Nat) (n : Int) (x : Rk) (hq : w.cell? ⟨q, 0, none⟩ = some (.int .i64 n)) : Calls Try.prog 81 #[rkV x, .pointer (some ⟨q, 0, none⟩)] w (PB w (freeIno n x)) := by
  obtain ⟨rc, rh, rn, rb⟩ := x
  change Calls Try.prog 81 #[.agg #[.int .i64 rc, .int .i64 rh, .int .i64 rn, .bool rb], .pointer (some ⟨q, 0, none⟩)] w _
  have KB := hid ((Keeps.refl [] w).alloc (.cells #[.int .i64 rc, .int .i64 rh, .int .i64 rn, .bool rb] 59))
  have C := KB.out.cell' hq (by simp)
  clear hq
  go_enter Try.func81, Try.ntmps81
  go_wp2_with fail
  go_ret
  exact ⟨ret_boolK (by unfold freeIno; rw [Bool.eq_iff_iff]; simp), KB.out⟩
set_option maxHeartbeats 3200000 in
theorem dropF_any (w : World) (q : Nat) (n : Int) (x : Rk) (hq : w.cell? ⟨q, 0, none⟩ = some (.int .i64 n)) : Calls Try.prog 76 #[rkV x, .pointer (some ⟨q, 0, none⟩)] w (PB w (sameCl n x)) := by
  obtain ⟨rc, rh, rn, rb⟩ := x
  change Calls Try.prog 76 #[.agg #[.int .i64 rc, .int .i64 rh, .int .i64 rn, .bool rb], .pointer (some ⟨q, 0, none⟩)] w _
  have KB := hid ((Keeps.refl [] w).alloc (.cells #[.int .i64 rc, .int .i64 rh, .int .i64 rn, .bool rb] 59))
  have C := KB.out.cell' hq (by simp)
  clear hq
  go_enter Try.func76, Try.ntmps76
  go_wp2_with fail
  go_ret
  exact ⟨ret_boolK (by unfold sameCl; rw [Bool.eq_iff_iff]; simp), KB.out⟩
set_option maxHeartbeats 3200000 in
theorem mayBe_any (w : World) (x : Rk) : Calls Try.prog 68 #[rkV x] w (PB w (mayK x)) := by
  obtain ⟨rc, rh, rn, rb⟩ := x
  change Calls Try.prog 68 #[.agg #[.int .i64 rc, .int .i64 rh, .int .i64 rn, .bool rb]] w _
  have KB := hid ((Keeps.refl [] w).alloc (.cells #[.int .i64 rc, .int .i64 rh, .int .i64 rn, .bool rb] 59))
  obtain ⟨b1, e1⟩ : ∃ b, btwK rc 0 3 = b := ⟨_, rfl⟩
  obtain ⟨b2, e2⟩ : ∃ b, btwK rh 0 3 = b := ⟨_, rfl⟩
  obtain ⟨b3, e3⟩ : ∃ b, btwK rn 2 128 = b := ⟨_, rfl⟩
  have E : Hid (mayK ⟨rc, rh, rn, rb⟩ = (b1 && (b2 && b3))) := hid (by unfold mayK; simp only [e1, e2, e3])
  have E1 := hid e1
  have E2 := hid e2
  have E3 := hid e3
  clear e1 e2 e3
  cases b1 with
  | false =>
    go_enter Try.func68, Try.ntmps68
    go_wp2_with (first | (refine (tkWithin_as _ _ _ _ _ E1.out).mono ?_; rintro e _ ⟨rfl, rfl⟩) | fail)
    go_ret
    exact ⟨ret_boolK (by rw [E.out]; rfl), KB.out⟩
  | true =>
    cases b2 with
    | false =>
      go_enter Try.func68, Try.ntmps68
      go_wp2_with fail
      refine (tkWithin_as _ _ _ _ _ E1.out).mono ?_
      rintro e _ ⟨rfl, rfl⟩
      go_wp2_with fail
      refine (tkWithin_as _ _ _ _ _ E2.out).mono ?_
      rintro e _ ⟨rfl, rfl⟩
      go_wp2_with fail
      go_ret
      exact ⟨ret_boolK (by rw [E.out]; rfl), KB.out⟩
    | true =>
      go_enter Try.func68, Try.ntmps68
      go_wp2_with fail
      refine (tkWithin_as _ _ _ _ _ E1.out).mono ?_
      rintro e _ ⟨rfl, rfl⟩
      go_wp2_with fail
      refine (tkWithin_as _ _ _ _ _ E2.out).mono ?_
      rintro e _ ⟨rfl, rfl⟩
      go_wp2_with fail
      refine (tkWithin_as _ _ _ _ _ E3.out).mono ?_
      rintro e _ ⟨rfl, rfl⟩
      go_wp2_with fail
      go_ret
      exact ⟨ret_boolK (by rw [E.out]; simp), KB.out⟩
end Go.Proofs.Ytjohikekhgcepaa
