/- note: entries are compared; SameEntries, SameReply; the law's Reply. -/
import Derived.Test.YtoglcohdanpciaaNtJ
import Derived.Laws.StructEq
import Derived.BigQuiet
namespace Go.Proofs.Ytoglcohdanpciaa
open Go.RowKit Go.Shelf
set_option maxRecDepth 100000
set_option linter.unusedSimpArgs false
set_option linter.unusedVariables false

theorem toL_inj {a b : ByteArray} : (a.toList == b.toList) = decide (a = b) := by
  by_cases h : a = b
  · rw [h]; simp
  · have : a.toList ≠ b.toList := fun e => h (by
      rw [Lib.toList_data, Lib.toList_data] at e
      cases a; cases b
      simp only at e
      rw [Array.toList_inj.1 e])
    rw [decide_eq_false h]
    simpa using this
def eqEnt (a b : Ent) : Bool := decide (a = b)
theorem eqInEnt (w : World) (a b : Ent) : (Op.equalIn 10000 102 (KEnt.v a) (KEnt.v b)).run Try.prog w = .ok (eqEnt a b) w := by
  have f1 : Try.prog.underlying 102 = some (.struct (Try.prog.fieldsOf 102)) := by kernel_rfl
  have p1 : ∀ (z : Ent) w, (part 9 #[.string z.nm, .int .i64 z.ino, .bool z.dir] 0).run Try.prog w = .ok (.string z.nm) w := fun z w => by kernel_rfl
  have p2 : ∀ (z : Ent) w, (part 3 #[.string z.nm, .int .i64 z.ino, .bool z.dir] 1).run Try.prog w = .ok (.int .i64 z.ino) w := fun z w => by kernel_rfl
  have p3 : ∀ (z : Ent) w, (part 4 #[.string z.nm, .int .i64 z.ino, .bool z.dir] 2).run Try.prog w = .ok (.bool z.dir) w := fun z w => by kernel_rfl
  have u : Try.prog.underlying 3 = some (.int .i64) := by kernel_rfl
  have u2 : Try.prog.underlying 9 = some .string := by kernel_rfl
  have u3 : Try.prog.underlying 4 = some .bool := by kernel_rfl
  have i9 : ∀ (x y : Int) (w : World), (Op.equalIn 9999 3 (.int .i64 x) (.int .i64 y)).run Try.prog w = .ok (x == y) w := fun x y w => run_equalIn_int w 9998 3 .i64 .i64 x y u
  have s9 : ∀ (x y : ByteArray) (w : World), (Op.equalIn 9999 9 (.string x) (.string y)).run Try.prog w = .ok (x.toList == y.toList) w := fun x y w => run_equalIn_string w 9998 9 x y u2
  have b9 : ∀ (x y : Bool) (w : World), (Op.equalIn 9999 4 (.bool x) (.bool y)).run Try.prog w = .ok (x == y) w := fun x y w => run_equalIn_bool w 9998 4 x y u3
  have e : eqEnt a b = (a.nm.toList == b.nm.toList && a.ino == b.ino && a.dir == b.dir) := by
    obtain ⟨a1, a2, a3⟩ := a
    obtain ⟨b1, b2, b3⟩ := b
    unfold eqEnt
    simp only [Ent.mk.injEq]
    rw [toL_inj, Bool.eq_iff_iff]
    simp [and_assoc]
  have g1 : (Try.prog.fieldsOf 102).toList.map (fun f => (f.name != "_", f.type, f.offset)) = [(true, 9, 0), (true, 3, 1), (true, 4, 2)] := by kernel_rfl
  have ea : KEnt.v a = .agg #[.string a.nm, .int .i64 a.ino, .bool a.dir] := rfl
  have eb : KEnt.v b = .agg #[.string b.nm, .int .i64 b.ino, .bool b.dir] := rfl
  rw [e, ea, eb, run_equalIn_agg w 9999 102 _ _ f1 (by kernel_rfl)]
  generalize (Try.prog.fieldsOf 102).toList = fs at g1 ⊢
  obtain ⟨x, y, v, rfl⟩ : ∃ x y v, fs = [x, y, v] := by
    have hl := congrArg List.length g1
    rw [List.length_map] at hl
    match fs, hl with
    | [x, y, v], _ => exact ⟨x, y, v, rfl⟩
  simp only [List.map_cons, List.map_nil, List.cons.injEq, Prod.mk.injEq, and_true, bne_iff_ne] at g1
  obtain ⟨⟨n1, t1, o1⟩, ⟨n2, t2, o2⟩, n3, t3, o3⟩ := g1
  cases h1 : a.nm.toList == b.nm.toList <;> cases h2 : a.ino == b.ino <;> cases h3 : a.dir == b.dir <;>
    simp only [Op.eqFields, n1, n2, n3, t1, t2, t3, o1, o2, o3, p1, p2, p3, h1, h2, h3, i9, s9, b9, if_true, if_false, Bool.not_true, Bool.not_false, Bool.false_eq_true, Sem.run_bind, Sem.run_ite, Sem.run_pure, Result.andThen_ok, ne_eq, not_false_eq_true, Bool.and_true, Bool.and_false, Bool.false_and, Bool.true_and]
theorem neqEnt (w : World) (a b : Ent) : (binOp .neq 102 (KEnt.v a) (KEnt.v b)).run Try.prog w = .ok (.bool (!eqEnt a b)) w := by
  have h := eqInEnt w a b
  unfold Kn.v at h ⊢
  rw [run_neq_struct]
  simp [h, Result.andThen]
theorem exec_neqEnt {ρ : Operand → Value} {o : Oper} {w : World} (x y : Operand) (u : TypeId) (a b : Ent) (ho : o.op = .binOp .neq 102 x y u) (hx : ρ x = KEnt.v a) (hy : ρ y = KEnt.v b) : (execOp ρ o).run Try.prog w = .ok (.value (.bool (!eqEnt a b))) w := by
  have hg : (eqGuard .neq 102 x y (KEnt.v a) (KEnt.v b)).run Try.prog w = .ok () w := run_eqGuard_agg w .neq 102 x y _ _ (by kernel_rfl)
  simp only [execOp, ho, hx, hy, Sem.run_bind, hg, neqEnt, Result.andThen_ok, Sem.run_pure]
theorem take_eqN {α : Type} {a b : List α} {k : Nat} (ha : k < a.length) (hb : k < b.length) (h : a.take k = b.take k) : a[k] = b[k] ↔ a.take (k + 1) = b.take (k + 1) := by
  rw [List.take_succ_eq_append_getElem ha, List.take_succ_eq_append_getElem hb, h]
  exact ⟨fun e => by rw [e], fun e => List.singleton_inj.1 (List.append_cancel_left e)⟩
set_option maxHeartbeats 6400000 in
theorem sameE_any (w : World) (v u : Value) (a b : List Ent) (h : LsAt KEnt w v a) (h2 : LsAt KEnt w u b) : Calls Try.prog 101 #[v, u] w (PBn w (decide (a = b))) := by
  have F1 := h.few
  have F2 := h2.few
  unfold maxLen at F1 F2
  obtain ⟨av, cv, rfl⟩ := h.shape
  obtain ⟨au, cu, rfl⟩ := h2.shape
  have H := hid h
  have H2 := hid h2
  clear h h2
  by_cases hne : a.length = b.length
  case neg =>
    have d1 : ((a.length : Int) != (b.length : Int)) = true := by simp; omega
    have HN := hid (show decide (a = b) = false from decide_eq_false (fun e => hne (by rw [e])))
    clear hne
    go_enter Try.func101, Try.ntmps101
    go_wp2_with fail
    go_ret
    exact ⟨by rw [HN.out]; rfl, Keeps.refl _ _⟩
  have d1 : ((a.length : Int) != (b.length : Int)) = false := by simp; omega
  have HN := hid hne
  clear hne
  go_enter Try.func101, Try.ntmps101
  go_wp2_with fail
  go_loopw [5] (fun iv wr => ∃ i : Nat, iv = .int .i64 (i : Int) ∧ i ≤ a.length ∧ Hid (a.take i = b.take i) ∧ Hid (Keeps [] w wr)) (fun iv _ => a.length - (intOf iv).toNat)
  case atStart => exact ⟨0, rfl, by omega, hid rfl, hid (Keeps.refl _ _)⟩
  case round =>
    obtain ⟨i, rfl, hi, HT, HK⟩ := hrel
    by_cases hlt : i < a.length
    · have hlt2 : i < b.length := by rw [← HN.out]; exact hlt
      obtain ⟨g, off, e1, hg, R0⟩ := (H.out.keep HK.out).at i hlt
      obtain ⟨g2, off2, e2, hg2, S0⟩ := (H2.out.keep HK.out).at i hlt2
      subst e1
      subst e2
      have TE := hid (take_eqN hlt hlt2 HT.out)
      obtain ⟨x, hx⟩ : ∃ x, x = a[i]'hlt := ⟨_, rfl⟩
      obtain ⟨y, hy⟩ : ∃ x, x = b[i]'hlt2 := ⟨_, rfl⟩
      rw [← hx] at R0 TE
      rw [← hy] at S0 TE
      have R := hid R0
      have S := hid S0
      have HG := hid hg
      have HG2 := hid hg2
      have HLT := hid hlt
      clear hx hy R0 S0 hg hg2
      have CE : Hid (∀ bb : Bool, eqEnt x y = bb → (!eqEnt x y) = !bb) := hid (fun bb e => by rw [e])
      cases hq : eqEnt x y
      case false =>
        have HQ := hid hq
        have NE := hid (show decide (a = b) = false from decide_eq_false (fun e => by
          have : x = y := TE.out.2 (by rw [e])
          have h3 := HQ.out
          unfold eqEnt at h3
          rw [decide_eq_true this] at h3
          cases h3))
        clear hq
        go_wp2_with fail
        refine wp_region_any (by kernel_rfl) (wpAny_of_held (S := KpS [] wr.heap.size wr.drew) _ _ _ _ ?_)
        change wpAnyH _ _ _ _ _ _ _ _ wr.drew
        refine held_take (i := 0) (v := .slice (some ⟨g, off, none⟩) a.length cv) rfl (by kernel_rfl) (by kernel_rfl) (by kernel_rfl) (fun _ _ _ h => h) rfl (fun W1 hW1 => rfl) (KpS.refl _ _ _) ?_
        simp only [Act.put, List.setIfInBounds_toArray, List.set_cons_zero, List.set_cons_succ]
        refine held_take (i := 1) (v := .int .i64 (i : Int)) rfl (by kernel_rfl) (by kernel_rfl) (by kernel_rfl) (fun _ _ _ h => h) rfl (fun W1 hW1 => rfl) (KpS.refl _ _ _) ?_
        simp only [Act.put, List.setIfInBounds_toArray, List.set_cons_zero, List.set_cons_succ]
        refine held_take (i := 2) (v := .pointer (some ⟨g, off + i * 3, none⟩)) rfl (by kernel_rfl) (by kernel_rfl) (by kernel_rfl) (fun _ _ _ h => h) rfl (fun W1 hW1 => by go_simp) (KpS.refl _ _ _) ?_
        simp only [Act.put, List.setIfInBounds_toArray, List.set_cons_zero, List.set_cons_succ]
        refine held_take (i := 3) (v := KEnt.v x) rfl (by kernel_rfl) (by kernel_rfl) (by kernel_rfl) (fun _ _ _ h => h) rfl (fun W1 hW1 => exec_load _ _ _ _ rfl rfl (load_run cEnt W1 g (off + i * 3) x (fun t u hu => hW1.cell (by rw [World.cell?_drew]; exact R.out t u hu) HG.out (by simp)))) (KpS.refl _ _ _) ?_
        simp only [Act.put, List.setIfInBounds_toArray, List.set_cons_zero, List.set_cons_succ]
        refine held_take (i := 4) (v := .slice (some ⟨g2, off2, none⟩) b.length cu) rfl (by kernel_rfl) (by kernel_rfl) (by kernel_rfl) (fun _ _ _ h => h) rfl (fun W1 hW1 => rfl) (KpS.refl _ _ _) ?_
        simp only [Act.put, List.setIfInBounds_toArray, List.set_cons_zero, List.set_cons_succ]
        refine held_take (i := 5) (v := .int .i64 (i : Int)) rfl (by kernel_rfl) (by kernel_rfl) (by kernel_rfl) (fun _ _ _ h => h) rfl (fun W1 hW1 => rfl) (KpS.refl _ _ _) ?_
        simp only [Act.put, List.setIfInBounds_toArray, List.set_cons_zero, List.set_cons_succ]
        refine held_take (i := 6) (v := .pointer (some ⟨g2, off2 + i * 3, none⟩)) rfl (by kernel_rfl) (by kernel_rfl) (by kernel_rfl) (fun _ _ _ h => h) rfl (fun W1 hW1 => by go_simp) (KpS.refl _ _ _) ?_
        simp only [Act.put, List.setIfInBounds_toArray, List.set_cons_zero, List.set_cons_succ]
        refine held_take (i := 7) (v := KEnt.v y) rfl (by kernel_rfl) (by kernel_rfl) (by kernel_rfl) (fun _ _ _ h => h) rfl (fun W1 hW1 => exec_load _ _ _ _ rfl rfl (load_run cEnt W1 g2 (off2 + i * 3) y (fun t u hu => hW1.cell (by rw [World.cell?_drew]; exact S.out t u hu) HG2.out (by simp)))) (KpS.refl _ _ _) ?_
        simp only [Act.put, List.setIfInBounds_toArray, List.set_cons_zero, List.set_cons_succ]
        refine held_take (i := 8) (v := .bool true) rfl (by kernel_rfl) (by kernel_rfl) (by kernel_rfl) (fun _ _ _ h => h) rfl (fun W1 hW1 => (exec_neqEnt _ _ _ x y rfl rfl rfl).trans (by rw [HQ.out]; rfl)) (KpS.refl _ _ _) ?_
        simp only [Act.put, List.setIfInBounds_toArray, List.set_cons_zero, List.set_cons_succ]
        refine wpAnyH_done (by kernel_rfl) ?_ _
        go_wp2_with fail
        go_ret
        exact ⟨by rw [NE.out]; rfl, HK.out.drew⟩
      case true =>
        have HQ := hid hq
        have XY := hid (show a.take (i + 1) = b.take (i + 1) from TE.out.1 (by unfold eqEnt at hq; exact of_decide_eq_true hq))
        clear hq
        go_wp2_with fail
        refine wp_region_any (by kernel_rfl) (wpAny_of_held (S := KpS [] wr.heap.size wr.drew) _ _ _ _ ?_)
        change wpAnyH _ _ _ _ _ _ _ _ wr.drew
        refine held_take (i := 0) (v := .slice (some ⟨g, off, none⟩) a.length cv) rfl (by kernel_rfl) (by kernel_rfl) (by kernel_rfl) (fun _ _ _ h => h) rfl (fun W1 hW1 => rfl) (KpS.refl _ _ _) ?_
        simp only [Act.put, List.setIfInBounds_toArray, List.set_cons_zero, List.set_cons_succ]
        refine held_take (i := 1) (v := .int .i64 (i : Int)) rfl (by kernel_rfl) (by kernel_rfl) (by kernel_rfl) (fun _ _ _ h => h) rfl (fun W1 hW1 => rfl) (KpS.refl _ _ _) ?_
        simp only [Act.put, List.setIfInBounds_toArray, List.set_cons_zero, List.set_cons_succ]
        refine held_take (i := 2) (v := .pointer (some ⟨g, off + i * 3, none⟩)) rfl (by kernel_rfl) (by kernel_rfl) (by kernel_rfl) (fun _ _ _ h => h) rfl (fun W1 hW1 => by go_simp) (KpS.refl _ _ _) ?_
        simp only [Act.put, List.setIfInBounds_toArray, List.set_cons_zero, List.set_cons_succ]
        refine held_take (i := 3) (v := KEnt.v x) rfl (by kernel_rfl) (by kernel_rfl) (by kernel_rfl) (fun _ _ _ h => h) rfl (fun W1 hW1 => exec_load _ _ _ _ rfl rfl (load_run cEnt W1 g (off + i * 3) x (fun t u hu => hW1.cell (by rw [World.cell?_drew]; exact R.out t u hu) HG.out (by simp)))) (KpS.refl _ _ _) ?_
        simp only [Act.put, List.setIfInBounds_toArray, List.set_cons_zero, List.set_cons_succ]
        refine held_take (i := 4) (v := .slice (some ⟨g2, off2, none⟩) b.length cu) rfl (by kernel_rfl) (by kernel_rfl) (by kernel_rfl) (fun _ _ _ h => h) rfl (fun W1 hW1 => rfl) (KpS.refl _ _ _) ?_
        simp only [Act.put, List.setIfInBounds_toArray, List.set_cons_zero, List.set_cons_succ]
        refine held_take (i := 5) (v := .int .i64 (i : Int)) rfl (by kernel_rfl) (by kernel_rfl) (by kernel_rfl) (fun _ _ _ h => h) rfl (fun W1 hW1 => rfl) (KpS.refl _ _ _) ?_
        simp only [Act.put, List.setIfInBounds_toArray, List.set_cons_zero, List.set_cons_succ]
        refine held_take (i := 6) (v := .pointer (some ⟨g2, off2 + i * 3, none⟩)) rfl (by kernel_rfl) (by kernel_rfl) (by kernel_rfl) (fun _ _ _ h => h) rfl (fun W1 hW1 => by go_simp) (KpS.refl _ _ _) ?_
        simp only [Act.put, List.setIfInBounds_toArray, List.set_cons_zero, List.set_cons_succ]
        refine held_take (i := 7) (v := KEnt.v y) rfl (by kernel_rfl) (by kernel_rfl) (by kernel_rfl) (fun _ _ _ h => h) rfl (fun W1 hW1 => exec_load _ _ _ _ rfl rfl (load_run cEnt W1 g2 (off2 + i * 3) y (fun t u hu => hW1.cell (by rw [World.cell?_drew]; exact S.out t u hu) HG2.out (by simp)))) (KpS.refl _ _ _) ?_
        simp only [Act.put, List.setIfInBounds_toArray, List.set_cons_zero, List.set_cons_succ]
        refine held_take (i := 8) (v := .bool false) rfl (by kernel_rfl) (by kernel_rfl) (by kernel_rfl) (fun _ _ _ h => h) rfl (fun W1 hW1 => (exec_neqEnt _ _ _ x y rfl rfl rfl).trans (by rw [HQ.out]; rfl)) (KpS.refl _ _ _) ?_
        simp only [Act.put, List.setIfInBounds_toArray, List.set_cons_zero, List.set_cons_succ]
        refine wpAnyH_done (by kernel_rfl) ?_ _
        go_wp2_with fail
        go_roundw
        case rel => exact ⟨i + 1, by go_num, by have := HLT.out; omega, XY, hid HK.out.drew⟩
        case measure => have := HLT.out; simp [intOf]; omega
    · obtain rfl : i = a.length := by omega
      have EQ := hid (show decide (a = b) = true from decide_eq_true (by
        have := HT.out
        rw [List.take_length] at this
        rw [this, HN.out, List.take_length]))
      go_wp2_with fail
      go_ret
      exact ⟨by rw [EQ.out]; rfl, HK.out⟩
end Go.Proofs.Ytoglcohdanpciaa
