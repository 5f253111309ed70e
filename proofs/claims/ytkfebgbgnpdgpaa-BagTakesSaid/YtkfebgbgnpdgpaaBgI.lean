/- bag: the walk of Take. -/
import Derived.Test.YtkfebgbgnpdgpaaBgH
namespace Go.Proofs.Ytkfebgbgnpdgpaa
open Go.RowKit Go.Shelf
set_option maxRecDepth 100000

section
variable {ops : Array Oper} {rest : List Oper} {o : Oper} {a : Act} {w : World} {Q : Exit → Act → World → Prop}
theorem run_storeMg {E T : TypeId} (mt : MT E T) (w : World) (b : Nat) (old : Array Value) (ho : old.size = 3) (hb : w.heap[b]? = some (.cells old E (0, 0))) (x0 x1 x2 : Value) (h1 : (#[x0, x1, x2].all (·.oneCell')) = true) :
    (Instr.storeAt E (.pointer (some ⟨b, 0, none⟩)) (.agg #[x0, x1, x2])).run Try.prog w = .ok () (w.setRow b #[x0, x1, x2]) := by
  have hi : (Try.prog.info? E).map (·.size) = some 3 := by
    obtain ⟨i0, hi, hz0, hz1, hz2⟩ := info_parts mt.inf
    simp [hi, hz1]
  simp only [Instr.storeAt, Instr.sureAddr, Sem.run_bind, Sem.run_pure, Result.andThen_ok]
  exact run_storeVar_row w b E E old #[x0, x1, x2] hb hi ho h1

theorem setRow_keeps {w : World} {b : Nat} {old cs : Array Value} {E : TypeId} (hb : w.heap[b]? = some (.cells old E (0, 0))) : (w.setRow b cs).heap[b]? = some (.cells cs E (0, 0)) ∧ Keeps [b] w (w.setRow b cs) ∧ (w.setRow b cs).heap.size = w.heap.size :=
  ⟨setRow_heap w b old cs E (0, 0) hb, ⟨rfl, rfl, rfl, by simp [World.setRow], fun k _ hm => setRow_other w b k cs (by simpa using hm)⟩, by simp [World.setRow]⟩

theorem wpList_storeMg {E T : TypeId} (mt : MT E T) (hgd : o.guard = none) (x y : Operand) (hop : o.op = .store E x y) (b : Nat) (hx : a.eval x = .pointer (some ⟨b, 0, none⟩)) (old : Array Value) (ho : old.size = 3)
    (hb : w.heap[b]? = some (.cells old E (0, 0))) (x0 x1 x2 : Value) (hy : a.eval y = .agg #[x0, x1, x2]) (h1 : (#[x0, x1, x2].all (·.oneCell')) = true)
    (h : ∀ w', Hid (w'.heap[b]? = some (.cells #[x0, x1, x2] E (0, 0))) → Hid (Keeps [b] w w') → wpList Try.prog ops Q rest (a.put o.dst undef) w') : wpList Try.prog ops Q (o :: rest) a w := by
  refine wpList_plain hgd fun K hK => ?_
  have hr := run_storeMg mt w b old ho hb x0 x1 x2 h1
  obtain ⟨s1, s2, _⟩ := setRow_keeps (cs := #[x0, x1, x2]) hb
  refine wp_stored (w' := w.setRow b #[x0, x1, x2]) ?_ (hK _ _ (h _ s1 s2))
  unfold execOp
  simp only [hop, hx, hy, hr, Sem.run_bind, Result.andThen_ok]
  rfl
end

theorem res_cell_slot {P : Program} {fn : Func} {p q : Tmp} {ty : TypeId} (h : fn.results = #[.cell p ty, .tmp q]) (tmps : Array Value) (w : World) (g : Nat) (t : TypeId) (cs : Array Value) (fr : Nat × Nat) (d : TypeDesc)
    (hp : tmps.getD p undef = .pointer (some ⟨g, 0, none⟩)) (hg : w.heap[g]? = some (.cells cs t fr))
    (hu : P.underlying ty = some d) (hd : (match d with | .struct _ | .array _ _ => true | _ => false) = true) (hi : (P.info? ty).map (·.size) = some cs.size) (v : Value) (hq : tmps.getD q undef = v) :
    (results fn tmps).run P w = .ok (.tuple #[.agg cs, v]) w := by
  have hp' : tmps[p]?.getD undef = .pointer (some ⟨g, 0, none⟩) := by simpa using hp
  have hq' : tmps[q]?.getD undef = v := by simpa using hq
  simp [results, h, hp', hq', asAddr, run_loadVar_row w g t ty cs fr d hg hu hd hi]

theorem info_rows7 : (Try.prog.info? 39).map (fun i => (i.zero, i.size, i.bytes)) = some (some (.slice none 0 0), 1, 24) := by kernel_rfl
/-- A row of two rows of messages in new memory. -/
theorem exec_twoRows {ρ : Operand → Value} {o : Oper} {w : World} (x y : Operand) (a1 : Option Addr) (n1 c1 : Nat) (a2 : Option Addr) (n2 c2 : Nat) (ho : o.op = .buildSlice 90 2 #[(0, x), (1, y)]) (hx : ρ x = .slice a1 n1 c1) (hy : ρ y = .slice a2 n2 c2) :
    (execOp ρ o).run Try.prog w = .ok (.value (.slice (some ⟨w.heap.size, 0, none⟩) 2 2)) (w.alloc (.cells #[.slice a1 n1 c1, .slice a2 n2 c2] 39)) := by
  obtain ⟨ie, hie, hz, hs, _⟩ := info_parts info_rows7
  have h : (Instr.buildSlice 90 2 #[(0, .slice a1 n1 c1), (1, .slice a2 n2 c2)]).run Try.prog w = .ok (.slice (some ⟨w.heap.size, 0, none⟩) 2 2) (w.alloc (.cells #[.slice a1 n1 c1, .slice a2 n2 c2] 39)) := by
    refine run_buildSlice w _ _ 2 _ _ ie _ Try.underlying90 hie hz (by rw [hs]; decide) (by rw [hs]; decide) ?_
    rw [hs]
    have e : (Array.range (2 * 1)) = #[0, 1] := rfl
    have e2 : (Value.slice none 0 0).cells = #[.slice none 0 0] := rfl
    have e3 : (Value.slice a1 n1 c1).cells = #[.slice a1 n1 c1] := rfl
    have e4 : (Value.slice a2 n2 c2).cells = #[.slice a2 n2 c2] := rfl
    simp only [Instr.fill, e, e2, e3, e4]
    simp
  simp only [execOp, ho, List.map_toArray, List.map_cons, List.map_nil, hx, hy, Sem.run_bind, h, Result.andThen_ok, Sem.run_pure]

def TakePost7 (T E : TypeId) (w : World) (p : Nat) (X : List Nat) (v : Value) (most : Int) (ms : List Mg) (n : Int) (e : Ending) (w' : World) : Prop :=
  (ms = [] ∧ e = .returned (.tuple #[.agg #[.int .i64 0, .int .i64 0, .slice none 0 0], .bool false]) ∧ Keeps [] w w') ∨
  (∃ i, ∃ h : i < ms.length, n % (ms.length : Int) = i ∧ ∃ m' Y, e = .returned (.tuple #[mgV m', .bool true]) ∧ con m' = con ms[i] ∧ MgOk w' Y m' ∧ Fr w (bfoot p X v) Y ∧ (∀ b ∈ Y, b < w'.heap.size) ∧
    ∃ X' v', BagAt T E w' p X' v' most (ms.take i ++ ms.drop (i + 1)) ∧ Keeps (bfoot p X v) w w' ∧ Fr w (bfoot p X v) (bfoot p X' v'))

theorem pick_is {n : Int} {ms : List Mg} (h : ms ≠ []) : ∃ i, i < ms.length ∧ n % (ms.length : Int) = (i : Nat) := by
  have hpos : 0 < ms.length := List.length_pos_iff.2 h
  obtain ⟨h1, h2⟩ := mod_lo n ms.length hpos
  exact ⟨(n % (ms.length : Int)).toNat, by omega, by omega⟩

theorem runMg_zero {w : World} : (Instr.build 33 #[]).run Try.prog w = .ok (.agg #[.int .i64 0, .int .i64 0, .slice none 0 0]) w := by kernel_rfl

set_option maxHeartbeats 6400000 in
theorem bTake_any (w : World) (p : Nat) (X : List Nat) (v : Value) (most : Int) (ms : List Mg) (H : BagAt 75 33 w p X v most ms) (n : Int) (hn : i64 n) :
    Calls Try.prog 14 #[.pointer (some ⟨p, 0, none⟩), .int .i64 n] w (TakePost7 75 33 w p X v most ms n) := by
  have fits := H.fits
  have m2 := H.m2
  have ka := (Keeps.refl [] w).alloc (.cells #[.int .i64 0, .int .i64 0, .slice none 0 0] 33)
  have b1 := heap_alloc_new w (.cells #[.int .i64 0, .int .i64 0, .slice none 0 0] 33)
  have za : (w.alloc (.cells #[.int .i64 0, .int .i64 0, .slice none 0 0] 33)).heap.size = w.heap.size + 1 := by simp
  have KA := hid ka
  have B1 := hid b1
  have ZA := hid za
  have HA := hid (H.later ka)
  have LT := hid H.lt
  have XL := hid H.own.lt
  by_cases h0 : ms = []
  · subst h0
    clear H ka b1 za
    go_enter Try.func14, Try.ntmps14
    go_wp2_with fail
    generalize w.alloc (.cells #[.int .i64 0, .int .i64 0, .slice none 0 0] 33) = wA at KA B1 HA ZA ⊢
    refine (bLen_any wA p X v most [] HA.out).mono ?_
    rintro e _ ⟨rfl, rfl⟩
    go_wp2_with (first | (refine wpList_storeMg mtB rfl _ _ rfl _ rfl #[.int .i64 0, .int .i64 0, .slice none 0 0] rfl B1.out (.int .i64 0) (.int .i64 0) (.slice none 0 0) rfl (by simp [Value.oneCell']) ?_; intro w1 s1 s2) | fail)
    refine bodyPost_ret (v := .tuple #[.agg #[.int .i64 0, .int .i64 0, .slice none 0 0], .bool false]) (res_cell_slot rfl _ _ _ _ _ _ _ rfl s1.out Try.underlying33 rfl (by kernel_rfl) _ rfl) rfl ?_
    exact Or.inl ⟨rfl, rfl, KA.out.trans' s2.out (fun i hi hm => by simp at hm; omega)⟩
  · obtain ⟨i, hi, hmod⟩ := pick_is (n := n) h0
    have hpos : 0 < ms.length := by omega
    have hz1 : ((ms.length : Int) == 0) = false := by simp; omega
    have HMOD := hid hmod
    have HN := hid hn
    obtain ⟨a0, cp, hv⟩ := H.own.shape
    subst hv
    clear H ka b1 za hmod h0 hn
    go_enter Try.func14, Try.ntmps14
    go_wp2_with fail
    generalize w.alloc (.cells #[.int .i64 0, .int .i64 0, .slice none 0 0] 33) = wA at KA B1 HA ZA ⊢
    refine (bLen_any wA p X _ most ms HA.out).mono ?_
    rintro e _ ⟨rfl, rfl⟩
    go_wp2_with fail
    refine (bLen_any wA p X _ most ms HA.out).mono ?_
    rintro e _ ⟨rfl, rfl⟩
    go_wp2_with fail
    refine (bModulo_any wA n HN.out ms.length hpos (by omega)).mono ?_
    rintro e _ ⟨rfl, rfl⟩
    rw [HMOD.out]
    have c1 := HA.out.c1
    obtain ⟨g, off, ha, _, gl, d0, d1, d2⟩ := HA.out.own.at.at i hi
    subst ha
    obtain ⟨ra, rc, hrow, _⟩ := (HA.out.own.ok ms[i] (List.getElem_mem _)).row
    rw [hrow] at d2
    have HROW := hid hrow
    clear hrow
    go_wp2_with fail
    have ZB := hid (show (wA.alloc (.cells #[.int .i64 ms[i].f, .int .i64 ms[i].t, .slice ra ms[i].bs.length rc] 33)).heap.size = wA.heap.size + 1 by simp)
    have KB := hid ((Keeps.refl [] wA).alloc (.cells #[.int .i64 ms[i].f, .int .i64 ms[i].t, .slice ra ms[i].bs.length rc] 33))
    have B7 := hid (heap_alloc_new wA (.cells #[.int .i64 ms[i].f, .int .i64 ms[i].t, .slice ra ms[i].bs.length rc] 33))
    generalize wA.alloc (.cells #[.int .i64 ms[i].f, .int .i64 ms[i].t, .slice ra ms[i].bs.length rc] 33) = wB at KB B7 ZB ⊢
    have HB := hid (HA.out.later KB.out)
    have BR := hid ((KB.out.block _ (by have := ZA.out; omega) (by simp)).trans B1.out)
    have S1 := hid ((msgs_take mtB HB.out.own.at i (by omega)).1)
    obtain ⟨a1, sd1, _, sd2⟩ := msgs_drop mtB HB.out.own.at (i + 1) (by omega)
    have S2 := hid sd1
    have T1 := hid ((msgs_take mtB HB.out.own.at i (by omega)).2.2 wB HB.out.own.at)
    have T2 := hid (sd2 wB HB.out.own.at)
    clear sd1 sd2 c1 d0 d1 d2 gl
    have hw1 : IntKind.i64.wrap ((i : Int) + 1) = (i : Int) + 1 := by rw [IntKind.wrap_i64]; omega
    refine wp_region_any (by kernel_rfl) (wpAny_of_late (late := [18]) (S := KpS [] wB.heap.size wB.drew) _ _ _ _ ?_)
    change wpAnyT _ _ _ _ _ _ _ _ _ wB.drew
    have cP : ∀ W1, KpS [] wB.heap.size wB.drew W1 → W1.cell? ⟨p, 1, none⟩ = some (.slice (some ⟨g, off, none⟩) ms.length cp) := fun W1 h => h.cell (by rw [World.cell?_drew]; exact HB.out.c1) HB.out.lt (by simp)
    refine late_take (i := 0) (v := .pointer (some ⟨p, 0, none⟩)) rfl (by kernel_rfl) (by kernel_rfl) (by kernel_rfl) (by kernel_rfl) (by kernel_rfl) (fun _ _ _ h => h) rfl (fun W1 hW1 => rfl) (KpS.refl _ _ _) ?_
    simp only [Act.put, List.setIfInBounds_toArray, List.set_cons_zero, List.set_cons_succ]
    refine late_take (i := 1) (v := .pointer (some ⟨p, 0, none⟩)) rfl (by kernel_rfl) (by kernel_rfl) (by kernel_rfl) (by kernel_rfl) (by kernel_rfl) (fun _ _ _ h => h) rfl (fun W1 hW1 => rfl) (KpS.refl _ _ _) ?_
    simp only [Act.put, List.setIfInBounds_toArray, List.set_cons_zero, List.set_cons_succ]
    refine late_take (i := 2) (v := .pointer (some ⟨p, 0, none⟩)) rfl (by kernel_rfl) (by kernel_rfl) (by kernel_rfl) (by kernel_rfl) (by kernel_rfl) (fun _ _ _ h => h) rfl (fun W1 hW1 => by go_simp) (KpS.refl _ _ _) ?_
    simp only [Act.put, List.setIfInBounds_toArray, List.set_cons_zero, List.set_cons_succ]
    refine late_take (i := 3) (v := .pointer (some ⟨p, 1, none⟩)) rfl (by kernel_rfl) (by kernel_rfl) (by kernel_rfl) (by kernel_rfl) (by kernel_rfl) (fun _ _ _ h => h) rfl (fun W1 hW1 => by go_simp) (KpS.refl _ _ _) ?_
    simp only [Act.put, List.setIfInBounds_toArray, List.set_cons_zero, List.set_cons_succ]
    refine late_take (i := 4) (v := .slice (some ⟨g, off, none⟩) ms.length cp) rfl (by kernel_rfl) (by kernel_rfl) (by kernel_rfl) (by kernel_rfl) (by kernel_rfl) (fun _ _ _ h => h) rfl (fun W1 hW1 => exec_load _ _ _ _ rfl rfl (run_loadCell W1 _ _ _ (cP W1 hW1) (agg_no _ (by kernel_rfl)))) (KpS.refl _ _ _) ?_
    simp only [Act.put, List.setIfInBounds_toArray, List.set_cons_zero, List.set_cons_succ]
    refine late_take (i := 5) (v := .int .i64 i) rfl (by kernel_rfl) (by kernel_rfl) (by kernel_rfl) (by kernel_rfl) (by kernel_rfl) (fun _ _ _ h => h) rfl (fun W1 hW1 => rfl) (KpS.refl _ _ _) ?_
    simp only [Act.put, List.setIfInBounds_toArray, List.set_cons_zero, List.set_cons_succ]
    refine late_take (i := 6) (v := .slice (some ⟨g, off, none⟩) i cp) rfl (by kernel_rfl) (by kernel_rfl) (by kernel_rfl) (by kernel_rfl) (by kernel_rfl) (fun _ _ _ h => h) rfl (fun W1 hW1 => exec_sliceR _ _ _ _ _ rfl (S1.out W1)) (KpS.refl _ _ _) ?_
    simp only [Act.put, List.setIfInBounds_toArray, List.set_cons_zero, List.set_cons_succ]
    refine late_take (i := 7) (v := .pointer (some ⟨p, 0, none⟩)) rfl (by kernel_rfl) (by kernel_rfl) (by kernel_rfl) (by kernel_rfl) (by kernel_rfl) (fun _ _ _ h => h) rfl (fun W1 hW1 => rfl) (KpS.refl _ _ _) ?_
    simp only [Act.put, List.setIfInBounds_toArray, List.set_cons_zero, List.set_cons_succ]
    refine late_take (i := 8) (v := .pointer (some ⟨p, 0, none⟩)) rfl (by kernel_rfl) (by kernel_rfl) (by kernel_rfl) (by kernel_rfl) (by kernel_rfl) (fun _ _ _ h => h) rfl (fun W1 hW1 => by go_simp) (KpS.refl _ _ _) ?_
    simp only [Act.put, List.setIfInBounds_toArray, List.set_cons_zero, List.set_cons_succ]
    refine late_take (i := 9) (v := .pointer (some ⟨p, 1, none⟩)) rfl (by kernel_rfl) (by kernel_rfl) (by kernel_rfl) (by kernel_rfl) (by kernel_rfl) (fun _ _ _ h => h) rfl (fun W1 hW1 => by go_simp) (KpS.refl _ _ _) ?_
    simp only [Act.put, List.setIfInBounds_toArray, List.set_cons_zero, List.set_cons_succ]
    refine late_take (i := 10) (v := .slice (some ⟨g, off, none⟩) ms.length cp) rfl (by kernel_rfl) (by kernel_rfl) (by kernel_rfl) (by kernel_rfl) (by kernel_rfl) (fun _ _ _ h => h) rfl (fun W1 hW1 => exec_load _ _ _ _ rfl rfl (run_loadCell W1 _ _ _ (cP W1 hW1) (agg_no _ (by kernel_rfl)))) (KpS.refl _ _ _) ?_
    simp only [Act.put, List.setIfInBounds_toArray, List.set_cons_zero, List.set_cons_succ]
    refine late_take (i := 11) (v := .int .i64 i) rfl (by kernel_rfl) (by kernel_rfl) (by kernel_rfl) (by kernel_rfl) (by kernel_rfl) (fun _ _ _ h => h) rfl (fun W1 hW1 => rfl) (KpS.refl _ _ _) ?_
    simp only [Act.put, List.setIfInBounds_toArray, List.set_cons_zero, List.set_cons_succ]
    refine late_take (i := 12) (v := .int .i64 ((i + 1 : Nat) : Int)) rfl (by kernel_rfl) (by kernel_rfl) (by kernel_rfl) (by kernel_rfl) (by kernel_rfl) (fun _ _ _ h => h) rfl (fun W1 hW1 => by go_simp) (KpS.refl _ _ _) ?_
    simp only [Act.put, List.setIfInBounds_toArray, List.set_cons_zero, List.set_cons_succ]
    refine late_take (i := 13) (v := .slice a1 (ms.length - (i + 1)) (cp - (i + 1))) rfl (by kernel_rfl) (by kernel_rfl) (by kernel_rfl) (by kernel_rfl) (by kernel_rfl) (fun _ _ _ h => h) rfl (fun W1 hW1 => exec_sliceR _ _ _ _ _ rfl (S2.out W1)) (KpS.refl _ _ _) ?_
    simp only [Act.put, List.setIfInBounds_toArray, List.set_cons_zero, List.set_cons_succ]
    refine late_do (i := 14) (by kernel_rfl) rfl rfl (wp_value (exec_twoRows _ _ _ _ _ _ _ _ rfl rfl rfl) ?_)
    have kC : Keeps [] wB (wB.drew.alloc (.cells #[.slice (some ⟨g, off, none⟩) i cp, .slice a1 (ms.length - (i + 1)) (cp - (i + 1))] 39)) := (Keeps.refl [] wB).drew.alloc _
    have sC : KpS [] wB.heap.size wB.drew (wB.drew.alloc (.cells #[.slice (some ⟨g, off, none⟩) i cp, .slice a1 (ms.length - (i + 1)) (cp - (i + 1))] 39)) := (KpS.refl _ _ _).alloc (by simp) _
    have bC := heap_alloc_new wB.drew (.cells #[.slice (some ⟨g, off, none⟩) i cp, .slice a1 (ms.length - (i + 1)) (cp - (i + 1))] 39)
    refine ⟨Or.inr sC, ?_⟩
    simp only [Act.put, List.setIfInBounds_toArray, List.set_cons_zero, List.set_cons_succ]
    generalize wB.drew.alloc (.cells #[.slice (some ⟨g, off, none⟩) i cp, .slice a1 (ms.length - (i + 1)) (cp - (i + 1))] 39) = wC at kC sC bC ⊢
    have lt1 : (ms.take i).length = i := by rw [List.length_take]; omega
    have lt2 : (ms.drop (i + 1)).length = ms.length - (i + 1) := by rw [List.length_drop]
    have t1 : MsgsAt wC X (.slice (some ⟨g, off, none⟩) (ms.take i).length cp) (ms.take i) := by rw [lt1]; exact T1.out.keep kC
    have t2 : MsgsAt wC X (.slice a1 (ms.drop (i + 1)).length (cp - (i + 1))) (ms.drop (i + 1)) := by rw [lt2]; exact T2.out.keep kC
    have hXl : ∀ k ∈ X, k < wC.heap.size := fun k hk => Nat.lt_of_lt_of_le (HB.out.own.lt k hk) kC.size
    refine late_do (i := 15) (by kernel_rfl) rfl rfl (wp_enter (f := 38) (args := #[.slice (some ⟨wB.drew.heap.size, 0, none⟩) 2 2]) (by go_simp) (bConcat_any wC X hXl wB.drew.heap.size (some ⟨g, off, none⟩) a1 cp (cp - (i + 1)) (ms.take i) (ms.drop (i + 1)) (by rw [lt1, lt2]; exact bC) t1 t2 (by omega) (by omega)) ?_)
    rintro e wD ⟨a3, c3, rfl, o3, k3⟩
    have sD := sC.keeps k3 kC.size (by simp)
    have kD := kC.trans k3
    refine ⟨_, rfl, Or.inr sD, ?_⟩
    simp only [Act.put, List.setIfInBounds_toArray, List.set_cons_zero, List.set_cons_succ]
    refine late_take (i := 16) (v := .pointer (some ⟨p, 0, none⟩)) rfl (by kernel_rfl) (by kernel_rfl) (by kernel_rfl) (by kernel_rfl) (by kernel_rfl) (fun _ _ _ h => h) rfl (fun W1 hW1 => by go_simp) (sD) ?_
    simp only [Act.put, List.setIfInBounds_toArray, List.set_cons_zero, List.set_cons_succ]
    refine late_take (i := 17) (v := .pointer (some ⟨p, 1, none⟩)) rfl (by kernel_rfl) (by kernel_rfl) (by kernel_rfl) (by kernel_rfl) (by kernel_rfl) (fun _ _ _ h => h) rfl (fun W1 hW1 => by go_simp) (sD) ?_
    simp only [Act.put, List.setIfInBounds_toArray, List.set_cons_zero, List.set_cons_succ]
    have hD := HB.out.later kD
    have cd := hD.c1
    have fd := hD.f1
    refine late_do (i := 18) (by kernel_rfl) rfl rfl (wp_stored (w' := wD.setCell ⟨p, 1, none⟩ (.slice a3 (ms.take i ++ ms.drop (i + 1)).length c3)) (by go_simp) ⟨Or.inl rfl, ?_⟩)
    simp only [Act.put]
    refine wpAnyT_done (by kernel_rfl) ?_ _
    have kAB := KA.out.trans KB.out
    have hzC := kC.size
    have hzAB := kAB.size
    have hl3 : ((ms.take i ++ ms.drop (i + 1)).length : Int) ≤ most := by rw [List.length_append, lt1, lt2]; omega
    have R := hid (bag_stored hD (kAB.trans kD) LT.out (o3.base (fun b hb => by have := (o3.blk b hb).1; omega)) (X' := X) (fun b hb => Or.inl hb) hl3)
    have OW := hid (R.out.2.1)
    have RN : Hid (∀ b ∈ bfoot p X (.slice a3 (ms.take i ++ ms.drop (i + 1)).length c3), b ≠ w.heap.size) := hid (fun b hb e => by
      have := LT.out
      have := ZA.out
      have := KB.out.size
      rcases mem_bfoot.1 hb with hb | hb | hb
      · omega
      · have := (o3.blk b hb).1; omega
      · have := XL.out b hb; omega)
    have MM := hid ((HB.out.own.ok ms[i] (List.getElem_mem _)).keep kD (by simp))
    have BR5 : Hid ((wD.setCell ⟨p, 1, none⟩ (.slice a3 (ms.take i ++ ms.drop (i + 1)).length c3)).heap[w.heap.size]? = some (.cells #[.int .i64 0, .int .i64 0, .slice none 0 0] 33 (0, 0))) := hid (by
      rw [heap_setCell_other _ _ _ _ (by have := LT.out; simp; omega), kD.block _ (lt_of_block BR.out) (by simp)]
      exact BR.out)
    have B75 : Hid ((wD.setCell ⟨p, 1, none⟩ (.slice a3 (ms.take i ++ ms.drop (i + 1)).length c3)).heap[wA.heap.size]? = some (.cells #[.int .i64 ms[i].f, .int .i64 ms[i].t, .slice ra ms[i].bs.length rc] 33 (0, 0))) := hid (by
      rw [heap_setCell_other _ _ _ _ (by have := LT.out; have := ZA.out; simp; omega), kD.block _ (lt_of_block B7.out) (by simp)]
      exact B7.out)
    have MS : Hid (MgOk (wD.setCell ⟨p, 1, none⟩ (.slice a3 (ms.take i ++ ms.drop (i + 1)).length c3)) X ms[i]) := hid (MM.out.keep ((Keeps.refl [p] wD).setCell (p := ⟨p, 1, none⟩) (Or.inl (by simp)) _) (fun b hb hm => by simp at hm; subst hm; exact HB.out.pX hb))
    generalize wD.setCell ⟨p, 1, none⟩ (.slice a3 (ms.take i ++ ms.drop (i + 1)).length c3) = wE at R OW BR5 B75 MS ⊢
    clear cP kC sC bC lt1 lt2 t1 t2 hXl o3 k3 sD kD hD cd fd kAB hzC hzAB hl3 hw1
    have LA := hid (show w.heap.size < wA.heap.size ∧ wA.heap.size < wE.heap.size from ⟨by have := ZA.out; omega, lt_of_block B75.out⟩)
    obtain ⟨e0, e1, e2, _⟩ := row_block3 B75.out
    have ldB := hid (loadB e0 e1 e2)
    clear e0 e1 e2
    go_wp2_with (first | (refine wpList_is rfl _ _ (exec_load _ _ _ _ rfl rfl ldB.out) ?_) | (refine wpList_is rfl _ _ (exec_oneMg mtB _ _ _ _ _ _ rfl rfl) ?_) | fail)
    have kF := (Keeps.refl [] wE).alloc (.cells #[.int .i64 ms[i].f, .int .i64 ms[i].t, .slice ra ms[i].bs.length rc] 33)
    have oF := one_msgs (E := 33) MS.out HROW.out
    generalize wE.alloc (.cells #[.int .i64 ms[i].f, .int .i64 ms[i].t, .slice ra ms[i].bs.length rc] 33) = wF at kF oF ⊢
    refine (bCopied_any wF _ _ [ms[i]] oF (by simp)).mono ?_
    rintro e wG ⟨a4, c4, g4, ms1, rfl, o4, hc4, hg4, k4⟩
    obtain ⟨m', rfl, hcm⟩ : ∃ m', ms1 = [m'] ∧ con m' = con ms[i] := by
      match ms1, hc4 with
      | [z], hc => exact ⟨z, rfl, by simpa using hc⟩
    have KG := hid (kF.trans k4)
    have O4 := hid o4
    have G4 := hid hg4
    have HCM := hid hcm
    obtain ⟨g5, off5, ha5, _, gl5, x0, x1, x2⟩ := o4.at.at 0 (by simp)
    subst ha5
    simp only [List.getElem_singleton, Nat.zero_mul, Nat.add_zero] at x0 x1 x2
    obtain ⟨ra5, rc5, hrow5, _⟩ := (o4.ok m' (by simp)).row
    have HROW5 := hid hrow5
    rw [hrow5] at x2
    have ldG := hid (loadB x0 x1 x2)
    have BRG := hid ((KG.out.block _ (lt_of_block BR5.out) (by simp)).trans BR5.out)
    have KF4 := hid kF.size
    clear x0 x1 x2 kF oF o4 hc4 hg4 k4 hcm hrow5
    go_wp2_with (first | (refine wpList_is rfl _ _ (exec_load _ _ _ _ rfl rfl ldG.out) ?_) | (refine wpList_storeMg mtB rfl _ _ rfl _ rfl #[.int .i64 0, .int .i64 0, .slice none 0 0] rfl BRG.out (.int .i64 m'.f) (.int .i64 m'.t) (.slice ra5 m'.bs.length rc5) rfl (by simp [Value.oneCell']) ?_; intro w1 s1 s2) | fail)
    refine bodyPost_ret (v := .tuple #[.agg #[.int .i64 m'.f, .int .i64 m'.t, .slice ra5 m'.bs.length rc5], .bool true]) (res_cell_slot rfl _ _ _ _ _ _ _ rfl s1.out Try.underlying33 rfl (by kernel_rfl) _ rfl) rfl ?_
    have hLA := LA.out
    have hzG := KG.out.size
    have hg4' := G4.out
    have hF4 := KF4.out
    refine Or.inr ⟨i, hi, HMOD.out, m', [g4], by rw [mgV, HROW5.out], HCM.out, (O4.out.ok m' (by simp)).keep s2.out (fun b hb hm => by simp at hb hm; omega), fun b hb => Or.inr (by simp at hb; omega), fun b hb => Nat.lt_of_lt_of_le (O4.out.lt b hb) s2.out.size, X, _, (R.out.1.later KG.out).keep s2.out (fun b hb hm => RN.out b hb (by simpa using hm)), OW.out.trans' ((KG.out.mono (S' := [w.heap.size]) (by simp)).trans s2.out) (fun j hj hm => by simp at hm; omega), R.out.2.2⟩
end Go.Proofs.Ytkfebgbgnpdgpaa
