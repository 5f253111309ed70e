/- note: how entries, sized stripes, deltas, a request and a reply that came in are read. -/
import Derived.Test.YtoglcohdanpciaaNtG
import Derived.Test.YtoglcohdanpciaaJB2
import Derived.Deep.Strs
import Derived.ChangeSame
import Derived.ChangeMaps5
namespace Go.Proofs.Ytoglcohdanpciaa
open Go.Deep Go.ChangeShapes Go.WideShapes Go.ChangeAt Go.RowKit Go.Shelf
set_option maxRecDepth 100000
set_option linter.unusedSimpArgs false
set_option linter.unusedVariables false

section
variable {H : Type} {enc : TypeId × Value → H}
/-- A slice of a kind that came in. -/
theorem ls_of_trod {α : Type} {K : Kn α} {T TS : TypeId} {Q : α → Prop} {W : World} {fuel : Nat} {cs : List Value} {x : DataW H × List MemPlace} (hc : Try.prog.cellsOf T = K.n) (hlen : ∀ y, (K.cells y).length = K.n) (hp : 0 < K.n) (hu : Try.prog.underlying TS = some (.slice T))
    (op : ∀ (fuel : Nat) (cs : List Value) (x : DataW H × List MemPlace), cs.length = K.n → DataW.trod enc Try.prog W 0 (fun _ => true) true fuel T cs = some x → ∃ d, cs = K.cells d ∧ Q d)
    (h : DataW.trod enc Try.prog W 0 (fun _ => true) true fuel TS cs = some x) : ∃ v ds, cs = [v] ∧ LsAt K W v ds ∧ ∀ d ∈ ds, Q d := by
  rcases Go.Deep.open_slice hu h with ⟨rfl, _⟩ | ⟨a, len, cap, m, n, D, Pl, rfl, _, hl, hm, hmm, rfl, hi⟩
  · exact ⟨_, [], rfl, ⟨none, 0, rfl, by simp, by simp, fun _ => rfl, fun h => absurd rfl h⟩, by simp⟩
  · simp only [if_true] at hmm
    subst hmm
    by_cases h0 : len = 0
    · subst h0
      exact ⟨_, [], rfl, ⟨some a, m, rfl, by simp, hm, by simp, fun h => absurd rfl h⟩, by simp⟩
    · obtain ⟨g, off, sp⟩ := a
      have hsp : sp = none := by
        obtain ⟨cs0, hc0, _⟩ := hi 0 (by omega)
        rw [hc] at hc0
        obtain ⟨_, hl4, hat⟩ := World.cells?_some hc0
        have := hat 0 (by omega)
        rw [List.getElem?_eq_getElem (by omega)] at this
        have hs := World.cell?_spot this
        simpa [Addr.add] using hs
      subst hsp
      obtain ⟨ds, hdl, hda⟩ := list_of (P := fun i (d : α) => W.rangeAt g (off + i * K.n) (K.cells d) ∧ Q d) len (fun i hil => by
        obtain ⟨cs', hc1, ht⟩ := hi i (by omega)
        rw [hc, Addr.add_lit] at hc1
        obtain ⟨_, hl4b, hat⟩ := World.cells?_some hc1
        have hr : W.rangeAt g (off + i * K.n) cs' := fun j u hu => by
          have hj := (List.getElem?_eq_some_iff.1 hu).1
          have := hat j (by omega)
          rw [Addr.add_lit] at this
          rw [this]; exact hu
        obtain ⟨d, rfl, hq⟩ := op _ _ _ hl4b ht
        exact ⟨d, hr, hq⟩)
      refine ⟨_, ds, rfl, ⟨some ⟨g, off, none⟩, m, by rw [hdl], by omega, hm, by simp, fun _ => ⟨g, off, rfl, ?_, fun i hi => (hda i hi).1⟩⟩, ?_⟩
      · have h1 := (hda 0 (by omega)).1
        have h2 := hlen (ds[0]'(by omega))
        have := h1 0 ((K.cells (ds[0]'(by omega)))[0]'(by omega)) (List.getElem?_eq_getElem (by omega))
        exact World.block_lt_of_cell? _ _ this
      · intro d hd
        obtain ⟨i, hi', rfl⟩ := List.getElem_of_mem hd
        exact (hda i hi').2
/-- Bytes that came in. -/
theorem rowN_of_trod {W : World} {fuel : Nat} {cs : List Value} {x : DataW H × List MemPlace} (h : DataW.trod enc Try.prog W 0 (fun _ => true) true fuel 34 cs = some x) : ∃ v zs, cs = [v] ∧ RowAt W v zs := by
  rcases open_ints Try.underlying34 Try.underlying5 cells_u8 h with ⟨rfl, _⟩ | ⟨a, len, cap, zs, rfl, _, hl, hm, hz, rfl, hcell, hwz⟩
  · exact ⟨_, [], rfl, RowAt.nil W⟩
  · simp only [if_true] at hz
    have hlen : (zs.take len).length = len := by rw [List.length_take]; omega
    refine ⟨_, zs.take len, rfl, ⟨some a, cap, by rw [hlen], by rw [hlen]; exact hl, hm, by simp, ?_, ?_⟩⟩
    · intro z hzm
      exact bounds_u8 (hwz z (List.mem_of_mem_take hzm))
    · intro ad had j u hu
      obtain rfl := Option.some.inj had
      have hj : j < len := by
        have := (List.getElem?_eq_some_iff.1 hu).1
        simp at this; omega
      rw [hcell j (by omega), ← hu]
      rw [List.getElem?_map, List.getElem?_take, if_pos hj, List.getElem?_eq_getElem (by omega), List.getD_eq_getElem?_getD, List.getElem?_eq_getElem (by omega)]
      rfl
theorem cStrT : Try.prog.cellsOf 9 = 1 := by kernel_rfl
theorem cIntT : Try.prog.cellsOf 3 = 1 := by kernel_rfl
theorem cBoolT : Try.prog.cellsOf 4 = 1 := by kernel_rfl
theorem cEntT : Try.prog.cellsOf 102 = 3 := by kernel_rfl
theorem cEntsT : Try.prog.cellsOf 71 = 1 := by kernel_rfl
theorem cStT : Try.prog.cellsOf 30 = 3 := by kernel_rfl
theorem cSpT : Try.prog.cellsOf 85 = 3 := by kernel_rfl
theorem cSzT : Try.prog.cellsOf 143 = 4 := by kernel_rfl
theorem cSzsT : Try.prog.cellsOf 86 = 1 := by kernel_rfl
theorem cDlsT : Try.prog.cellsOf 80 = 1 := by kernel_rfl
theorem cBytesT : Try.prog.cellsOf 34 = 1 := by kernel_rfl
theorem cRepT : Try.prog.cellsOf 100 = 8 := by kernel_rfl
theorem cReqT : Try.prog.cellsOf 88 = 14 := by kernel_rfl

theorem ent_of_trod {W : World} {fuel : Nat} {cs : List Value} {x : DataW H × List MemPlace} (hl : cs.length = 3) (h : DataW.trod enc Try.prog W 0 (fun _ => true) true fuel 102 cs = some x) : ∃ d : Ent, cs = KEnt.cells d ∧ d.nm.size ≤ maxLen ∧ (Lit.int .i64 d.ino).wf = true := by
  match cs, hl with
  | [c0, c1, c2], _ =>
    obtain ⟨ys, n, _, hx, _, hyl, hf⟩ := DataW.trod_struct Try.underlying102 h
    have t0 : DataW.trod enc Try.prog W 0 (fun _ => true) true n 9 (([c0, c1, c2].drop 0).take (Try.prog.cellsOf 9)) = ys[0]? := hf 0 _ rfl
    have t1 : DataW.trod enc Try.prog W 0 (fun _ => true) true n 3 (([c0, c1, c2].drop 1).take (Try.prog.cellsOf 3)) = ys[1]? := hf 1 _ rfl
    have t2 : DataW.trod enc Try.prog W 0 (fun _ => true) true n 4 (([c0, c1, c2].drop 2).take (Try.prog.cellsOf 4)) = ys[2]? := hf 2 _ rfl
    simp only [cStrT, cIntT, cBoolT, List.drop_zero, List.drop_succ_cons, List.take_succ_cons, List.take_zero] at t0 t1 t2
    match ys, hyl with
    | [y0, y1, y2], _ =>
      simp only [List.getElem?_cons_zero, List.getElem?_cons_succ] at t0 t1 t2
      obtain ⟨z0, e0, _, w0⟩ := DataW.trod_string Try.underlying9 t0
      injection e0 with e0 _
      subst e0
      obtain ⟨z1, e1, _, w1⟩ := DataW.trod_int Try.underlying3 t1
      injection e1 with e1 _
      subst e1
      obtain ⟨z2, e2, _⟩ := DataW.trod_bool Try.underlying4 t2
      injection e2 with e2 _
      subst e2
      exact ⟨⟨z0, z1, z2⟩, rfl, w0, w1⟩
theorem st3_of_trod {W : World} {fuel : Nat} {T : TypeId} {f0 f1 f2 : Field} {c0 c1 c2 : Value} {x : DataW H × List MemPlace} (hu : Try.prog.underlying T = some (.struct #[f0, f1, f2])) (q0 : f0.type = 3 ∧ f0.offset = 0) (q1 : f1.type = 3 ∧ f1.offset = 1) (q2 : f2.type = 3 ∧ f2.offset = 2) (h : DataW.trod enc Try.prog W 0 (fun _ => true) true fuel T [c0, c1, c2] = some x) :
    ∃ z0 z1 z2, c0 = .int .i64 z0 ∧ c1 = .int .i64 z1 ∧ c2 = .int .i64 z2 ∧ (Lit.int .i64 z0).wf = true ∧ (Lit.int .i64 z1).wf = true ∧ (Lit.int .i64 z2).wf = true := by
  obtain ⟨y0, y1, y2, m2, e, _, t0, t1, t2⟩ := trod_struct3 hu h
  rw [q0.1, q0.2] at t0
  rw [q1.1, q1.2] at t1
  rw [q2.1, q2.2] at t2
  simp only [cIntT, List.drop_zero, List.drop_succ_cons, List.take_succ_cons, List.take_zero, List.take_nil] at t0 t1 t2
  obtain ⟨z0, e0, _, w0⟩ := DataW.trod_int Try.underlying3 t0
  obtain ⟨z1, e1, _, w1⟩ := DataW.trod_int Try.underlying3 t1
  obtain ⟨z2, e2, _, w2⟩ := DataW.trod_int Try.underlying3 t2
  simp at e0 e1 e2
  exact ⟨z0, z1, z2, e0, e1, e2, w0, w1, w2⟩
theorem sz_of_trod {W : World} {fuel : Nat} {cs : List Value} {x : DataW H × List MemPlace} (hl : cs.length = 4) (h : DataW.trod enc Try.prog W 0 (fun _ => true) true fuel 143 cs = some x) : ∃ d : Sz, cs = KSz.cells d ∧ (Lit.int .i64 d.c).wf = true ∧ (Lit.int .i64 d.l).wf = true ∧ (Lit.int .i64 d.n).wf = true ∧ (Lit.int .i64 d.s).wf = true := by
  match cs, hl with
  | [c0, c1, c2, c3], _ =>
    obtain ⟨ys, n, _, hx, _, hyl, hf⟩ := DataW.trod_struct Try.underlying143 h
    have t0 : DataW.trod enc Try.prog W 0 (fun _ => true) true n 30 (([c0, c1, c2, c3].drop 0).take (Try.prog.cellsOf 30)) = ys[0]? := hf 0 _ rfl
    have t1 : DataW.trod enc Try.prog W 0 (fun _ => true) true n 3 (([c0, c1, c2, c3].drop 3).take (Try.prog.cellsOf 3)) = ys[1]? := hf 1 _ rfl
    simp only [cStT, cIntT, List.drop_zero, List.drop_succ_cons, List.take_succ_cons, List.take_zero] at t0 t1
    match ys, hyl with
    | [y0, y1], _ =>
      simp only [List.getElem?_cons_zero, List.getElem?_cons_succ] at t0 t1
      obtain ⟨z0, z1, z2, rfl, rfl, rfl, w0, w1, w2⟩ := st3_of_trod Try.underlying30 ⟨rfl, rfl⟩ ⟨rfl, rfl⟩ ⟨rfl, rfl⟩ t0
      obtain ⟨z3, e3, _, w3⟩ := DataW.trod_int Try.underlying3 t1
      injection e3 with e3 _
      subst e3
      exact ⟨⟨z0, z1, z2, z3⟩, rfl, w0, w1, w2, w3⟩
theorem ents_of_trod {W : World} {fuel : Nat} {cs : List Value} {x : DataW H × List MemPlace} (h : DataW.trod enc Try.prog W 0 (fun _ => true) true fuel 71 cs = some x) : ∃ v ds, cs = [v] ∧ LsAt KEnt W v ds ∧ ∀ d ∈ ds, d.nm.size ≤ maxLen ∧ (Lit.int .i64 d.ino).wf = true :=
  ls_of_trod cEntT (fun _ => rfl) (by decide) Try.underlying71 (fun _ _ _ hl h => ent_of_trod hl h) h
theorem szs_of_trod {W : World} {fuel : Nat} {cs : List Value} {x : DataW H × List MemPlace} (h : DataW.trod enc Try.prog W 0 (fun _ => true) true fuel 86 cs = some x) : ∃ v ds, cs = [v] ∧ LsAt KSz W v ds ∧ ∀ d ∈ ds, (Lit.int .i64 d.c).wf = true ∧ (Lit.int .i64 d.l).wf = true ∧ (Lit.int .i64 d.n).wf = true ∧ (Lit.int .i64 d.s).wf = true :=
  ls_of_trod cSzT (fun _ => rfl) (by decide) Try.underlying86 (fun _ _ _ hl h => sz_of_trod hl h) h
theorem dls_of_trod {W : World} {fuel : Nat} {cs : List Value} {x : DataW H × List MemPlace} (h : DataW.trod enc Try.prog W 0 (fun _ => true) true fuel 80 cs = some x) : ∃ v ds, cs = [v] ∧ LsAt KDl W v ds := by
  obtain ⟨v, ds, e, hl, _⟩ := ls_of_trod (K := KDl) (Q := fun _ => True) (T := 149) (by kernel_rfl) (fun _ => rfl) (by decide) Try.underlying80 (fun _ _ _ hl h => by obtain ⟨d, hd⟩ := dl_of_trod hl h; exact ⟨d, hd, trivial⟩) h
  exact ⟨v, ds, e, hl⟩

theorem rep_of_trod {W : World} {base : Nat} {v : Value} {d : DataW H} {p : List MemPlace} (hv : Value.okWide Try.prog W .any base 100 v) (h : DataW.Trod enc Try.prog W 0 (fun _ => true) true 100 v d p) : ∃ r v1 v2, v = rpV r v1 v2 ∧ LsAt KEnt W v1 r.es ∧ RowAt W v2 r.mp ∧ i64 r.e ∧ i64 r.ino ∧ i64 r.sz ∧ i64 r.ha ∧ i64 r.sw ∧ ∀ x ∈ r.es, i64 x.ino := by
  obtain ⟨cs, rfl, hsz, _⟩ : ∃ cs, v = .agg cs ∧ cs.size = Try.prog.cellsOf 100 ∧ Row.okWide Try.prog W .any base 100 cs := by
    simpa [Value.okWide, Try.underlying100] using hv
  rw [cRepT] at hsz
  obtain ⟨l⟩ := cs
  obtain ⟨c0, c1, c2, c3, c4, c5, c6, c7, rfl⟩ : ∃ c0 c1 c2 c3 c4 c5 c6 c7, l = [c0, c1, c2, c3, c4, c5, c6, c7] := by
    match l, hsz with
    | [c0, c1, c2, c3, c4, c5, c6, c7], _ => exact ⟨c0, c1, c2, c3, c4, c5, c6, c7, rfl⟩
  obtain ⟨fuel, h1⟩ := h
  replace h1 : DataW.trod enc Try.prog W 0 (fun _ => true) true fuel 100 [c0, c1, c2, c3, c4, c5, c6, c7] = some (d, p) := h1
  obtain ⟨ys, n, _, hx, _, hyl, hf⟩ := DataW.trod_struct Try.underlying100 h1
  have t0 : DataW.trod enc Try.prog W 0 (fun _ => true) true n 3 (([c0, c1, c2, c3, c4, c5, c6, c7].drop 0).take (Try.prog.cellsOf 3)) = ys[0]? := hf 0 _ rfl
  have t1 : DataW.trod enc Try.prog W 0 (fun _ => true) true n 3 (([c0, c1, c2, c3, c4, c5, c6, c7].drop 1).take (Try.prog.cellsOf 3)) = ys[1]? := hf 1 _ rfl
  have t2 : DataW.trod enc Try.prog W 0 (fun _ => true) true n 3 (([c0, c1, c2, c3, c4, c5, c6, c7].drop 2).take (Try.prog.cellsOf 3)) = ys[2]? := hf 2 _ rfl
  have t3 : DataW.trod enc Try.prog W 0 (fun _ => true) true n 3 (([c0, c1, c2, c3, c4, c5, c6, c7].drop 3).take (Try.prog.cellsOf 3)) = ys[3]? := hf 3 _ rfl
  have t4 : DataW.trod enc Try.prog W 0 (fun _ => true) true n 3 (([c0, c1, c2, c3, c4, c5, c6, c7].drop 4).take (Try.prog.cellsOf 3)) = ys[4]? := hf 4 _ rfl
  have t5 : DataW.trod enc Try.prog W 0 (fun _ => true) true n 4 (([c0, c1, c2, c3, c4, c5, c6, c7].drop 5).take (Try.prog.cellsOf 4)) = ys[5]? := hf 5 _ rfl
  have t6 : DataW.trod enc Try.prog W 0 (fun _ => true) true n 71 (([c0, c1, c2, c3, c4, c5, c6, c7].drop 6).take (Try.prog.cellsOf 71)) = ys[6]? := hf 6 _ rfl
  have t7 : DataW.trod enc Try.prog W 0 (fun _ => true) true n 34 (([c0, c1, c2, c3, c4, c5, c6, c7].drop 7).take (Try.prog.cellsOf 34)) = ys[7]? := hf 7 _ rfl
  simp only [cIntT, cBoolT, cEntsT, cBytesT, List.drop_zero, List.drop_succ_cons, List.take_succ_cons, List.take_zero] at t0 t1 t2 t3 t4 t5 t6 t7
  match ys, hyl with
  | [y0, y1, y2, y3, y4, y5, y6, y7], _ =>
    simp only [List.getElem?_cons_zero, List.getElem?_cons_succ] at t0 t1 t2 t3 t4 t5 t6 t7
    obtain ⟨z0, e0, _, w0⟩ := DataW.trod_int Try.underlying3 t0
    injection e0 with e0 _
    subst e0
    obtain ⟨z1, e1, _, w1⟩ := DataW.trod_int Try.underlying3 t1
    injection e1 with e1 _
    subst e1
    obtain ⟨z2, e2, _, w2⟩ := DataW.trod_int Try.underlying3 t2
    injection e2 with e2 _
    subst e2
    obtain ⟨z3, e3, _, w3⟩ := DataW.trod_int Try.underlying3 t3
    injection e3 with e3 _
    subst e3
    obtain ⟨z4, e4, _, w4⟩ := DataW.trod_int Try.underlying3 t4
    injection e4 with e4 _
    subst e4
    obtain ⟨z5, e5, _⟩ := DataW.trod_bool Try.underlying4 t5
    injection e5 with e5 _
    subst e5
    obtain ⟨v6, x6, e6, r6, w6⟩ := ents_of_trod t6
    injection e6 with e6 _
    subst e6
    obtain ⟨v7, x7, e7, r7⟩ := rowN_of_trod t7
    injection e7 with e7 _
    subst e7
    exact ⟨⟨z0, z1, z2, z3, z4, z5, x6, x7⟩, _, _, rfl, r6, r7, i64_of w0, i64_of w1, i64_of w2, i64_of w3, i64_of w4, fun x hx => i64_of (w6 x hx).2⟩
theorem req_of_trod {W : World} {base : Nat} {v : Value} {d : DataW H} {p : List MemPlace} (hv : Value.okWide Try.prog W .any base 88 v) (h : DataW.Trod enc Try.prog W 0 (fun _ => true) true 88 v d p) : ∃ r v1 v2, v = rqV r v1 v2 ∧ LsAt KSz W v1 r.ss ∧ LsAt KDl W v2 r.dl ∧ r.pa.size ≤ maxLen ∧ r.tp.size ≤ maxLen := by
  obtain ⟨cs, rfl, hsz, _⟩ : ∃ cs, v = .agg cs ∧ cs.size = Try.prog.cellsOf 88 ∧ Row.okWide Try.prog W .any base 88 cs := by
    simpa [Value.okWide, Try.underlying88] using hv
  rw [cReqT] at hsz
  obtain ⟨l⟩ := cs
  obtain ⟨c0, c1, c2, c3, c4, c5, c6, c7, c8, c9, c10, c11, c12, c13, rfl⟩ : ∃ c0 c1 c2 c3 c4 c5 c6 c7 c8 c9 c10 c11 c12 c13, l = [c0, c1, c2, c3, c4, c5, c6, c7, c8, c9, c10, c11, c12, c13] := by
    match l, hsz with
    | [c0, c1, c2, c3, c4, c5, c6, c7, c8, c9, c10, c11, c12, c13], _ => exact ⟨c0, c1, c2, c3, c4, c5, c6, c7, c8, c9, c10, c11, c12, c13, rfl⟩
  obtain ⟨fuel, h1⟩ := h
  replace h1 : DataW.trod enc Try.prog W 0 (fun _ => true) true fuel 88 [c0, c1, c2, c3, c4, c5, c6, c7, c8, c9, c10, c11, c12, c13] = some (d, p) := h1
  obtain ⟨ys, n, _, hx, _, hyl, hf⟩ := DataW.trod_struct Try.underlying88 h1
  have t0 : DataW.trod enc Try.prog W 0 (fun _ => true) true n 85 (([c0, c1, c2, c3, c4, c5, c6, c7, c8, c9, c10, c11, c12, c13].drop 0).take (Try.prog.cellsOf 85)) = ys[0]? := hf 0 _ rfl
  have t1 : DataW.trod enc Try.prog W 0 (fun _ => true) true n 3 (([c0, c1, c2, c3, c4, c5, c6, c7, c8, c9, c10, c11, c12, c13].drop 3).take (Try.prog.cellsOf 3)) = ys[1]? := hf 1 _ rfl
  have t2 : DataW.trod enc Try.prog W 0 (fun _ => true) true n 9 (([c0, c1, c2, c3, c4, c5, c6, c7, c8, c9, c10, c11, c12, c13].drop 4).take (Try.prog.cellsOf 9)) = ys[2]? := hf 2 _ rfl
  have t3 : DataW.trod enc Try.prog W 0 (fun _ => true) true n 9 (([c0, c1, c2, c3, c4, c5, c6, c7, c8, c9, c10, c11, c12, c13].drop 5).take (Try.prog.cellsOf 9)) = ys[3]? := hf 3 _ rfl
  have t4 : DataW.trod enc Try.prog W 0 (fun _ => true) true n 4 (([c0, c1, c2, c3, c4, c5, c6, c7, c8, c9, c10, c11, c12, c13].drop 6).take (Try.prog.cellsOf 4)) = ys[4]? := hf 4 _ rfl
  have t5 : DataW.trod enc Try.prog W 0 (fun _ => true) true n 4 (([c0, c1, c2, c3, c4, c5, c6, c7, c8, c9, c10, c11, c12, c13].drop 7).take (Try.prog.cellsOf 4)) = ys[5]? := hf 5 _ rfl
  have t6 : DataW.trod enc Try.prog W 0 (fun _ => true) true n 4 (([c0, c1, c2, c3, c4, c5, c6, c7, c8, c9, c10, c11, c12, c13].drop 8).take (Try.prog.cellsOf 4)) = ys[6]? := hf 6 _ rfl
  have t7 : DataW.trod enc Try.prog W 0 (fun _ => true) true n 3 (([c0, c1, c2, c3, c4, c5, c6, c7, c8, c9, c10, c11, c12, c13].drop 9).take (Try.prog.cellsOf 3)) = ys[7]? := hf 7 _ rfl
  have t8 : DataW.trod enc Try.prog W 0 (fun _ => true) true n 3 (([c0, c1, c2, c3, c4, c5, c6, c7, c8, c9, c10, c11, c12, c13].drop 10).take (Try.prog.cellsOf 3)) = ys[8]? := hf 8 _ rfl
  have t9 : DataW.trod enc Try.prog W 0 (fun _ => true) true n 3 (([c0, c1, c2, c3, c4, c5, c6, c7, c8, c9, c10, c11, c12, c13].drop 11).take (Try.prog.cellsOf 3)) = ys[9]? := hf 9 _ rfl
  have t10 : DataW.trod enc Try.prog W 0 (fun _ => true) true n 86 (([c0, c1, c2, c3, c4, c5, c6, c7, c8, c9, c10, c11, c12, c13].drop 12).take (Try.prog.cellsOf 86)) = ys[10]? := hf 10 _ rfl
  have t11 : DataW.trod enc Try.prog W 0 (fun _ => true) true n 80 (([c0, c1, c2, c3, c4, c5, c6, c7, c8, c9, c10, c11, c12, c13].drop 13).take (Try.prog.cellsOf 80)) = ys[11]? := hf 11 _ rfl
  simp only [cSpT, cIntT, cStrT, cBoolT, cSzsT, cDlsT, List.drop_zero, List.drop_succ_cons, List.take_succ_cons, List.take_zero] at t0 t1 t2 t3 t4 t5 t6 t7 t8 t9 t10 t11
  match ys, hyl with
  | [y0, y1, y2, y3, y4, y5, y6, y7, y8, y9, y10, y11], _ =>
    simp only [List.getElem?_cons_zero, List.getElem?_cons_succ] at t0 t1 t2 t3 t4 t5 t6 t7 t8 t9 t10 t11
    obtain ⟨s0, s1, s2, rfl, rfl, rfl, u0, u1, u2⟩ := st3_of_trod Try.underlying85 ⟨rfl, rfl⟩ ⟨rfl, rfl⟩ ⟨rfl, rfl⟩ t0
    obtain ⟨z1, e1, _, w1⟩ := DataW.trod_int Try.underlying3 t1
    injection e1 with e1 _
    subst e1
    obtain ⟨z2, e2, _, w2⟩ := DataW.trod_string Try.underlying9 t2
    injection e2 with e2 _
    subst e2
    obtain ⟨z3, e3, _, w3⟩ := DataW.trod_string Try.underlying9 t3
    injection e3 with e3 _
    subst e3
    obtain ⟨z4, e4, _⟩ := DataW.trod_bool Try.underlying4 t4
    injection e4 with e4 _
    subst e4
    obtain ⟨z5, e5, _⟩ := DataW.trod_bool Try.underlying4 t5
    injection e5 with e5 _
    subst e5
    obtain ⟨z6, e6, _⟩ := DataW.trod_bool Try.underlying4 t6
    injection e6 with e6 _
    subst e6
    obtain ⟨z7, e7, _, w7⟩ := DataW.trod_int Try.underlying3 t7
    injection e7 with e7 _
    subst e7
    obtain ⟨z8, e8, _, w8⟩ := DataW.trod_int Try.underlying3 t8
    injection e8 with e8 _
    subst e8
    obtain ⟨z9, e9, _, w9⟩ := DataW.trod_int Try.underlying3 t9
    injection e9 with e9 _
    subst e9
    obtain ⟨v10, x10, e10, r10, w10⟩ := szs_of_trod t10
    injection e10 with e10 _
    subst e10
    obtain ⟨v11, x11, e11, r11⟩ := dls_of_trod t11
    injection e11 with e11 _
    subst e11
    exact ⟨⟨s0, s1, s2, z1, z2, z3, z4, z5, z6, z7, z8, z9, x10, x11⟩, _, _, rfl, r10, r11, w2, w3⟩
end
end Go.Proofs.Ytoglcohdanpciaa
