/- DeM, DeI, DeJ, DeK, DeL, DeN, DeO, DeP, DeQ. -/
import Derived.Test.YtamcllcjondcpaaDeJa
import Derived.Test.YtamcllcjondcpaaBkR
import Derived.Test.YtamcllcjondcpaaModel
import Derived.Test.YtamcllcjondcpaaAwake
import Derived.Test.YtamcllcjondcpaaSame
/- delta: rows of deltas of a call's own; append of deltas. -/
namespace Go.Proofs.Ytamcllcjondcpaa
open Go.RowKit Go.Shelf
set_option maxRecDepth 100000
set_option linter.unusedSimpArgs false

def dcells (ds : List Dl) : List Value := ds.flatMap Dl.cells
theorem dcell_len (d : Dl) : d.cells.length = 14 := rfl
theorem dcells_length (ds : List Dl) : (dcells ds).length = ds.length * 14 := by
  induction ds with
  | nil => rfl
  | cons d ds ih => simp only [dcells, List.flatMap_cons, List.length_append, dcell_len, List.length_cons] at *; omega
theorem dcells_append (a b : List Dl) : dcells (a ++ b) = dcells a ++ dcells b := by simp [dcells]
theorem dcells_cons (m : Dl) (b : List Dl) : dcells (m :: b) = m.cells ++ dcells b := by simp [dcells]
theorem dcells_in : ∀ (ds : List Dl) (i : Nat) (h : i < ds.length) (j : Nat), j < 14 → (dcells ds)[i * 14 + j]? = ds[i].cells[j]?
  | d :: ds, 0, _, j, hj => by
    rw [dcells_cons, Nat.zero_mul, Nat.zero_add, List.getElem?_append_left (by rw [dcell_len]; exact hj)]
    rfl
  | d :: ds, i + 1, h, j, hj => by
    have ih := dcells_in ds i (by simpa using h) j hj
    rw [dcells_cons, List.getElem?_append_right (by rw [dcell_len]; omega)]
    simp only [List.getElem_cons_succ]
    rw [← ih]
    congr 1
    rw [dcell_len]
    omega
theorem dcells_all (ds : List Dl) : ∀ u ∈ dcells ds, u.oneCell' = true := by
  intro u hu
  simp only [dcells, List.mem_flatMap] at hu
  obtain ⟨d, hd, hm⟩ := hu
  have := dcells_one d
  rw [Array.all_eq_true_iff_forall_mem] at this
  exact this u (by simpa using hm)
theorem iDelta3 : (Try.prog.info? 49).map (fun i => (i.zero, i.size, i.bytes)) = some (some (dlV dZ), 14, 112) := by kernel_rfl

/-- Deltas of the call's own. -/
structure OwnD (w : World) (B : Nat) (v : Value) (ds : List Dl) : Prop where
  row : w.ownsRow B 49 14 v ds.length (dcells ds)
theorem OwnD.nil (w : World) (B : Nat) : OwnD w B (.slice none 0 0) [] := ⟨World.ownsRow_nil _ _ _ _⟩
theorem OwnD.blk {w B v ds} (h : OwnD w B v ds) : ∀ k, v.ownBlock = some k → B ≤ k ∧ k < w.heap.size := h.row.lt
theorem OwnD.keep {w w' : World} {B : Nat} {v : Value} {ds : List Dl} {S : List Nat} (h : OwnD w B v ds) (k : Keeps S w w') (hs : ∀ b ∈ S, b < B) : OwnD w' B v ds :=
  ⟨ownsRow_keepP h.row k (fun b hb hm => by have := (h.blk b hb).1; have := hs b hm; omega)⟩
theorem OwnD.later {w w' : World} {B : Nat} {v : Value} {ds : List Dl} (h : OwnD w B v ds) (k : Keeps [] w w') : OwnD w' B v ds := ⟨ownsRow_keepP h.row k (fun b _ hm => by simp at hm)⟩
theorem OwnD.shape {w B v ds} (h : OwnD w B v ds) : ∃ a c, v = .slice a ds.length c := by
  rcases h.row.2 with ⟨rfl, e⟩ | ⟨g, cap, cur, rfl, _⟩
  · exact ⟨none, 0, by rw [e]⟩
  · exact ⟨_, cap, rfl⟩
theorem OwnD.at {w B v ds} (h : OwnD w B v ds) : DlsAt w v ds := by
  rcases h.row.2 with ⟨rfl, h0⟩ | ⟨g, cap, cur, rfl, hb, hg, hnc, hcm, hcs, ht⟩
  · rw [List.eq_nil_of_length_eq_zero h0]
    exact ⟨none, 0, rfl, by simp, by simp, fun _ => rfl, fun h => absurd rfl h⟩
  · refine ⟨_, cap, rfl, hnc, hcm, by simp, fun _ => ⟨g, 0, rfl, lt_of_block hg, fun i hi j u hu => ?_⟩⟩
    have hj : j < 14 := by
      have := (List.getElem?_eq_some_iff.1 hu).1
      rwa [dcell_len] at this
    have := h.row.cells (g := g) rfl (i * 14 + j) u (by rw [dcells_in ds i hi j hj]; exact hu)
    rw [Addr.add_lit] at this
    rwa [← Nat.add_assoc] at this
/-- append of deltas that came in, or were laid, onto deltas of the call's own. -/
theorem append_dls {w : World} {B : Nat} {v : Value} {ds es : List Dl} (h : OwnD w B v ds) (A : Option Addr) (n c : Nat) (hs : DlsAt w (.slice A n c) es) (hl : ds.length + es.length ≤ 100000) (hB : B ≤ w.heap.size) (ty : TypeId) :
    ∃ a' c' w', (Builtin.append_ #[23, 23] ty #[v, .slice A n c]).run Try.prog w = .ok (.slice a' (ds.length + n) c') w' ∧ OwnD w' B (.slice a' (ds.length + n) c') (ds ++ es) ∧ Keeps v.ownBlock.toList w w' := by
  obtain ⟨i, hi, hz, hz3, hz40⟩ := info_parts iDelta3
  obtain ⟨a0, c0, hv0, h1, h2, h0, h4⟩ := id hs
  injection hv0 with e1 e2 e3
  subst e1; subst e2; subst e3
  obtain ⟨a', c', w', hr, ho, hg, hn⟩ := run_append_rowsO (P := Try.prog) w B 23 ty 49 i _ 14 112 Try.underlying23 hi hz hz3 hz40 rfl (by omega) v ds.length (dcells ds) h.row A es.length c (dcells es) (dcells_length es) h0 h1
    (fun ad had j u hu => by
      have hj := (List.getElem?_eq_some_iff.1 hu).1
      rw [dcells_length] at hj
      obtain ⟨g, off, e, hgl, _⟩ := hs.at (j / 14) (by omega)
      obtain ⟨g2, off2, e2, _, hc⟩ := hs.at (j / 14) (by omega)
      rw [had] at e2
      obtain rfl := Option.some.inj e2
      rw [Addr.add_lit]
      have := hc (j % 14) u (by rw [← dcells_in es (j / 14) (by omega) (j % 14) (Nat.mod_lt _ (by omega)), show j / 14 * 14 + j % 14 = j by omega]; exact hu)
      rwa [Nat.add_assoc, show j / 14 * 14 + j % 14 = j by omega] at this) (dcells_all es) (by unfold maxLen; omega) (by omega) hB
  exact ⟨a', c', w', hr, ⟨by rw [List.length_append, dcells_append]; exact ho⟩, (Keeps.refl _ _).grown hg (fun k hk => Or.inl (by simp [hk]))⟩
/-- A row of one in new memory. -/
theorem exec_oneDl {ρ : Operand → Value} {o : Oper} {w : World} (x : Operand) (t : Dl) (ho : o.op = .buildSlice 23 1 #[(0, x)]) (hx : ρ x = dlV t) :
    (execOp ρ o).run Try.prog w = .ok (.value (.slice (some ⟨w.heap.size, 0, none⟩) 1 1)) (w.alloc (.cells t.cells.toArray 49)) := by
  obtain ⟨ie, hie, hz, hs, _⟩ := info_parts iDelta3
  have h : (Instr.buildSlice 23 1 #[(0, dlV t)]).run Try.prog w = .ok (.slice (some ⟨w.heap.size, 0, none⟩) 1 1) (w.alloc (.cells t.cells.toArray 49)) := by
    refine run_buildSlice w _ _ 1 _ _ ie _ Try.underlying23 hie hz (by rw [hs]; decide) (by rw [hs]; decide) ?_
    rw [hs]
    have e : (Array.range (1 * 14)) = #[0, 1, 2, 3, 4, 5, 6, 7, 8, 9, 10, 11, 12, 13] := rfl
    have e2 : (dlV dZ).cells = dlA dZ := rfl
    have e3 : (dlV t).cells = dlA t := rfl
    rw [dlA_is]
    simp only [Instr.fill, e, e2, e3, dlA]
    simp
  simp only [execOp, ho, List.map_toArray, List.map_cons, List.map_nil, hx, Sem.run_bind, h, Result.andThen_ok, Sem.run_pure]
theorem one_dl (w : World) (x : Dl) : DlsAt (w.alloc (.cells x.cells.toArray 49)) (.slice (some ⟨w.heap.size, 0, none⟩) 1 1) [x] :=
  ⟨_, 1, rfl, by simp, by decide, by simp, fun _ => ⟨w.heap.size, 0, rfl, by simp, fun i hi => by
    simp at hi
    subst hi
    exact range_new w x.cells 49⟩⟩
end Go.Proofs.Ytamcllcjondcpaa


/- delta: Encode. -/
namespace Go.Proofs.Ytamcllcjondcpaa
open Go.RowKit Go.Shelf
set_option maxRecDepth 100000
set_option linter.unusedSimpArgs false

theorem DlsAt.few {w : World} {v : Value} {ds : List Dl} (h : DlsAt w v ds) : ds.length ≤ maxLen := by
  obtain ⟨a, cap, _, h1, h2, _⟩ := h
  omega
/-- Is there one that may not be? -/
def badL (ds : List Dl) : Bool := ds.any fun x => !mayL x
theorem badL_at {ds : List Dl} {k : Nat} (h : k < ds.length) (hb : mayL ds[k] = false) : badL ds = true := by
  unfold badL
  rw [List.any_eq_true]
  exact ⟨ds[k], List.getElem_mem h, by rw [hb]; rfl⟩
theorem badL_no {ds : List Dl} (h : ∀ j (hj : j < ds.length), mayL ds[j] = true) : badL ds = false := by
  unfold badL
  rw [List.any_eq_false]
  intro x hx
  obtain ⟨j, hj, rfl⟩ := List.getElem_of_mem hx
  rw [h j hj]
  simp
set_option maxHeartbeats 6400000 in
theorem dIdx_any (w : World) (v : Value) (ds : List Dl) (h : DlsAt w v ds) :
    Calls Try.prog 84 #[v, .func (.func 58) #[] #[]] w fun e w' => (∃ i : Int, e = .returned (.int .i64 i) ∧ decide (0 ≤ i) = badL ds) ∧ Keeps [] w w' := by
  have HF := h.few
  unfold maxLen at HF
  obtain ⟨a, c, rfl⟩ := h.shape
  have HV := hid h
  clear h
  go_enter Try.func84, Try.ntmps84
  go_wp2_with fail
  go_loopw [8] (fun iv wr => ∃ k : Nat, k ≤ ds.length ∧ iv = .int .i64 k ∧ Hid (∀ j (hj : j < ds.length), j < k → mayL ds[j] = true) ∧ Hid (Keeps [] w wr)) (fun iv _ => ds.length - (intOf iv).toNat)
  case atStart => exact ⟨0, by omega, rfl, hid (fun j _ h => absurd h (Nat.not_lt_zero _)), hid (Keeps.refl _ _)⟩
  case round =>
    obtain ⟨k, hk, rfl, HA, K⟩ := hrel
    by_cases hlt : k < ds.length
    · obtain ⟨g, off, rfl, hg, R0⟩ := (HV.out.keep K.out).at k hlt
      obtain ⟨x, hx⟩ : ∃ x, x = ds[k] := ⟨_, rfl⟩
      rw [← hx] at R0
      have R := hid R0
      have HX := hid hx
      clear hg R0 hx
      cases hm : mayL x with
      | true =>
        have HM := hid hm
        clear hm
        go_wp2_with (first | (refine wpList_isW rfl _ _ (exec_load _ _ _ _ rfl rfl (loadDl_run _ g (off + k * 14) x R.out)) ?_) | fail)
        refine (dMayNot_any _ x).mono ?_
        rintro e w2 ⟨rfl, k2⟩
        rw [HM.out]
        have K2 := hid (K.out.trans k2)
        clear k2
        go_wp2_with fail
        go_roundw
        case rel => exact ⟨k + 1, by omega, by go_num, hid (fun j hj hjk => by
          rcases Nat.lt_or_ge j k with h | h
          · exact HA.out j hj h
          · obtain rfl : j = k := by omega
            rw [← HX.out]; exact HM.out), K2⟩
        case measure => simp [intOf]; omega
      | false =>
        have HM := hid hm
        clear hm
        go_wp2_with (first | (refine wpList_isW rfl _ _ (exec_load _ _ _ _ rfl rfl (loadDl_run _ g (off + k * 14) x R.out)) ?_) | fail)
        refine (dMayNot_any _ x).mono ?_
        rintro e w2 ⟨rfl, k2⟩
        rw [HM.out]
        have K2 := hid (K.out.trans k2)
        clear k2
        go_wp2_with fail
        go_ret
        exact ⟨⟨_, rfl, by rw [badL_at hlt (by rw [← HX.out]; exact HM.out)]; simp⟩, K2.out⟩
    · obtain rfl : k = ds.length := by omega
      go_wp2_with fail
      go_ret
      exact ⟨⟨_, rfl, by rw [badL_no (fun j hj => HA.out j hj hj)]; rfl⟩, K.out⟩
set_option maxHeartbeats 3200000 in
theorem dAny_any (w : World) (v : Value) (ds : List Dl) (h : DlsAt w v ds) :
    Calls Try.prog 57 #[v, .func (.func 58) #[] #[]] w (MayPost w (badL ds)) := by
  have HV := hid h
  clear h
  go_enter Try.func57, Try.ntmps57
  go_wp2_with fail
  refine (dIdx_any w v ds HV.out).mono ?_
  rintro e w2 ⟨⟨i, rfl, hi⟩, k2⟩
  have K2 := hid k2
  have HI := hid hi
  clear hi k2
  by_cases hz : 0 ≤ i
  · have HZ := hid hz
    go_wp2_with fail
    go_ret
    exact retD (by rw [← HI.out] <;> simp [HZ.out]) K2.out
  · have HZ := hid hz
    go_wp2_with fail
    go_ret
    exact retD (by rw [← HI.out] <;> simp [HZ.out]) K2.out

/-- What the pen knows behind so many deltas. -/
def encK (ds : List Dl) (k : Nat) : PSt := (ds.take k).foldl (fun t x => putD x t) (penNum ds.length 2 ([], 0))
theorem encK_snoc {ds : List Dl} {k : Nat} (h : k < ds.length) : encK ds (k + 1) = putD ds[k] (encK ds k) := by
  unfold encK
  rw [List.take_succ_eq_append_getElem h, List.foldl_append]
  rfl
def encS (ds : List Dl) : PSt := encK ds ds.length
/-- What Encode answers. -/
def encL (ds : List Dl) : List Int × Int :=
  if badL ds = true then ([], 1) else if 4000 < ds.length then ([], 3) else (if (encS ds).2 = 0 then (encS ds).1 else [], (encS ds).2)
def EncPost (w : World) (r : List Int × Int) (e : Ending) (w' : World) : Prop :=
  ∃ a c, e = .returned (.tuple #[.slice a r.1.length c, .int .i64 r.2]) ∧ RowAt w' (.slice a r.1.length c) r.1 ∧ (∀ ad, a = some ad → w.heap.size ≤ ad.block) ∧ Keeps [] w w'
theorem PenSince.keepD {w w2 w3 : World} {T p v zs bad} (h : PenSince w w2 T p v zs bad) (k : Keeps [] w2 w3) : PenSince w w3 T p v zs bad :=
  ⟨h.pen.keep k (by simp) (by simp), h.kept.trans k⟩
theorem row_nil (w : World) : RowAt w (.slice none 0 0) [] := ⟨none, 0, rfl, by simp, by simp, fun _ => rfl, by simp, by simp⟩
set_option maxHeartbeats 6400000 in
theorem dEncode_any (w : World) (v : Value) (ds : List Dl) (h : DlsAt w v ds) : Calls Try.prog 19 #[v] w (EncPost w (encL ds)) := by
  have HF := h.few
  unfold maxLen at HF
  obtain ⟨a, c, rfl⟩ := h.shape
  have HV := hid h
  clear h
  obtain ⟨r, hr⟩ : ∃ r, r = encL ds := ⟨_, rfl⟩
  rw [← hr]
  unfold encL at hr
  have HR := hid hr
  clear hr
  cases hb : badL ds with
  | true =>
    have HB := hid hb
    clear hb
    go_enter Try.func19, Try.ntmps19
    go_wp2_with fail
    refine (dAny_any w _ ds HV.out).mono ?_
    rintro e w2 ⟨rfl, k2⟩
    rw [HB.out]
    have K2 := hid k2
    clear k2
    go_wp2_with fail
    go_ret2
    rw [HR.out, if_pos HB.out]
    exact ⟨none, 0, rfl, row_nil _, by simp, K2.out⟩
  | false =>
    have HB := hid hb
    clear hb
    by_cases hl : 4000 < ds.length
    · have HL := hid hl
      go_enter Try.func19, Try.ntmps19
      go_wp2_with fail
      refine (dAny_any w _ ds HV.out).mono ?_
      rintro e w2 ⟨rfl, k2⟩
      rw [HB.out]
      have K2 := hid k2
      clear k2
      go_wp2_with fail
      go_ret2
      rw [HR.out, if_neg (by rw [HB.out]; simp), if_pos HL.out]
      exact ⟨none, 0, rfl, row_nil _, by simp, K2.out⟩
    · have HL := hid hl
      go_enter Try.func19, Try.ntmps19
      go_wp2_with fail
      refine (dAny_any w _ ds HV.out).mono ?_
      rintro e w2 ⟨rfl, k2⟩
      rw [HB.out]
      have K2 := hid k2
      clear k2
      go_wp2_with fail
      have P1 := hid (PenSince.new w K2.out 91)
      obtain ⟨p, hp⟩ : ∃ p, p = w2.heap.size := ⟨_, rfl⟩
      rw [← hp] at P1 ⊢
      obtain ⟨w3, hw3⟩ : ∃ w3, w3 = w2.alloc (.cells #[.slice none 0 0, .int .i64 0] 91) := ⟨_, rfl⟩
      rw [← hw3] at P1 ⊢
      clear hp hw3
      refine (num_any w3 w.heap.size p (.slice none 0 0) [] 0 (ds.length : Int) 2 P1.out.pen P1.out.kept.size).mono ?_
      intro e w4 hq
      obtain ⟨rfl, v4, q4⟩ := P1.out.step hq
      have P4 := hid q4
      clear q4 hq
      go_wp2_with fail
      go_loopw [20] (fun iv wr => ∃ (k : Nat) (v5 : Value), k ≤ ds.length ∧ iv = .int .i64 k ∧ Hid (PenSince w wr 91 p v5 (encK ds k).1 (encK ds k).2)) (fun iv _ => ds.length - (intOf iv).toNat)
      case atStart => exact ⟨0, v4, by omega, rfl, P4⟩
      case round =>
        obtain ⟨k, v5, hk, rfl, P5⟩ := hrel
        by_cases hlt : k < ds.length
        · obtain ⟨g, off, rfl, hg, R0⟩ := (HV.out.keep P5.out.kept).at k hlt
          obtain ⟨x, hx⟩ : ∃ x, x = ds[k] := ⟨_, rfl⟩
          rw [← hx] at R0
          have R := hid R0
          have HX := hid hx
          have RA := hid (range_new wr x.cells 49)
          have PA := hid (P5.out.keepD ((Keeps.refl [] wr).alloc (.cells x.cells.toArray 49)))
          clear hg R0 hx
          go_wp2_with (first | (refine wpList_isW rfl _ _ (exec_load _ _ _ _ rfl rfl (loadDl_run _ g (off + k * 14) x R.out)) ?_) | (refine wpList_is rfl _ _ (exec_alloc 49 dZ.cells.toArray iDelta rfl) ?_) | (refine wpList_noval rfl _ (exec_storeNew 49 _ _ rfl wr dZ.cells.toArray x.cells.toArray rfl rfl rfl iDelta rfl (dcells_one x)) ?_) | (refine wpList_isW rfl _ _ (exec_load _ _ _ _ rfl rfl (loadDl_run _ wr.heap.size 0 x RA.out)) ?_) | fail)
          refine (dPut_any _ w.heap.size p v5 (encK ds k) x PA.out.pen PA.out.kept.size).mono ?_
          intro e w6 hq
          obtain ⟨rfl, v6, q6⟩ := PA.out.step hq
          have P6 := hid q6
          clear q6 hq
          go_wp2_with fail
          go_roundw
          case rel => exact ⟨k + 1, v6, by omega, by go_num, hid (by rw [encK_snoc hlt, ← HX.out]; exact P6.out)⟩
          case measure => simp [intOf]; omega
        · obtain rfl : k = ds.length := by omega
          go_wp2_with fail
          refine (bytes_any wr w.heap.size p v5 (encK ds ds.length).1 (encK ds ds.length).2 P5.out.pen).mono ?_
          rintro e w7 ⟨a7, c7, q0, q1, q2, q3⟩
          simp only at q0 q1
          obtain ⟨zs, hzs⟩ : ∃ z, z = (if (encK ds ds.length).2 = 0 then (encK ds ds.length).1 else []) := ⟨_, rfl⟩
          rw [← hzs] at q0 q1
          have HZS := hid hzs
          clear hzs
          subst q0
          have R := hid q1
          have K := hid (P5.out.kept.trans q3)
          have N := hid (fun ad (h : a7 = some ad) => Nat.le_trans P5.out.kept.size (q2 ad h))
          clear q1 q2 q3
          go_wp2_with fail
          go_ret2
          rw [HR.out, if_neg (by rw [HB.out]; simp), if_neg HL.out, show (if (encS ds).2 = 0 then (encS ds).1 else []) = zs from HZS.out.symm]
          exact ⟨a7, c7, rfl, R.out, N.out, K.out⟩
end Go.Proofs.Ytamcllcjondcpaa


/- delta: the reference's EncodeDeltas. -/
namespace Go.Proofs.Ytamcllcjondcpaa
open Go.RowKit Go.Shelf
set_option maxRecDepth 100000
set_option linter.unusedSimpArgs false

def rencK (ds : List Dl) (k : Nat) : PSt := (ds.take k).foldl (fun t x => rputD x t) (refNum ds.length 2 ([], 0))
theorem rencK_snoc {ds : List Dl} {k : Nat} (h : k < ds.length) : rencK ds (k + 1) = rputD ds[k] (rencK ds k) := by
  unfold rencK
  rw [List.take_succ_eq_append_getElem h, List.foldl_append]
  rfl
theorem rencK_zero (ds : List Dl) : rencK ds 0 = refNum ds.length 2 ([], 0) := by
  unfold rencK
  rw [List.take_zero, List.foldl_nil]
def rencS (ds : List Dl) : PSt := rencK ds ds.length
def rencL (ds : List Dl) : List Int × Int :=
  if badL ds = true then ([], 1) else if 4000 < ds.length then ([], 3) else (if (rencS ds).2 = 0 then (rencS ds).1 else [], (rencS ds).2)
set_option maxHeartbeats 12800000 in
theorem rdEnc_any (w : World) (v : Value) (ds : List Dl) (h : DlsAt w v ds) : Calls Try.prog 23 #[v] w (EncPost w (rencL ds)) := by
  have HF := h.few
  unfold maxLen at HF
  obtain ⟨a, c, rfl⟩ := h.shape
  have HV := hid h
  clear h
  obtain ⟨r, hr⟩ : ∃ r, r = rencL ds := ⟨_, rfl⟩
  rw [← hr]
  unfold rencL at hr
  have HR := hid hr
  clear hr
  go_enter Try.func23, Try.ntmps23
  go_wp2_with fail
  go_loopw [4] (fun iv wr => ∃ k : Nat, k ≤ ds.length ∧ iv = .int .i64 k ∧ Hid (∀ j (hj : j < ds.length), j < k → mayL ds[j] = true) ∧ Hid (Keeps [] w wr)) (fun iv _ => ds.length - (intOf iv).toNat)
  case atStart => exact ⟨0, by omega, rfl, hid (fun j _ h => absurd h (Nat.not_lt_zero _)), hid (Keeps.refl _ _)⟩
  case round =>
    obtain ⟨k, hk, rfl, HA, K⟩ := hrel
    by_cases hlt : k < ds.length
    · obtain ⟨g, off, rfl, hg, R0⟩ := (HV.out.keep K.out).at k hlt
      obtain ⟨x, hx⟩ : ∃ x, x = ds[k] := ⟨_, rfl⟩
      rw [← hx] at R0
      have R := hid R0
      have HX := hid hx
      clear hg R0 hx
      cases hm : mayL x with
      | true =>
        have HM := hid hm
        clear hm
        go_wp2_with (first | (refine wpList_isW rfl _ _ (exec_load _ _ _ _ rfl rfl (loadDl_run _ g (off + k * 14) x R.out)) ?_) | fail)
        refine (rdMay_any _ x).mono ?_
        rintro e w2 ⟨rfl, k2⟩
        rw [HM.out]
        have K2 := hid (K.out.trans k2)
        clear k2
        go_wp2_with fail
        go_roundw
        case rel => exact ⟨k + 1, by omega, by go_num, hid (fun j hj hjk => by
          rcases Nat.lt_or_ge j k with h | h
          · exact HA.out j hj h
          · obtain rfl : j = k := by omega
            rw [← HX.out]; exact HM.out), K2⟩
        case measure => simp [intOf]; omega
      | false =>
        have HM := hid hm
        clear hm
        go_wp2_with (first | (refine wpList_isW rfl _ _ (exec_load _ _ _ _ rfl rfl (loadDl_run _ g (off + k * 14) x R.out)) ?_) | fail)
        refine (rdMay_any _ x).mono ?_
        rintro e w2 ⟨rfl, k2⟩
        rw [HM.out]
        have K2 := hid (K.out.trans k2)
        clear k2
        go_wp2_with fail
        go_ret2
        rw [HR.out, if_pos (badL_at hlt (by rw [← HX.out]; exact HM.out))]
        exact ⟨none, 0, rfl, row_nil _, by simp, K2.out⟩
    · obtain rfl : k = ds.length := by omega
      have HB : Hid (badL ds = false) := hid (badL_no (fun j hj => HA.out j hj hj))
      clear HA
      by_cases hl : 4000 < ds.length
      · have HL := hid hl
        go_wp2_with fail
        go_ret2
        rw [HR.out, if_neg (by rw [HB.out]; simp), if_pos HL.out]
        exact ⟨none, 0, rfl, row_nil _, by simp, K.out⟩
      · have HL := hid hl
        go_wp2_with fail
        have P1 := hid (PenSince.new w K.out 84)
        obtain ⟨p, hp⟩ : ∃ p, p = wr.heap.size := ⟨_, rfl⟩
        rw [← hp] at P1 ⊢
        obtain ⟨w3, hw3⟩ : ∃ w3, w3 = wr.alloc (.cells #[.slice none 0 0, .int .i64 0] 84) := ⟨_, rfl⟩
        rw [← hw3] at P1 ⊢
        clear hp hw3
        refine (rnum_any w3 w.heap.size p (.slice none 0 0) [] 0 (ds.length : Int) 2 P1.out.pen P1.out.kept.size).mono ?_
        intro e w4 hq
        obtain ⟨rfl, v4, q4⟩ := P1.out.step hq
        have P4 := hid q4
        clear q4 hq
        go_wp2_with fail
        go_loopw [6] (fun iv wr => ∃ (k : Nat) (v5 : Value), k ≤ ds.length ∧ iv = .int .i64 k ∧ Hid (PenSince w wr 84 p v5 (rencK ds k).1 (rencK ds k).2)) (fun iv _ => ds.length - (intOf iv).toNat)
        case atStart => exact ⟨0, v4, by omega, rfl, hid (by rw [rencK_zero]; exact P4.out)⟩
        case round =>
          obtain ⟨k, v5, hk, rfl, P5⟩ := hrel
          by_cases hlt : k < ds.length
          · obtain ⟨g, off, rfl, hg, R0⟩ := (HV.out.keep P5.out.kept).at k hlt
            obtain ⟨x, hx⟩ : ∃ x, x = ds[k] := ⟨_, rfl⟩
            rw [← hx] at R0
            have R := hid R0
            have HX := hid hx
            clear hg R0 hx
            go_wp2_with (first | (refine wpList_isW rfl _ _ (exec_load _ _ _ _ rfl rfl (loadDl_run _ g (off + k * 14) x R.out)) ?_) | fail)
            refine (rdPut_any _ w.heap.size p v5 (rencK ds k) x P5.out.pen P5.out.kept.size).mono ?_
            intro e w6 hq
            obtain ⟨rfl, v6, q6⟩ := P5.out.step hq
            have P6 := hid q6
            clear q6 hq
            go_wp2_with fail
            go_roundw
            case rel => exact ⟨k + 1, v6, by omega, by go_num, hid (by rw [rencK_snoc hlt, ← HX.out]; exact P6.out)⟩
            case measure => simp [intOf]; omega
          · obtain rfl : k = ds.length := by omega
            go_wp2_with fail
            refine (rbytes_any _ w.heap.size p v5 (rencK ds ds.length).1 (rencK ds ds.length).2 P5.out.pen).mono ?_
            rintro e w7 ⟨a7, c7, q0, q1, q2, q3⟩
            simp only at q0 q1
            obtain ⟨zs, hzs⟩ : ∃ z, z = (if (rencK ds ds.length).2 = 0 then (rencK ds ds.length).1 else []) := ⟨_, rfl⟩
            rw [← hzs] at q0 q1
            have HZS := hid hzs
            clear hzs
            subst q0
            have R := hid q1
            have KK := hid (P5.out.kept.trans q3)
            have N := hid (fun ad (h : a7 = some ad) => Nat.le_trans P5.out.kept.size (q2 ad h))
            clear q1 q2 q3
            go_wp2_with fail
            go_ret2
            rw [HR.out, if_neg (by rw [HB.out]; simp), if_neg HL.out, show (if (rencS ds).2 = 0 then (rencS ds).1 else []) = zs from HZS.out.symm]
            exact ⟨a7, c7, rfl, R.out, N.out, KK.out⟩
end Go.Proofs.Ytamcllcjondcpaa


/- delta: numbers written and read, plainly: what is written is read, and what is read was written. -/
namespace Go.Proofs.Ytamcllcjondcpaa
open Go.RowKit Go.Shelf
set_option maxRecDepth 100000
set_option linter.unusedSimpArgs false

/-- A number that so many bytes hold. -/
def FitN (x : Int) (n : Nat) : Prop := 1 ≤ n ∧ n ≤ 7 ∧ 0 ≤ x ∧ x < 256 ^ n
theorem pow256 (n : Nat) : (256 : Int) ^ n = 2 ^ (8 * n) := by rw [show (256 : Int) = 2 ^ 8 from rfl, ← Int.pow_mul]
theorem penNum_fit {x : Int} {n : Nat} (m : Int) (hm : m = (n : Int)) (h : FitN x n) {s : List Int} (hl : s.length + n ≤ 65536) : penNum x m (s, 0) = (s ++ be x n, 0) ∧ refNum x m (s, 0) = (s ++ be x n, 0) := by
  subst hm
  obtain ⟨h1, h7, h0, hx⟩ := h
  have hlen := be_length x n
  have hx' : x < 2 ^ (8 * (n : Int).toNat) := by rw [Int.toNat_natCast, ← pow256]; exact hx
  have hd : x / 2 ^ (8 * (n : Int).toNat) = 0 := Int.ediv_eq_zero_of_lt h0 hx'
  constructor
  · unfold penNum penAdd
    rw [if_pos ⟨by omega, by omega, h0, hd⟩, if_neg (by simp), Int.toNat_natCast, if_neg (by rw [hlen]; simp; omega)]
  · unfold refNum refAdd
    rw [if_pos rfl, if_pos ⟨by omega, by omega, h0, hx'⟩, if_pos rfl, Int.toNat_natCast, if_neg (by rw [hlen]; simp; omega)]
/-- What is written is read. -/
theorem numE_be {x : Int} {n : Nat} (m : Int) (hm : m = (n : Int)) (h : FitN x n) (r : List Int) : numE m (be x n ++ r, 0) = (x, (r, 0)) := by
  subst hm
  obtain ⟨h1, h7, h0, hx⟩ := h
  unfold numE after rdNum
  rw [if_neg (by simp), if_neg (by omega), Int.toNat_natCast, if_neg (by rw [List.length_append, be_length]; omega)]
  simp only
  rw [show (be x n ++ r).take n = be x n by rw [List.take_append_of_le_length (by rw [be_length]; exact Nat.le_refl _), List.take_of_length_le (by rw [be_length]; exact Nat.le_refl _)], val_be n x h0 hx, show (be x n ++ r).drop n = r by rw [List.drop_append_of_le_length (by rw [be_length]; exact Nat.le_refl _), List.drop_of_length_le (by rw [be_length]; exact Nat.le_refl _), List.nil_append]]
  rfl
/-- Too few bytes: the eye gives up. -/
theorem numE_short {n : Nat} (m : Int) (hm : m = (n : Int)) (h1 : 1 ≤ n) (h7 : n ≤ 7) {zs : List Int} (hl : zs.length < n) : numE m (zs, 0) = (0, (zs, 2)) := by
  subst hm
  unfold numE after rdNum
  rw [if_neg (by simp), if_neg (by omega), Int.toNat_natCast, if_pos hl]
  rfl
/-- An eye that has given up stays so. -/
theorem numE_stay (n : Int) {st : PSt} (h : st.2 ≠ 0) : numE n st = (0, st) := by
  obtain ⟨zs, b⟩ := st
  unfold numE after
  rw [if_pos h]
  rfl
theorem be_val : ∀ (n : Nat) (zs : List Int), zs.length = n → (∀ z ∈ zs, 0 ≤ z ∧ z ≤ 255) → be (val zs) n = zs
  | 0, zs, h, _ => by rw [List.eq_nil_of_length_eq_zero h]; rfl
  | n + 1, zs, h, hb => by
    obtain ⟨ys, y, rfl⟩ : ∃ ys y, zs = ys ++ [y] := by
      have hne : zs ≠ [] := by intro e; rw [e] at h; simp at h
      exact ⟨zs.dropLast, zs.getLast hne, (List.dropLast_concat_getLast hne).symm⟩
    have hy := hb y (by simp)
    have ih := be_val n ys (by simpa using h) (fun z hz => hb z (by simp [hz]))
    rw [val_snoc, be_succ, show (val ys * 256 + y) / 256 = val ys by omega, ih, show (val ys * 256 + y) % 256 = y by omega]
/-- What is read was written. -/
theorem numE_ok {n : Nat} (m : Int) (hm : m = (n : Int)) (h1 : 1 ≤ n) (h7 : n ≤ 7) {zs : List Int} (hb : ∀ z ∈ zs, 0 ≤ z ∧ z ≤ 255) (hz : (numE m (zs, 0)).2.2 = 0) :
    zs = be (numE m (zs, 0)).1 n ++ (numE m (zs, 0)).2.1 ∧ FitN (numE m (zs, 0)).1 n := by
  subst hm
  rcases Nat.lt_or_ge zs.length n with hl | hl
  · rw [numE_short _ rfl h1 h7 hl] at hz; cases hz
  · have e : numE n (zs, 0) = (val (zs.take n), (zs.drop n, 0)) := by
      unfold numE after rdNum
      rw [if_neg (by simp), if_neg (by omega), Int.toNat_natCast, if_neg (by simp only; omega)]
      rfl
    have ht : (zs.take n).length = n := by rw [List.length_take]; omega
    have hbt : ∀ z ∈ zs.take n, 0 ≤ z ∧ z ≤ 255 := fun z hz => hb z (List.mem_of_mem_take hz)
    rw [e]
    refine ⟨?_, h1, h7, val_bound n _ ht hbt⟩
    simp only
    rw [be_val n _ ht hbt, List.take_append_drop]
theorem numE_bytes (n : Int) {st : PSt} (h : ∀ z ∈ st.1, 0 ≤ z ∧ z ≤ 255) : ∀ z ∈ (numE n st).2.1, 0 ≤ z ∧ z ≤ 255 := by
  unfold numE after rdNum
  split
  · exact h
  · split
    · exact h
    · rename_i heq
      split at heq
      · cases heq
      · split at heq
        · cases heq
        · injection heq with heq
          injection heq with e1 e2
          simp only
          rw [← e2]
          exact fun z hz => h z (List.mem_of_mem_drop hz)
theorem numE_bad {n : Nat} (m : Int) (hm : m = (n : Int)) (h1 : 1 ≤ n) (h7 : n ≤ 7) (st : PSt) : (numE m st).2.2 = 0 ∨ (numE m st).2.2 = (if st.2 = 0 then 2 else st.2) := by
  subst hm
  obtain ⟨zs, b⟩ := st
  by_cases hb : b = 0
  · subst hb
    rcases Nat.lt_or_ge zs.length n with hl | hl
    · rw [numE_short _ rfl h1 h7 hl]; right; rfl
    · left
      unfold numE after rdNum
      rw [if_neg (by simp), if_neg (by omega), Int.toNat_natCast, if_neg (by simp only; omega)]
  · right
    rw [numE_stay n hb, if_neg hb]
theorem numE_was {n : Int} {st : PSt} (h : (numE n st).2.2 = 0) : st.2 = 0 := by
  by_cases hb : st.2 = 0
  · exact hb
  · rw [numE_stay n hb] at h; exact absurd h hb

/-- A pointer's bytes. -/
def bytesP (x : Pt) : List Int := be x.c 1 ++ be x.l 3 ++ be x.n 4 ++ be x.a 2 ++ be x.k 1
/-- A delta's bytes. -/
def headB12 (x : Dl) : List Int := be x.d 1 ++ be x.i 2 ++ be x.b 1 ++ be x.s 2
def bytesD (x : Dl) : List Int := headB12 x ++ (if x.d = 1 then bytesP x.t else if x.d = 3 then bytesP x.o ++ bytesP x.t else [])
structure FitP (x : Pt) : Prop where
  c : FitN x.c 1
  l : FitN x.l 3
  n : FitN x.n 4
  a : FitN x.a 2
  k : FitN x.k 1
theorem mayP_fit {x : Pt} (h : mayP x = true) : (0 ≤ x.c ∧ x.c < 256) ∧ (0 ≤ x.l ∧ x.l < 16777216) ∧ (0 ≤ x.n ∧ x.n < 4294967296) ∧ (0 ≤ x.a ∧ x.a < 65536) ∧ (0 ≤ x.k ∧ x.k < 256) := by
  unfold mayP at h
  rcases Bool.or_eq_true _ _ ▸ h with h | h
  · unfold zB at h
    have e := of_decide_eq_true h
    subst e
    decide
  · simp only [Bool.and_eq_true, btw, decide_eq_true_eq] at h
    omega
theorem fitP_of {x : Pt} (h : mayP x = true) : FitP x := by
  obtain ⟨⟨a1, a2⟩, ⟨b1, b2⟩, ⟨c1, c2⟩, ⟨d1, d2⟩, ⟨f1, f2⟩⟩ := mayP_fit h
  exact ⟨⟨by decide, by decide, a1, by show x.c < 256; exact a2⟩, ⟨by decide, by decide, b1, by show x.l < 16777216; exact b2⟩, ⟨by decide, by decide, c1, by show x.n < 4294967296; exact c2⟩, ⟨by decide, by decide, d1, by show x.a < 65536; exact d2⟩, ⟨by decide, by decide, f1, by show x.k < 256; exact f2⟩⟩
theorem bytesP_len (x : Pt) : (bytesP x).length = 11 := by simp [bytesP, be_length]
theorem headB_len (x : Dl) : (headB12 x).length = 6 := by simp [headB12, be_length]
theorem bytesD_len (x : Dl) : 6 ≤ (bytesD x).length ∧ (bytesD x).length ≤ 28 := by
  unfold bytesD
  rw [List.length_append, headB_len]
  split
  · rw [bytesP_len]; omega
  · split
    · rw [List.length_append, bytesP_len, bytesP_len]; omega
    · simp
theorem putP_is {x : Pt} (h : FitP x) {s : List Int} (hl : s.length + 11 ≤ 65536) : putP x (s, 0) = (s ++ bytesP x, 0) ∧ rputP x (s, 0) = (s ++ bytesP x, 0) := by
  have e1 := penNum_fit (n := 1) 1 rfl h.c (s := s) (by omega)
  have e2 := penNum_fit (n := 3) 3 rfl h.l (s := s ++ be x.c 1) (by simp [be_length]; omega)
  have e3 := penNum_fit (n := 4) 4 rfl h.n (s := s ++ be x.c 1 ++ be x.l 3) (by simp [be_length]; omega)
  have e4 := penNum_fit (n := 2) 2 rfl h.a (s := s ++ be x.c 1 ++ be x.l 3 ++ be x.n 4) (by simp [be_length]; omega)
  have e5 := penNum_fit (n := 1) 1 rfl h.k (s := s ++ be x.c 1 ++ be x.l 3 ++ be x.n 4 ++ be x.a 2) (by simp [be_length]; omega)
  constructor
  · unfold putP bytesP
    rw [e1.1, e2.1, e3.1, e4.1, e5.1]
    simp only [List.append_assoc]
  · unfold rputP bytesP
    rw [e1.2, e2.2, e3.2, e4.2, e5.2]
    simp only [List.append_assoc]
structure FitD (x : Dl) : Prop where
  d : FitN x.d 1
  i : FitN x.i 2
  b : FitN x.b 1
  s : FitN x.s 2
  t : FitP x.t
  o : FitP x.o
theorem mayL_kind {x : Dl} (h : mayL x = true) : x.d = 1 ∧ x.o = pZ ∨ x.d = 2 ∧ x.t = pZ ∧ x.o = pZ ∧ x.b = 0 ∨ x.d = 3 ∧ x.s = 0 := by
  unfold mayL at h
  simp only [Bool.and_eq_true] at h
  have h := h.2
  unfold kindD at h
  by_cases h1 : x.d = 1
  · rw [if_pos h1] at h; exact Or.inl ⟨h1, zB_is.1 h⟩
  · rw [if_neg h1] at h
    by_cases h2 : x.d = 2
    · rw [if_pos h2] at h
      simp only [Bool.and_eq_true, zB_is, beq_iff_eq] at h
      exact Or.inr (Or.inl ⟨h2, h.1.1, h.1.2, h.2⟩)
    · rw [if_neg h2] at h
      by_cases h3 : x.d = 3
      · rw [if_pos h3] at h
        exact Or.inr (Or.inr ⟨h3, by simpa using h⟩)
      · rw [if_neg h3] at h; cases h
theorem fitD_of {x : Dl} (h : mayL x = true) : FitD x := by
  have hk := mayL_kind h
  unfold mayL at h
  simp only [Bool.and_eq_true, btw_is] at h
  obtain ⟨⟨⟨⟨⟨⟨i1, i2⟩, b1, b2⟩, s1, s2⟩, ht⟩, ho⟩, _⟩ := h
  exact ⟨⟨by decide, by decide, by omega, by show x.d < 256; omega⟩, ⟨by decide, by decide, by omega, by show x.i < 65536; omega⟩, ⟨by decide, by decide, b1, by show x.b < 256; omega⟩, ⟨by decide, by decide, s1, by show x.s < 65536; omega⟩, fitP_of ht, fitP_of ho⟩
theorem headN_is {x : Dl} (h : FitD x) {s : List Int} (hl : s.length + 28 ≤ 65536) : headN x (s, 0) = (s ++ headB12 x, 0) ∧ rheadN x (s, 0) = (s ++ headB12 x, 0) := by
  have e1 := penNum_fit (n := 1) 1 rfl h.d (s := s) (by omega)
  have e2 := penNum_fit (n := 2) 2 rfl h.i (s := s ++ be x.d 1) (by simp [be_length]; omega)
  have e3 := penNum_fit (n := 1) 1 rfl h.b (s := s ++ be x.d 1 ++ be x.i 2) (by simp [be_length]; omega)
  have e4 := penNum_fit (n := 2) 2 rfl h.s (s := s ++ be x.d 1 ++ be x.i 2 ++ be x.b 1) (by simp [be_length]; omega)
  constructor
  · unfold headN headB12
    rw [e1.1, e2.1, e3.1, e4.1]
    simp only [List.append_assoc]
  · unfold rheadN headB12
    rw [e1.2, e2.2, e3.2, e4.2]
    simp only [List.append_assoc]
theorem putD_is {x : Dl} (h : FitD x) {s : List Int} (hl : s.length + 28 ≤ 65536) : putD x (s, 0) = (s ++ bytesD x, 0) ∧ rputD x (s, 0) = (s ++ bytesD x, 0) := by
  obtain ⟨e1, e2⟩ := headN_is h hl
  have t1 := putP_is h.t (s := s ++ headB12 x) (by simp [headB_len]; omega)
  have o1 := putP_is h.o (s := s ++ headB12 x) (by simp [headB_len]; omega)
  have t2 := putP_is h.t (s := s ++ headB12 x ++ bytesP x.o) (by simp [headB_len, bytesP_len]; omega)
  unfold putD rputD bytesD
  rw [e1, e2]
  by_cases h1 : x.d = 1
  · simp only [if_pos h1]
    rw [t1.1, t1.2, List.append_assoc]
    exact ⟨rfl, rfl⟩
  · by_cases h3 : x.d = 3
    · simp only [if_neg h1, if_pos h3]
      rw [o1.1, o1.2, t2.1, t2.2, List.append_assoc, List.append_assoc]
      exact ⟨rfl, rfl⟩
    · simp only [if_neg h1, if_neg h3, List.append_nil]
      exact ⟨trivial, trivial⟩
theorem getP_be {x : Pt} (h : FitP x) (r : List Int) : getP (bytesP x ++ r, 0) = (x, (r, 0)) := by
  have e1 := numE_be (n := 1) 1 rfl h.c (be x.l 3 ++ (be x.n 4 ++ (be x.a 2 ++ (be x.k 1 ++ r))))
  have e2 := numE_be (n := 3) 3 rfl h.l (be x.n 4 ++ (be x.a 2 ++ (be x.k 1 ++ r)))
  have e3 := numE_be (n := 4) 4 rfl h.n (be x.a 2 ++ (be x.k 1 ++ r))
  have e4 := numE_be (n := 2) 2 rfl h.a (be x.k 1 ++ r)
  have e5 := numE_be (n := 1) 1 rfl h.k r
  unfold getP bytesP
  simp only [List.append_assoc]
  rw [e1]; simp only
  rw [e2]; simp only
  rw [e3]; simp only
  rw [e4]; simp only
  rw [e5]
theorem headE_be {x : Dl} (h : FitD x) (r : List Int) : headE (headB12 x ++ r, 0) = (⟨x.d, x.i, x.b, x.s, pZ, pZ⟩, (r, 0)) := by
  have e1 := numE_be (n := 1) 1 rfl h.d (be x.i 2 ++ (be x.b 1 ++ (be x.s 2 ++ r)))
  have e2 := numE_be (n := 2) 2 rfl h.i (be x.b 1 ++ (be x.s 2 ++ r))
  have e3 := numE_be (n := 1) 1 rfl h.b (be x.s 2 ++ r)
  have e4 := numE_be (n := 2) 2 rfl h.s r
  unfold headE headB12
  simp only [List.append_assoc]
  rw [e1]; simp only
  rw [e2]; simp only
  rw [e3]; simp only
  rw [e4]
/-- What a delta that may be has in bytes is read as that delta. -/
theorem getD_be {x : Dl} (h : mayL x = true) (r : List Int) : getD (bytesD x ++ r, 0) = (x, (r, 0)) := by
  have hf := fitD_of h
  obtain ⟨d, i, b, s, t, o⟩ := x
  have hk := mayL_kind h
  unfold getD bytesD
  rw [List.append_assoc, headE_be hf]
  simp only at hk ⊢
  rcases hk with ⟨rfl, rfl⟩ | ⟨rfl, rfl, rfl, rfl⟩ | ⟨rfl, rfl⟩
  · simp only [if_true]
    rw [getP_be hf.t]
  · simp
  · rw [if_neg (by decide), if_pos rfl, if_neg (by decide), if_pos rfl, List.append_assoc, getP_be hf.o]
    simp only
    rw [getP_be hf.t]
theorem getP_was {st : PSt} (h : (getP st).2.2 = 0) : st.2 = 0 := numE_was (numE_was (numE_was (numE_was (numE_was h))))
/-- Both read the same where the eye lives. -/
theorem getC_is {st : PSt} : (getC st).2 = (getD st).2 ∧ ((getD st).2.2 = 0 → getC st = getD st) := by
  unfold getC getD
  by_cases h1 : (headE st).1.d = 1
  · simp only [if_pos h1]
    refine ⟨trivial, fun h => ?_⟩
    unfold getA
    rw [if_pos h]
  · simp only [if_neg h1]
    by_cases h3 : (headE st).1.d = 3
    · simp only [if_pos h3]
      refine ⟨trivial, fun h => ?_⟩
      have h2 := getP_was h
      unfold getA
      rw [if_pos h, if_pos h2]
    · simp only [if_neg h3]
      exact ⟨trivial, fun _ => trivial⟩
theorem getP_ok {zs : List Int} (hb : ∀ z ∈ zs, 0 ≤ z ∧ z ≤ 255) (hz : (getP (zs, 0)).2.2 = 0) : zs = bytesP (getP (zs, 0)).1 ++ (getP (zs, 0)).2.1 := by
  unfold getP at hz ⊢
  simp only at hz ⊢
  obtain ⟨x1, ⟨r1, b1⟩, e1⟩ : ∃ x s, numE 1 (zs, 0) = (x, s) := ⟨_, _, rfl⟩
  rw [e1] at hz ⊢; simp only at hz ⊢
  obtain ⟨x2, ⟨r2, b2⟩, e2⟩ : ∃ x s, numE 3 (r1, b1) = (x, s) := ⟨_, _, rfl⟩
  rw [e2] at hz ⊢; simp only at hz ⊢
  obtain ⟨x3, ⟨r3, b3⟩, e3⟩ : ∃ x s, numE 4 (r2, b2) = (x, s) := ⟨_, _, rfl⟩
  rw [e3] at hz ⊢; simp only at hz ⊢
  obtain ⟨x4, ⟨r4, b4⟩, e4⟩ : ∃ x s, numE 2 (r3, b3) = (x, s) := ⟨_, _, rfl⟩
  rw [e4] at hz ⊢; simp only at hz ⊢
  obtain ⟨x5, ⟨r5, b5⟩, e5⟩ : ∃ x s, numE 1 (r4, b4) = (x, s) := ⟨_, _, rfl⟩
  rw [e5] at hz ⊢; simp only at hz ⊢
  subst hz
  have z4 : b4 = 0 := numE_was (n := 1) (st := (r4, b4)) (by rw [e5])
  subst z4
  have z3 : b3 = 0 := numE_was (n := 2) (st := (r3, b3)) (by rw [e4])
  subst z3
  have z2 : b2 = 0 := numE_was (n := 4) (st := (r2, b2)) (by rw [e3])
  subst z2
  have z1 : b1 = 0 := numE_was (n := 3) (st := (r1, b1)) (by rw [e2])
  subst z1
  have q1 := numE_ok 1 rfl (by decide) (by decide) hb (by rw [e1])
  have y1 := numE_bytes 1 (st := (zs, 0)) hb
  rw [e1] at q1; rw [e1] at y1
  have q2 := numE_ok 3 rfl (by decide) (by decide) y1 (by rw [e2])
  have y2 := numE_bytes 3 (st := (r1, 0)) y1
  rw [e2] at q2; rw [e2] at y2
  have q3 := numE_ok 4 rfl (by decide) (by decide) y2 (by rw [e3])
  have y3 := numE_bytes 4 (st := (r2, 0)) y2
  rw [e3] at q3; rw [e3] at y3
  have q4 := numE_ok 2 rfl (by decide) (by decide) y3 (by rw [e4])
  have y4 := numE_bytes 2 (st := (r3, 0)) y3
  rw [e4] at q4; rw [e4] at y4
  have q5 := numE_ok 1 rfl (by decide) (by decide) y4 (by rw [e5])
  rw [e5] at q5
  unfold bytesP
  simp only [List.append_assoc] at *
  rw [← q5.1, ← q4.1, ← q3.1, ← q2.1, ← q1.1]
end Go.Proofs.Ytamcllcjondcpaa


/- delta: Decode. -/
namespace Go.Proofs.Ytamcllcjondcpaa
open Go.RowKit Go.Shelf
set_option maxRecDepth 100000
set_option linter.unusedSimpArgs false

/-- The deltas that were read, or why there is no reading on; and what is left. -/
def dcS (o : Except Int (List Dl) × PSt) : Except Int (List Dl) × PSt :=
  match o.1 with
  | .error _ => o
  | .ok l => if (getD o.2).2.2 ≠ 0 then (.error (getD o.2).2.2, (getD o.2).2) else if mayL (getD o.2).1 = true then (.ok (l ++ [(getD o.2).1]), (getD o.2).2) else (.error 4, (getD o.2).2)
def dcI (st : PSt) : Nat → Except Int (List Dl) × PSt
  | 0 => (.ok [], st)
  | k + 1 => dcS (dcI st k)
theorem dcI_err {st : PSt} {k : Nat} {y : Int} (h : (dcI st k).1 = .error y) : ∀ n, dcI st (k + n) = dcI st k
  | 0 => rfl
  | n + 1 => by
    show dcS (dcI st (k + n)) = _
    rw [dcI_err h n]
    unfold dcS
    rw [h]
theorem dcI_len {st : PSt} : ∀ {k : Nat} {l : List Dl}, (dcI st k).1 = .ok l → l.length = k ∧ ∀ x ∈ l, mayL x = true := by
  intro k
  induction k with
  | zero => intro l h; injection h with h; subst h; exact ⟨rfl, by simp⟩
  | succ k ih =>
    intro l h
    unfold dcI dcS at h
    cases hk : (dcI st k).1 with
    | error y => rw [hk] at h; simp only at h; rw [hk] at h; cases h
    | ok l0 =>
      rw [hk] at h
      simp only at h
      split at h
      · cases h
      · split at h
        · rename_i hm
          injection h with h
          subst h
          obtain ⟨h1, h2⟩ := ih hk
          exact ⟨by simp [h1], fun x hx => by
            rcases List.mem_append.1 hx with hx | hx
            · exact h2 x hx
            · simp at hx; rw [hx]; exact hm⟩
        · cases h
def decE (o : Except Int (List Dl) × PSt) : List Dl × Int :=
  match o.1 with
  | .error y => ([], y)
  | .ok l => if endOf o.2.1 o.2.2 ≠ 0 then ([], endOf o.2.1 o.2.2) else (l, 0)
/-- What Decode answers. -/
def decL (zs : List Int) : List Dl × Int :=
  if 4000 < (numE 2 (zs, 0)).1 then ([], 3) else decE (dcI (numE 2 (zs, 0)).2 (numE 2 (zs, 0)).1.toNat)
theorem getO_good {o : Dl × PSt} (h0 : o.2.2 = 0) (hm : mayL o.1 = true) : getO o = (o.1, 0) := by unfold getO; rw [if_neg (by simp [h0]), if_pos hm]
theorem getO_form {o : Dl × PSt} (h0 : o.2.2 = 0) (hm : mayL o.1 = false) : getO o = (dZ, 4) := by unfold getO; rw [if_neg (by simp [h0]), if_neg (by simp [hm])]
theorem getO_fail {o : Dl × PSt} (h0 : o.2.2 ≠ 0) : getO o = (dZ, o.2.2) := by unfold getO; rw [if_pos h0]
theorem dcS_good {l : List Dl} {st : PSt} (h0 : (getD st).2.2 = 0) (hm : mayL (getD st).1 = true) : dcS (.ok l, st) = (.ok (l ++ [(getD st).1]), (getD st).2) := by
  unfold dcS; simp only; rw [if_neg (by simp [h0]), if_pos hm]
theorem dcS_form {l : List Dl} {st : PSt} (h0 : (getD st).2.2 = 0) (hm : mayL (getD st).1 = false) : dcS (.ok l, st) = (.error 4, (getD st).2) := by
  unfold dcS; simp only; rw [if_neg (by simp [h0]), if_neg (by simp [hm])]
theorem dcS_fail {l : List Dl} {st : PSt} (h0 : (getD st).2.2 ≠ 0) : dcS (.ok l, st) = (.error (getD st).2.2, (getD st).2) := by
  unfold dcS; simp only; rw [if_pos h0]
theorem step_bad {l : List Dl} {st : PSt} (h : (getO (getC st)).2 ≠ 0) : dcS (.ok l, st) = (.error (getO (getC st)).2, (getC st).2) := by
  obtain ⟨e1, e2⟩ := getC_is (st := st)
  by_cases hz : (getD st).2.2 = 0
  · rw [e2 hz] at h ⊢
    cases hm : mayL (getD st).1 with
    | true => rw [getO_good hz hm] at h; exact absurd rfl h
    | false => rw [getO_form hz hm, dcS_form hz hm]
  · rw [dcS_fail hz, getO_fail (by rw [e1]; exact hz), e1]
theorem step_ok {l : List Dl} {st : PSt} (h : (getO (getC st)).2 = 0) : dcS (.ok l, st) = (.ok (l ++ [(getO (getC st)).1]), (getC st).2) := by
  obtain ⟨e1, e2⟩ := getC_is (st := st)
  by_cases hz : (getD st).2.2 = 0
  · rw [e2 hz] at h ⊢
    cases hm : mayL (getD st).1 with
    | true => rw [getO_good hz hm, dcS_good hz hm]
    | false => rw [getO_form hz hm] at h; cases h
  · rw [getO_fail (by rw [e1]; exact hz), e1] at h; exact absurd h hz
theorem EyL.endd {w wr : World} {B p : Nat} {v : Value} {st : PSt} (h : EyL w wr B p v st) : Calls Try.prog 62 #[.pointer (some ⟨p, 0, none⟩)] wr fun e w' => e = .returned (.int .i64 (endOf st.1 st.2)) ∧ wr = w' := by
  obtain ⟨v2, he, _⟩ := h
  exact end_any wr B p v2 st.1 st.2 he
theorem numE_lowB {st : PSt} (hr : ∀ z ∈ st.1, 0 ≤ z ∧ z ≤ 255) (n : Int) : 0 ≤ (numE n st).1 := by
  unfold numE after rdNum
  by_cases h1 : st.2 ≠ 0
  · rw [if_pos h1]; exact Int.le_refl _
  · rw [if_neg h1]
    split
    · exact Int.le_refl _
    · rename_i x rest heq
      split at heq
      · cases heq
      · split at heq
        · cases heq
        · injection heq with heq
          injection heq with e1 e2
          show 0 ≤ x
          rw [← e1]
          exact (val_bound _ (st.1.take n.toNat) rfl (fun z hz => hr z (List.mem_of_mem_take hz))).1
def DecPost (w : World) (r : List Dl × Int) (e : Ending) (w' : World) : Prop :=
  ∃ v, e = .returned (.tuple #[v, .int .i64 r.2]) ∧ DlsAt w' v r.1 ∧ Keeps [] w w'
theorem dls_nil (w : World) : DlsAt w (.slice none 0 0) [] := ⟨none, 0, rfl, by simp, by simp, fun _ => rfl, fun h => absurd rfl h⟩

set_option maxHeartbeats 12800000 in
theorem dDecode_any (w : World) (u : Value) (zs : List Int) (h : RowAt w u zs) (hl : zs.length ≤ 35184372088832) : Calls Try.prog 20 #[u] w (DecPost w (decL zs)) := by
  have HU := hid h
  have HL := hid hl
  obtain ⟨r, hr⟩ : ∃ r, r = decL zs := ⟨_, rfl⟩
  rw [← hr]
  unfold decL at hr
  obtain ⟨x1, s1, e1⟩ : ∃ x s, numE 2 (zs, 0) = (x, s) := ⟨_, _, rfl⟩
  have hlo := numE_lowB (st := (zs, 0)) h.bytes 2
  rw [e1] at hr hlo
  simp only at hr hlo
  obtain ⟨c, hc⟩ := Int.eq_ofNat_of_zero_le hlo
  subst hc
  rw [Int.toNat_natCast] at hr
  have HR := hid hr
  have N1 := hid e1
  clear hr e1 hlo h hl
  go_enter Try.func20, Try.ntmps20
  go_wp2_with fail
  refine (newEye_any w w.heap.size u zs HU.out (Nat.le_refl _) HL.out).mono ?_
  rintro e w1 ⟨q, v, rfl, hq, he, hk, hv⟩
  have HQ := hid hq
  have K1 := hid hk
  have E1 : Hid (EyL w1 w1 w.heap.size q v (zs, 0)) := hid ⟨v, he, SameBlk.refl _, fun g hg => off_oldB he.row hg⟩
  clear hq he hk hv
  go_wp2_with fail
  have A := E1.out.num 2
  rw [N1.out] at A
  refine A.mono ?_
  rintro e w2 ⟨rfl, h2, k2⟩
  have E2 := hid h2
  have K2 := hid (K1.out.trans' k2 (S := []) (fun i hi hm => by simp at hm; have := HQ.out; omega))
  have KQ2 := hid k2
  clear A h2 k2
  by_cases hbig : (4000 : Int) < (c : Int)
  · have HBG := hid hbig
    go_wp2_with fail
    go_ret2
    rw [HR.out, if_pos HBG.out]
    exact ⟨_, rfl, dls_nil _, K2.out⟩
  · have HC := hid (show c ≤ 4000 by omega)
    have HR2 := hid (show r = decE (dcI s1 c) by rw [HR.out, if_neg (by have := HC.out; omega)])
    go_wp2_with fail
    clear hbig
    go_loopw [6, 17] (fun lv iv wr => ∃ (k : Nat) (l : List Dl) (st2 : PSt) (a : Option Addr) (cp : Nat), k ≤ c ∧ iv = .int .i64 k ∧ lv = .slice a l.length cp ∧ Hid (dcI s1 k = (.ok l, st2)) ∧ Hid (OwnD wr w1.heap.size (.slice a l.length cp) l) ∧ Hid (EyL w1 wr w.heap.size q v st2) ∧ Hid (Keeps [q] w1 wr)) (fun _ iv _ => c - (intOf iv).toNat)
    case atStart => exact ⟨0, [], s1, none, 0, Nat.zero_le _, rfl, rfl, hid rfl, hid (OwnD.nil _ _), E2, KQ2⟩
    case round =>
      obtain ⟨k, l, st2, a, cp, hk, rfl, rfl, RD, OW, HE, KE⟩ := hrel
      have HLK := hid (show l.length = k from (dcI_len (by rw [RD.out])).1)
      by_cases hlt : k < c
      · have hk4 : k < 4000 := by have := HC.out; omega
        obtain ⟨x, why, ho⟩ : ∃ x y, getO (getC st2) = (x, y) := ⟨_, _, rfl⟩
        have HG := dGet_any wr w.heap.size q v st2 HE.out KE.out.size
        unfold GetPost at HG
        rw [ho] at HG
        have HO := hid ho
        clear ho
        go_wp2_with fail
        refine HG.mono ?_
        rintro e w4 ⟨rfl, h4, k4⟩
        have ka : Keeps [] w4 (w4.alloc (.cells x.cells.toArray 49)) := (Keeps.refl [] w4).alloc _
        have RA := hid (range_new w4 x.cells 49)
        have H4 := hid (h4.more ka)
        have KA := hid (k4.trans (ka.mono (by simp)))
        have HQ1 := hid E1.out.lt
        have K4 := hid (KE.out.trans KA.out)
        have O4 := hid (OW.out.keep KA.out (fun b hb => by simp at hb; subst hb; exact HQ1.out))
        have HS4 := hid (show w4.heap.size < (w4.alloc (.cells x.cells.toArray 49)).heap.size by simp)
        clear HG h4 k4 ka
        by_cases hw : why = 0
        · have HW := hid hw
          have hwb : (why == 0) = true := by simpa using hw
          have hwn : (why != 0) = false := by simpa using hw
          have NX := hid (show dcI s1 (k + 1) = (.ok (l ++ [x]), (getC st2).2) by
            show dcS (dcI s1 k) = _
            rw [RD.out, step_ok (by rw [HO.out]; exact HW.out), HO.out])
          clear hw
          generalize hW4 : w4.alloc (.cells x.cells.toArray 49) = w5 at RA H4 KA K4 O4 HS4
          have W5 := hid hW4
          have k5 : Keeps [] w5 (w5.alloc (.cells x.cells.toArray 49)) := (Keeps.refl [] w5).alloc _
          obtain ⟨a', c', w6, hrun, o6, k6⟩ := append_dls (O4.out.later k5) _ 1 1 (one_dl w5 x) (by have := HLK.out; simp; omega) (by have := K4.out.size; have := k5.size; omega) 23
          have O6 := hid o6
          have H6 := hid (show EyL w1 w6 w.heap.size q v (getC st2).2 from by
            obtain ⟨v2, he, hs, hof⟩ := H4.out
            refine ⟨v2, (he.keep k5 (by simp) (by intro _ _ _ _ _; simp)).keep k6 ?_ ?_, hs, hof⟩
            · intro hm
              have := (O4.out.blk q (by simpa using hm)).1
              have := HQ1.out
              omega
            · cases hob : (Value.slice a l.length cp).ownBlock with
              | none => intro _ _ _ _ _; simp
              | some g => exact hof g (O4.out.blk g hob).1)
          have K6 := hid ((K4.out.trans (k5.mono (by simp))).trans' k6 (fun i hi hm => by have := (O4.out.blk i (by simpa using hm)).1; omega))
          have RUN := hid hrun
          clear hrun o6 k6 k5 hW4
          go_wp2_with (first | (refine wpList_is rfl _ _ (exec_alloc 49 dZ.cells.toArray iDelta rfl) ?_) | (refine wpList_noval rfl _ (exec_storeNew 49 _ _ rfl w4 dZ.cells.toArray x.cells.toArray rfl rfl rfl iDelta rfl (dcells_one x)) ?_; rw [W5.out]) | (refine wpList_isW rfl _ _ (exec_load _ _ _ _ rfl rfl (loadDl_run _ w4.heap.size 0 x RA.out)) ?_) | (refine wpList_is rfl _ _ (exec_oneDl _ x rfl rfl) ?_) | (refine wpList_is rfl _ _ (exec_appendT 23 _ _ rfl rfl rfl RUN.out) ?_) | fail)
          go_roundw
          case rel => exact ⟨k + 1, l ++ [x], (getC st2).2, a', c', by omega, by go_num, by simp, NX, hid (by have := O6.out; simpa using this), H6, K6⟩
          case measure => simp [intOf]; omega
        · have HW := hid hw
          have hwb : (why == 0) = false := by simpa using hw
          have hwn : (why != 0) = true := by simpa using hw
          have NX := hid (show r = ([], why) by
            have e : dcI s1 (k + 1) = (.error why, (getC st2).2) := by
              show dcS (dcI s1 k) = _
              rw [RD.out, step_bad (by rw [HO.out]; exact HW.out), HO.out]
            have e2 := dcI_err (st := s1) (k := k + 1) (y := why) (by rw [e]) (c - (k + 1))
            rw [show k + 1 + (c - (k + 1)) = c by omega, e] at e2
            rw [HR2.out, e2]; rfl)
          clear hw
          go_wp2_with (first | (refine wpList_is rfl _ _ (exec_alloc 49 dZ.cells.toArray iDelta rfl) ?_) | (refine wpList_noval rfl _ (exec_storeNew 49 _ _ rfl w4 dZ.cells.toArray x.cells.toArray rfl rfl rfl iDelta rfl (dcells_one x)) ?_) | fail)
          go_ret2
          rw [NX.out]
          exact ⟨_, rfl, dls_nil _, K1.out.trans' K4.out (fun i hi hm => by simp at hm; have := HQ.out; omega)⟩
      · obtain rfl : k = c := by omega
        have HR3 := hid (show r = if endOf st2.1 st2.2 ≠ 0 then ([], endOf st2.1 st2.2) else (l, 0) by rw [HR2.out, RD.out]; rfl)
        obtain ⟨y, hy⟩ : ∃ y, y = endOf st2.1 st2.2 := ⟨_, rfl⟩
        have ED := HE.out.endd
        rw [← hy] at HR3 ED
        clear hy
        go_wp2_with fail
        refine ED.mono ?_
        rintro e _ ⟨rfl, rfl⟩
        have KF := hid (K1.out.trans' KE.out (S := []) (fun i hi hm => by simp at hm; have := HQ.out; omega))
        by_cases hy : y = 0
        · have HY := hid hy
          have hyb : (y == 0) = true := by simpa using hy
          have hyn : (y != 0) = false := by simpa using hy
          clear hy
          go_wp2_with fail
          go_ret2
          rw [HR3.out, if_neg (by simp [HY.out])]
          exact ⟨_, rfl, OW.out.at, KF.out⟩
        · have HY := hid hy
          have hyb : (y == 0) = false := by simpa using hy
          have hyn : (y != 0) = true := by simpa using hy
          clear hy
          go_wp2_with fail
          go_ret2
          rw [HR3.out, if_pos HY.out]
          exact ⟨_, rfl, dls_nil _, KF.out⟩
end Go.Proofs.Ytamcllcjondcpaa


/- delta: the reference's DecodeDeltas. -/
namespace Go.Proofs.Ytamcllcjondcpaa
open Go.RowKit Go.Shelf
set_option maxRecDepth 100000
set_option linter.unusedSimpArgs false

/-- What the reference's reader has behind so many deltas, as long as its eye lives. -/
def rcI (st : PSt) : Nat → List Dl × PSt
  | 0 => ([], st)
  | k + 1 => ((rcI st k).1 ++ [(getD (rcI st k).2).1], finD (getD (rcI st k).2))
theorem rcI_succ (st : PSt) (k : Nat) : rcI st (k + 1) = ((rcI st k).1 ++ [(getD (rcI st k).2).1], finD (getD (rcI st k).2)) := rfl
theorem rcI_len (st : PSt) : ∀ k, (rcI st k).1.length = k
  | 0 => rfl
  | k + 1 => by unfold rcI; simp [rcI_len st k]
theorem finD_good {o : Dl × PSt} (h : (finD o).2 = 0) : o.2.2 = 0 ∧ mayL o.1 = true ∧ finD o = o.2 := by
  unfold finD formW at h ⊢
  by_cases hb : (!mayL o.1) = true ∧ o.2.2 = 0
  · rw [if_pos hb] at h; cases h
  · rw [if_neg hb] at h ⊢
    refine ⟨h, ?_, rfl⟩
    cases hm : mayL o.1 with
    | true => rfl
    | false => exact absurd ⟨by rw [hm]; rfl, h⟩ hb
theorem finD_bad {l : List Dl} {st : PSt} (h : (finD (getD st)).2 ≠ 0) : (dcS (.ok l, st)).1 = .error (finD (getD st)).2 := by
  unfold finD formW at h ⊢
  by_cases hz : (getD st).2.2 = 0
  · cases hm : mayL (getD st).1 with
    | true => rw [hm, if_neg (by simp)] at h; exact absurd hz h
    | false => rw [dcS_form hz hm, if_pos ⟨rfl, hz⟩]
  · rw [dcS_fail hz, if_neg (fun h => hz h.2)]
theorem rcI_ok {st : PSt} : ∀ {k : Nat}, (∀ j, j < k → (rcI st (j + 1)).2.2 = 0) → dcI st k = (.ok (rcI st k).1, (rcI st k).2)
  | 0, _ => rfl
  | k + 1, h => by
    have ih := rcI_ok (st := st) (k := k) (fun j hj => h j (by omega))
    obtain ⟨h1, h2, h3⟩ := finD_good (h k (by omega))
    show dcS (dcI st k) = _
    rw [ih, dcS_good h1 h2, rcI_succ, h3]
theorem rcI_fail {st : PSt} {k : Nat} (h : ∀ j, j < k → (rcI st (j + 1)).2.2 = 0) (hb : (rcI st (k + 1)).2.2 ≠ 0) : (dcI st (k + 1)).1 = .error (rcI st (k + 1)).2.2 := by
  show (dcS (dcI st k)).1 = _
  rw [rcI_ok h]
  exact finD_bad hb
theorem reend {wr : World} {B p : Nat} {st : PSt} (h : REyL wr B p st) : Calls Try.prog 70 #[.pointer (some ⟨p, 0, none⟩)] wr fun e w' => e = .returned (.int .i64 (endOf st.1 st.2)) ∧ wr = w' := by
  obtain ⟨v2, he⟩ := h
  exact reend_any wr B p v2 st.1 st.2 he
theorem reye_new {w : World} {u : Value} {zs : List Int} (h : RowAt w u zs) (hl : zs.length ≤ 35184372088832) : REyL (w.alloc (.cells #[u, .int .i64 0] 29)) w.heap.size w.heap.size (zs, 0) := by
  have k := (Keeps.refl [] w).alloc (.cells #[u, .int .i64 0] 29)
  refine ⟨u, heap_alloc_new w _, h.keep k (by intro _ _ _ _ _; simp), fun S hS ad n c e hne hm => ?_, Nat.le_refl _, hl⟩
  have hpos : 0 < zs.length := List.length_pos_iff.2 hne
  obtain ⟨g2, off, cap, rfl, _, hc⟩ := h.open hpos
  injection e with e1 _ _
  obtain rfl := Option.some.inj e1
  have h1 := World.block_lt_of_cell? _ _ (hc 0 hpos)
  have h2 := hS _ hm
  simp only at h1 h2
  omega
set_option maxHeartbeats 12800000 in
theorem rdDec_any (w : World) (u : Value) (zs : List Int) (h : RowAt w u zs) (hl : zs.length ≤ 35184372088832) : Calls Try.prog 24 #[u] w (DecPost w (decL zs)) := by
  obtain ⟨a0, c0, rfl⟩ : ∃ a c, u = .slice a zs.length c := by obtain ⟨a, c, h, _⟩ := h; exact ⟨a, c, h⟩
  have E0 := hid (reye_new h hl)
  have K0 : Hid (Keeps [w.heap.size] w (w.alloc (.cells #[.slice a0 zs.length c0, .int .i64 0] 29))) := hid (((Keeps.refl [] w).alloc _).mono (by simp))
  have KS : Hid (w.heap.size + 1 = (w.alloc (.cells #[.slice a0 zs.length c0, .int .i64 0] 29)).heap.size) := hid (by simp)
  obtain ⟨r, hr⟩ : ∃ r, r = decL zs := ⟨_, rfl⟩
  rw [← hr]
  unfold decL at hr
  obtain ⟨x1, s1, e1⟩ : ∃ x s, numE 2 (zs, 0) = (x, s) := ⟨_, _, rfl⟩
  have hlo := numE_lowB (st := (zs, 0)) h.bytes 2
  have hbad : 4000 < x1 → s1.2 = 0 := fun hx => by
    rcases numE_bad (n := 2) 2 rfl (by decide) (by decide) (zs, 0) with hb | hb
    · rw [e1] at hb; exact hb
    · by_cases hz : s1.2 = 0
      · exact hz
      · exfalso
        have : x1 = 0 := by
          rcases Nat.lt_or_ge zs.length 2 with h2 | h2
          · have := numE_short (n := 2) 2 rfl (by decide) (by decide) h2
            rw [e1] at this
            injection this
          · exfalso
            apply hz
            have : (numE 2 (zs, 0)).2.2 = 0 := by
              unfold numE after rdNum
              rw [if_neg (by simp), if_neg (by decide), if_neg (by show ¬ zs.length < 2; omega)]
            rw [e1] at this
            exact this
        omega
  have HBAD := hid hbad
  rw [e1] at hr hlo
  simp only at hr hlo
  obtain ⟨c, hc⟩ := Int.eq_ofNat_of_zero_le hlo
  subst hc
  rw [Int.toNat_natCast] at hr
  have HR := hid hr
  have N1 := hid e1
  clear hr e1 hlo h hl hbad
  go_enter Try.func24, Try.ntmps24
  go_wp2_with fail
  have A := E0.out.num 2
  rw [N1.out] at A
  refine A.mono ?_
  rintro e w2 ⟨rfl, h2, k2⟩
  have E2 := hid h2
  have KQ2 := hid (K0.out.trans k2)
  have KZ2 := hid (show w.heap.size + 1 ≤ w2.heap.size by have := KS.out; have := k2.size; omega)
  clear A h2 k2 E0 K0 KS
  generalize hqq : w.heap.size = q at E2 KQ2 KZ2 ⊢
  have KW : Hid (∀ i, i < w.heap.size → i ≠ q) := hid (fun i hi => by omega)
  clear hqq
  by_cases hbig : (4000 : Int) < (c : Int)
  · have HBG := hid hbig
    go_wp2_with fail
    refine (rFall_any E2.out 3).mono ?_
    rw [if_pos (HBAD.out hbig)]
    rintro e w3 ⟨rfl, h3, k3⟩
    have E3 := hid h3
    have K3 := hid (KQ2.out.trans k3)
    obtain ⟨cb, cf⟩ := h3.cells
    clear h3 k3 cf
    go_wp2_with fail
    go_loopw [6, 7] (fun lv iv wr => lv = .slice none 0 0 ∧ iv = .int .i64 0 ∧ w3 = wr) (fun _ _ _ => 0)
    case atStart => exact ⟨rfl, rfl, rfl⟩
    case round =>
      obtain ⟨rfl, rfl, hw⟩ := hrel
      rw [← hw]
      clear hw
      go_wp2_with (first | go_big_skip | fail)
      refine (reend E3.out).mono ?_
      rintro e _ ⟨rfl, rfl⟩
      rw [show endOf (s1.1, (3 : Int)).1 (s1.1, (3 : Int)).2 = 3 from rfl]
      go_wp2_with fail
      go_ret2
      rw [HR.out, if_pos HBG.out]
      exact ⟨_, rfl, dls_nil _, K3.out.mono (fun i hi hm => by simp at hm; exact absurd hm (KW.out i hi))⟩
  · have HC := hid (show c ≤ 4000 by omega)
    have HR2 := hid (show r = decE (dcI s1 c) by rw [HR.out, if_neg (by have := HC.out; omega)])
    go_wp2_with fail
    clear hbig
    go_loopw [6, 7] (fun lv iv wr => ∃ (k : Nat) (l : List Dl) (st2 : PSt) (a : Option Addr) (cp : Nat), k ≤ c ∧ iv = .int .i64 k ∧ lv = .slice a l.length cp ∧ Hid (rcI s1 k = (l, st2)) ∧ Hid (∀ j, j < k → (rcI s1 j).2.2 = 0) ∧ Hid (OwnD wr w2.heap.size (.slice a l.length cp) l) ∧ Hid (REyL wr q q st2) ∧ Hid (Keeps [q] w wr) ∧ Hid (w2.heap.size ≤ wr.heap.size)) (fun _ iv _ => c - (intOf iv).toNat)
    case atStart => exact ⟨0, [], s1, none, 0, Nat.zero_le _, rfl, rfl, hid rfl, hid (fun j hj => absurd hj (Nat.not_lt_zero _)), hid (OwnD.nil _ _), E2, KQ2, hid (Nat.le_refl _)⟩
    case round =>
      obtain ⟨k, l, st2, a, cp, hk, rfl, rfl, RD, RA0, OW, HE, KE, HSZ⟩ := hrel
      have HLK := hid (show l.length = k by have := rcI_len s1 k; rw [RD.out] at this; exact this)
      obtain ⟨cb, cf⟩ := HE.out.cells
      clear cf
      by_cases hlt : k < c
      · have hk4 : k < 4000 := by have := HC.out; omega
        by_cases hz : st2.2 = 0
        · have HZ := hid hz
          have hzb : (st2.2 == 0) = true := by simpa using hz
          clear hz
          obtain ⟨x, hx⟩ : ∃ x, x = (getD st2).1 := ⟨_, rfl⟩
          obtain ⟨s3, hs3⟩ : ∃ s, s = finD (getD st2) := ⟨_, rfl⟩
          have HG := rdGet_any wr q q st2 HE.out (by have := HSZ.out; have := KZ2.out; omega)
          unfold RGetPost at HG
          rw [← hx, ← hs3] at HG
          have NX := hid (show rcI s1 (k + 1) = (l ++ [x], s3) by rw [rcI_succ, RD.out, hx, hs3])
          clear hx hs3
          go_wp2_with (first | go_big_skip | fail)
          refine HG.mono ?_
          rintro e w4 ⟨rfl, h4, k4⟩
          have ka : Keeps [] w4 (w4.alloc (.cells x.cells.toArray 49)) := (Keeps.refl [] w4).alloc _
          have RA := hid (range_new w4 x.cells 49)
          have H4 := hid (h4.more ka)
          have KA := hid (k4.trans (ka.mono (by simp)))
          have K4 := hid (KE.out.trans KA.out)
          have O4 := hid (OW.out.keep KA.out (fun b hb => by simp at hb; subst hb; have := KZ2.out; omega))
          clear HG h4 k4 ka cb
          generalize hW4 : w4.alloc (.cells x.cells.toArray 49) = w5 at RA H4 KA K4 O4
          have W5 := hid hW4
          have k5 : Keeps [] w5 (w5.alloc (.cells x.cells.toArray 49)) := (Keeps.refl [] w5).alloc _
          have HS5 := hid (show w2.heap.size ≤ w5.heap.size by have := HSZ.out; have := KA.out.size; omega)
          obtain ⟨a', c', w6, hrun, o6, k6⟩ := append_dls (O4.out.later k5) _ 1 1 (one_dl w5 x) (by have := HLK.out; simp; omega) (by have := HS5.out; have := k5.size; omega) 23
          have O6 := hid o6
          have H6 := hid (show REyL w6 q q s3 from by
            obtain ⟨v2, he⟩ := H4.out
            refine ⟨v2, (he.keep k5 (by simp) (by simp)).keep k6 ?_ ?_⟩
            · intro hm
              have := (O4.out.blk q (by simpa using hm)).1
              have := KZ2.out
              omega
            · intro g hm
              have := (O4.out.blk g (by simpa using hm)).1
              have := KZ2.out
              omega)
          have K6 := hid ((K4.out.trans (k5.mono (by simp))).trans' k6 (fun i hi hm => by have := (O4.out.blk i (by simpa using hm)).1; have := KQ2.out.size; omega))
          have HS6 := hid (show w2.heap.size ≤ w6.heap.size by have := HS5.out; have := k5.size; have := k6.size; omega)
          have RUN := hid hrun
          clear hrun o6 k6 k5 hW4
          go_wp2_with (first | (refine wpList_is rfl _ _ (exec_alloc 49 dZ.cells.toArray iDelta rfl) ?_) | (refine wpList_noval rfl _ (exec_storeNew 49 _ _ rfl w4 dZ.cells.toArray x.cells.toArray rfl rfl rfl iDelta rfl (dcells_one x)) ?_; rw [W5.out]) | (refine wpList_isW rfl _ _ (exec_load _ _ _ _ rfl rfl (loadDl_run _ w4.heap.size 0 x RA.out)) ?_) | (refine wpList_is rfl _ _ (exec_oneDl _ x rfl rfl) ?_) | (refine wpList_is rfl _ _ (exec_appendT 23 _ _ rfl rfl rfl RUN.out) ?_) | fail)
          go_roundw
          case rel => exact ⟨k + 1, l ++ [x], s3, a', c', by omega, by go_num, by simp, NX, hid (fun j hj => by
            rcases Nat.lt_or_ge j k with h | h
            · exact RA0.out j h
            · obtain rfl : j = k := by omega
              rw [RD.out]; exact HZ.out), hid (by have := O6.out; simpa using this), H6, K6, HS6⟩
          case measure => simp [intOf]; omega
        · have HZ := hid hz
          have hzb : (st2.2 == 0) = false := by simpa using hz
          clear hz
          have NX := hid (show r = ([], st2.2) by
            have hk0 : k ≠ 0 ∨ k = 0 := by omega
            rcases hk0 with h0 | h0
            · obtain ⟨m, rfl⟩ : ∃ m, k = m + 1 := ⟨k - 1, by omega⟩
              have e := rcI_fail (st := s1) (k := m) (fun j hj => RA0.out (j + 1) (by omega)) (by rw [RD.out]; exact HZ.out)
              rw [RD.out] at e
              have e2 := dcI_err (st := s1) (k := m + 1) (y := st2.2) e (c - (m + 1))
              rw [show m + 1 + (c - (m + 1)) = c by omega] at e2
              rw [HR2.out, e2]
              unfold decE
              rw [e]
            · subst h0
              exfalso
              have e : s1 = st2 := by have := RD.out; unfold rcI at this; injection this
              have : (c : Int) = 0 := by
                rcases numE_bad (n := 2) 2 rfl (by decide) (by decide) (zs, 0) with hb | hb
                · rw [N1.out, e] at hb; exact absurd hb HZ.out
                · rcases Nat.lt_or_ge zs.length 2 with h2 | h2
                  · have := numE_short (n := 2) 2 rfl (by decide) (by decide) h2
                    rw [N1.out] at this
                    injection this
                  · exfalso
                    apply HZ.out
                    have : (numE 2 (zs, 0)).2.2 = 0 := by
                      unfold numE after rdNum
                      rw [if_neg (by simp), if_neg (by decide), if_neg (by show ¬ zs.length < 2; omega)]
                    rw [N1.out, e] at this
                    exact this
              omega)
          go_wp2_with (first | go_big_skip | fail)
          refine (reend HE.out).mono ?_
          rintro e _ ⟨rfl, rfl⟩
          rw [show endOf st2.1 st2.2 = st2.2 by unfold endOf; rw [if_neg HZ.out]]
          have hzn : (st2.2 != 0) = true := by simp [HZ.out]
          go_wp2_with fail
          go_ret2
          rw [NX.out]
          exact ⟨_, rfl, dls_nil _, KE.out.mono (fun i hi hm => by simp at hm; exact absurd hm (KW.out i hi))⟩
      · obtain rfl : k = c := by omega
        obtain ⟨y, hy⟩ : ∃ y, y = endOf st2.1 st2.2 := ⟨_, rfl⟩
        have HR3 := hid (show r = if y ≠ 0 then ([], y) else (l, 0) by
          have e : st2.2 ≠ 0 ∧ k ≠ 0 ∨ (st2.2 = 0 ∨ k = 0) := by omega
          rcases e with ⟨hb, h0⟩ | e
          · obtain ⟨m, rfl⟩ : ∃ m, k = m + 1 := ⟨k - 1, by omega⟩
            have e := rcI_fail (st := s1) (k := m) (fun j hj => RA0.out (j + 1) (by omega)) (by rw [RD.out]; exact hb)
            rw [RD.out] at e
            have hy2 : y = st2.2 := by rw [hy]; unfold endOf; rw [if_neg hb]
            rw [HR2.out, hy2, if_pos hb]
            unfold decE
            rw [e]
          · have e2 : dcI s1 k = (.ok l, st2) := by
              have := rcI_ok (st := s1) (k := k) (fun j hj => by
                rcases Nat.lt_or_ge (j + 1) k with h | h
                · exact RA0.out (j + 1) h
                · obtain rfl : k = j + 1 := by omega
                  rw [RD.out]
                  rcases e with e | e
                  · exact e
                  · omega)
              rw [RD.out] at this
              exact this
            rw [HR2.out, e2, hy]
            rfl)
        have ED := reend HE.out
        rw [← hy] at ED
        clear hy
        go_wp2_with (first | go_big_skip | fail)
        refine ED.mono ?_
        rintro e _ ⟨rfl, rfl⟩
        have KF := hid (KE.out.mono (S' := []) (fun i hi hm => by simp at hm; exact absurd hm (KW.out i hi)))
        by_cases hy : y = 0
        · have HY := hid hy
          have hyb : (y == 0) = true := by simpa using hy
          have hyn : (y != 0) = false := by simpa using hy
          clear hy
          go_wp2_with fail
          go_ret2
          rw [HR3.out, if_neg (by simp [HY.out])]
          exact ⟨_, rfl, OW.out.at, KF.out⟩
        · have HY := hid hy
          have hyb : (y == 0) = false := by simpa using hy
          have hyn : (y != 0) = true := by simpa using hy
          clear hy
          go_wp2_with fail
          go_ret2
          rw [HR3.out, if_pos HY.out]
          exact ⟨_, rfl, dls_nil _, KF.out⟩
end Go.Proofs.Ytamcllcjondcpaa


/- delta: whether two lists are the same, by the code and by the reference. -/
namespace Go.Proofs.Ytamcllcjondcpaa
open Go.RowKit Go.Shelf
set_option maxRecDepth 100000
set_option linter.unusedSimpArgs false

def eqDL (xs ys : List Dl) : Bool := xs.length == ys.length && (List.range xs.length).all fun j => eqD (xs.getD j dZ) (ys.getD j dZ)
theorem getD_at {xs : List Dl} {j : Nat} (h : j < xs.length) : xs.getD j dZ = xs[j] := by rw [List.getD_eq_getElem?_getD, List.getElem?_eq_getElem h]; rfl
theorem eqDL_is {xs ys : List Dl} : eqDL xs ys = true ↔ xs = ys := by
  unfold eqDL
  simp only [Bool.and_eq_true, beq_iff_eq, List.all_eq_true, List.mem_range]
  constructor
  · rintro ⟨h1, h2⟩
    refine List.ext_getElem h1 fun j j1 j2 => ?_
    have := h2 j j1
    rw [getD_at j1, getD_at j2] at this
    exact eqD_is.1 this
  · rintro rfl
    exact ⟨rfl, fun j hj => eqD_is.2 rfl⟩
theorem eqDL_no {xs ys : List Dl} {k : Nat} (h1 : k < xs.length) (h2 : k < ys.length) (h : eqD xs[k] ys[k] = false) : eqDL xs ys = false := by
  cases hq : eqDL xs ys with
  | false => rfl
  | true =>
    have := eqDL_is.1 hq
    subst this
    rw [eqD_is.2 rfl] at h
    cases h

set_option maxHeartbeats 6400000 in
theorem dEq_any (w : World) (v u : Value) (xs ys : List Dl) (hx : DlsAt w v xs) (hy : DlsAt w u ys) :
    Calls Try.prog 71 #[v, u] w (MayPost w (eqDL xs ys)) := by
  have HF := hx.few
  have HF2 := hy.few
  unfold maxLen at HF HF2
  obtain ⟨a, c, rfl⟩ := hx.shape
  obtain ⟨b, d, rfl⟩ := hy.shape
  have HX := hid hx
  have HY := hid hy
  clear hx hy
  by_cases hn : xs.length = ys.length
  · have hn' : ((xs.length : Int) != ys.length) = false := by simp [hn]
    have HN := hid hn
    clear hn
    go_enter Try.func71, Try.ntmps71
    go_wp2_with fail
    clear hn'
    go_loopw [13] (fun kv wr => ∃ k : Nat, kv = .int .i64 k ∧ k ≤ xs.length ∧ Hid (∀ j (h1 : j < xs.length) (h2 : j < ys.length), j < k → xs[j] = ys[j]) ∧ Hid (Keeps [] w wr)) (fun kv _ => xs.length - (intOf kv).toNat)
    case atStart => exact ⟨0, rfl, Nat.zero_le _, hid (fun j _ _ h => absurd h (Nat.not_lt_zero _)), hid (Keeps.refl _ _)⟩
    case round =>
      obtain ⟨k, rfl, hk, HALL, HK⟩ := hrel
      by_cases hlt : k < xs.length
      · have hlt2 : k < ys.length := by have := HN.out; omega
        obtain ⟨g, off, rfl, hg, R1⟩ := (HX.out.keep HK.out).at k hlt
        obtain ⟨g2, off2, rfl, hg2, R2⟩ := (HY.out.keep HK.out).at k hlt2
        obtain ⟨x, hxe⟩ : ∃ x, x = xs[k] := ⟨_, rfl⟩
        obtain ⟨y, hye⟩ : ∃ y, y = ys[k] := ⟨_, rfl⟩
        rw [← hxe] at R1
        rw [← hye] at R2
        have HR1 := hid R1
        have HR2 := hid R2
        have HXE := hid hxe
        have HYE := hid hye
        have HG := hid (And.intro hg hg2)
        clear R1 R2 hxe hye hg hg2
        cases he : eqD x y with
        | true =>
          have HE := hid he
          clear he
          go_wp2_with fail
          refine wp_region_any (by kernel_rfl) (wpAny_of_held (S := KpS [] wr.heap.size wr.drew) _ _ _ _ ?_)
          change wpAnyH _ _ _ _ _ _ _ _ wr.drew
          have cX : ∀ W1, KpS [] wr.heap.size wr.drew W1 → W1.rangeAt g (off + k * 14) x.cells := fun W1 h j v hv => h.cell (by rw [World.cell?_drew]; exact HR1.out j v hv) HG.out.1 (by simp)
          have cY : ∀ W1, KpS [] wr.heap.size wr.drew W1 → W1.rangeAt g2 (off2 + k * 14) y.cells := fun W1 h j v hv => h.cell (by rw [World.cell?_drew]; exact HR2.out j v hv) HG.out.2 (by simp)
          refine held_take (i := 0) (v := .slice (some ⟨g, off, none⟩) xs.length c) rfl (by kernel_rfl) (by kernel_rfl) (by kernel_rfl) (fun _ _ _ h => h) rfl (fun W1 hW1 => rfl) (KpS.refl _ _ _) ?_
          simp only [Act.put, List.setIfInBounds_toArray, List.set_cons_zero, List.set_cons_succ]
          refine held_take (i := 1) (v := .int .i64 (k : Int)) rfl (by kernel_rfl) (by kernel_rfl) (by kernel_rfl) (fun _ _ _ h => h) rfl (fun W1 hW1 => rfl) (KpS.refl _ _ _) ?_
          simp only [Act.put, List.setIfInBounds_toArray, List.set_cons_zero, List.set_cons_succ]
          refine held_take (i := 2) (v := .pointer (some ⟨g, off + k * 14, none⟩)) rfl (by kernel_rfl) (by kernel_rfl) (by kernel_rfl) (fun _ _ _ h => h) rfl (fun W1 hW1 => by go_simp) (KpS.refl _ _ _) ?_
          simp only [Act.put, List.setIfInBounds_toArray, List.set_cons_zero, List.set_cons_succ]
          refine held_take (i := 3) (v := dlV x) rfl (by kernel_rfl) (by kernel_rfl) (by kernel_rfl) (fun _ _ _ h => h) rfl (fun W1 hW1 => exec_load _ _ _ _ rfl rfl (loadDl_run W1 g (off + k * 14) x (cX W1 hW1))) (KpS.refl _ _ _) ?_
          simp only [Act.put, List.setIfInBounds_toArray, List.set_cons_zero, List.set_cons_succ]
          refine held_take (i := 4) (v := .slice (some ⟨g2, off2, none⟩) ys.length d) rfl (by kernel_rfl) (by kernel_rfl) (by kernel_rfl) (fun _ _ _ h => h) rfl (fun W1 hW1 => rfl) (KpS.refl _ _ _) ?_
          simp only [Act.put, List.setIfInBounds_toArray, List.set_cons_zero, List.set_cons_succ]
          refine held_take (i := 5) (v := .int .i64 (k : Int)) rfl (by kernel_rfl) (by kernel_rfl) (by kernel_rfl) (fun _ _ _ h => h) rfl (fun W1 hW1 => rfl) (KpS.refl _ _ _) ?_
          simp only [Act.put, List.setIfInBounds_toArray, List.set_cons_zero, List.set_cons_succ]
          refine held_take (i := 6) (v := .pointer (some ⟨g2, off2 + k * 14, none⟩)) rfl (by kernel_rfl) (by kernel_rfl) (by kernel_rfl) (fun _ _ _ h => h) rfl (fun W1 hW1 => by go_simp) (KpS.refl _ _ _) ?_
          simp only [Act.put, List.setIfInBounds_toArray, List.set_cons_zero, List.set_cons_succ]
          refine held_take (i := 7) (v := dlV y) rfl (by kernel_rfl) (by kernel_rfl) (by kernel_rfl) (fun _ _ _ h => h) rfl (fun W1 hW1 => exec_load _ _ _ _ rfl rfl (loadDl_run W1 g2 (off2 + k * 14) y (cY W1 hW1))) (KpS.refl _ _ _) ?_
          simp only [Act.put, List.setIfInBounds_toArray, List.set_cons_zero, List.set_cons_succ]
          refine held_take (i := 8) (v := .bool false) rfl (by kernel_rfl) (by kernel_rfl) (by kernel_rfl) (fun _ _ _ h => h) rfl (fun W1 hW1 => (exec_neqDl _ _ _ x y rfl rfl rfl).trans (by rw [HE.out]; rfl)) (KpS.refl _ _ _) ?_
          simp only [Act.put, List.setIfInBounds_toArray, List.set_cons_zero, List.set_cons_succ]
          refine wpAnyH_done (by kernel_rfl) ?_ _
          clear cX cY
          go_wp2_with fail
          go_roundw
          case rel =>
            refine ⟨k + 1, by go_num, by omega, hid (fun j h1 h2 hj => ?_), hid HK.out.drew⟩
            by_cases e : j = k
            · subst e
              rw [← HXE.out, ← HYE.out]; exact eqD_is.1 HE.out
            · exact HALL.out j h1 h2 (by omega)
          case measure => simp [intOf]; omega
        | false =>
          have HE := hid he
          clear he
          go_wp2_with fail
          refine wp_region_any (by kernel_rfl) (wpAny_of_held (S := KpS [] wr.heap.size wr.drew) _ _ _ _ ?_)
          change wpAnyH _ _ _ _ _ _ _ _ wr.drew
          have cX : ∀ W1, KpS [] wr.heap.size wr.drew W1 → W1.rangeAt g (off + k * 14) x.cells := fun W1 h j v hv => h.cell (by rw [World.cell?_drew]; exact HR1.out j v hv) HG.out.1 (by simp)
          have cY : ∀ W1, KpS [] wr.heap.size wr.drew W1 → W1.rangeAt g2 (off2 + k * 14) y.cells := fun W1 h j v hv => h.cell (by rw [World.cell?_drew]; exact HR2.out j v hv) HG.out.2 (by simp)
          refine held_take (i := 0) (v := .slice (some ⟨g, off, none⟩) xs.length c) rfl (by kernel_rfl) (by kernel_rfl) (by kernel_rfl) (fun _ _ _ h => h) rfl (fun W1 hW1 => rfl) (KpS.refl _ _ _) ?_
          simp only [Act.put, List.setIfInBounds_toArray, List.set_cons_zero, List.set_cons_succ]
          refine held_take (i := 1) (v := .int .i64 (k : Int)) rfl (by kernel_rfl) (by kernel_rfl) (by kernel_rfl) (fun _ _ _ h => h) rfl (fun W1 hW1 => rfl) (KpS.refl _ _ _) ?_
          simp only [Act.put, List.setIfInBounds_toArray, List.set_cons_zero, List.set_cons_succ]
          refine held_take (i := 2) (v := .pointer (some ⟨g, off + k * 14, none⟩)) rfl (by kernel_rfl) (by kernel_rfl) (by kernel_rfl) (fun _ _ _ h => h) rfl (fun W1 hW1 => by go_simp) (KpS.refl _ _ _) ?_
          simp only [Act.put, List.setIfInBounds_toArray, List.set_cons_zero, List.set_cons_succ]
          refine held_take (i := 3) (v := dlV x) rfl (by kernel_rfl) (by kernel_rfl) (by kernel_rfl) (fun _ _ _ h => h) rfl (fun W1 hW1 => exec_load _ _ _ _ rfl rfl (loadDl_run W1 g (off + k * 14) x (cX W1 hW1))) (KpS.refl _ _ _) ?_
          simp only [Act.put, List.setIfInBounds_toArray, List.set_cons_zero, List.set_cons_succ]
          refine held_take (i := 4) (v := .slice (some ⟨g2, off2, none⟩) ys.length d) rfl (by kernel_rfl) (by kernel_rfl) (by kernel_rfl) (fun _ _ _ h => h) rfl (fun W1 hW1 => rfl) (KpS.refl _ _ _) ?_
          simp only [Act.put, List.setIfInBounds_toArray, List.set_cons_zero, List.set_cons_succ]
          refine held_take (i := 5) (v := .int .i64 (k : Int)) rfl (by kernel_rfl) (by kernel_rfl) (by kernel_rfl) (fun _ _ _ h => h) rfl (fun W1 hW1 => rfl) (KpS.refl _ _ _) ?_
          simp only [Act.put, List.setIfInBounds_toArray, List.set_cons_zero, List.set_cons_succ]
          refine held_take (i := 6) (v := .pointer (some ⟨g2, off2 + k * 14, none⟩)) rfl (by kernel_rfl) (by kernel_rfl) (by kernel_rfl) (fun _ _ _ h => h) rfl (fun W1 hW1 => by go_simp) (KpS.refl _ _ _) ?_
          simp only [Act.put, List.setIfInBounds_toArray, List.set_cons_zero, List.set_cons_succ]
          refine held_take (i := 7) (v := dlV y) rfl (by kernel_rfl) (by kernel_rfl) (by kernel_rfl) (fun _ _ _ h => h) rfl (fun W1 hW1 => exec_load _ _ _ _ rfl rfl (loadDl_run W1 g2 (off2 + k * 14) y (cY W1 hW1))) (KpS.refl _ _ _) ?_
          simp only [Act.put, List.setIfInBounds_toArray, List.set_cons_zero, List.set_cons_succ]
          refine held_take (i := 8) (v := .bool true) rfl (by kernel_rfl) (by kernel_rfl) (by kernel_rfl) (fun _ _ _ h => h) rfl (fun W1 hW1 => (exec_neqDl _ _ _ x y rfl rfl rfl).trans (by rw [HE.out]; rfl)) (KpS.refl _ _ _) ?_
          simp only [Act.put, List.setIfInBounds_toArray, List.set_cons_zero, List.set_cons_succ]
          refine wpAnyH_done (by kernel_rfl) ?_ _
          clear cX cY
          go_wp2_with fail
          go_ret
          exact retD (eqDL_no hlt hlt2 (by rw [← HXE.out, ← HYE.out]; exact HE.out)).symm HK.out.drew
      · obtain rfl : k = xs.length := by omega
        go_wp2_with fail
        go_ret
        exact retD (eqDL_is.2 (List.ext_getElem HN.out fun j h1 h2 => HALL.out j h1 h2 h1)).symm HK.out
  · have hn' : ((xs.length : Int) != ys.length) = true := by simp; omega
    have HN := hid hn
    clear hn
    go_enter Try.func71, Try.ntmps71
    go_wp2_with fail
    go_ret
    exact retD (by unfold eqDL; rw [show (xs.length == ys.length) = false by simpa using HN.out]; rfl) (Keeps.refl _ _)

set_option maxHeartbeats 6400000 in
theorem rdSame_any (w : World) (v u : Value) (xs ys : List Dl) (hx : DlsAt w v xs) (hy : DlsAt w u ys) :
    Calls Try.prog 26 #[v, u] w (MayPost w (eqDL xs ys)) := by
  have HF := hx.few
  have HF2 := hy.few
  unfold maxLen at HF HF2
  obtain ⟨a, c, rfl⟩ := hx.shape
  obtain ⟨b, d, rfl⟩ := hy.shape
  have HX := hid hx
  have HY := hid hy
  clear hx hy
  by_cases hn : xs.length = ys.length
  · have hn' : ((xs.length : Int) != ys.length) = false := by simp [hn]
    have HN := hid hn
    clear hn
    go_enter Try.func26, Try.ntmps26
    go_wp2_with fail
    clear hn'
    go_loopw [5] (fun kv wr => ∃ k : Nat, kv = .int .i64 k ∧ k ≤ xs.length ∧ Hid (∀ j (h1 : j < xs.length) (h2 : j < ys.length), j < k → xs[j] = ys[j]) ∧ Hid (Keeps [] w wr)) (fun kv _ => xs.length - (intOf kv).toNat)
    case atStart => exact ⟨0, rfl, Nat.zero_le _, hid (fun j _ _ h => absurd h (Nat.not_lt_zero _)), hid (Keeps.refl _ _)⟩
    case round =>
      obtain ⟨k, rfl, hk, HALL, HK⟩ := hrel
      by_cases hlt : k < xs.length
      · have hlt2 : k < ys.length := by have := HN.out; omega
        obtain ⟨g, off, rfl, hg, R1⟩ := (HX.out.keep HK.out).at k hlt
        obtain ⟨g2, off2, rfl, hg2, R2⟩ := (HY.out.keep HK.out).at k hlt2
        obtain ⟨x, hxe⟩ : ∃ x, x = xs[k] := ⟨_, rfl⟩
        obtain ⟨y, hye⟩ : ∃ y, y = ys[k] := ⟨_, rfl⟩
        rw [← hxe] at R1
        rw [← hye] at R2
        have HR1 := hid R1
        have HR2 := hid R2
        have HXE := hid hxe
        have HYE := hid hye
        have HG := hid (And.intro hg hg2)
        clear R1 R2 hxe hye hg hg2
        cases he : eqD x y with
        | true =>
          have HE := hid he
          clear he
          go_wp2_with fail
          refine wp_region_any (by kernel_rfl) (wpAny_of_held (S := KpS [] wr.heap.size wr.drew) _ _ _ _ ?_)
          change wpAnyH _ _ _ _ _ _ _ _ wr.drew
          have cX : ∀ W1, KpS [] wr.heap.size wr.drew W1 → W1.rangeAt g (off + k * 14) x.cells := fun W1 h j v hv => h.cell (by rw [World.cell?_drew]; exact HR1.out j v hv) HG.out.1 (by simp)
          have cY : ∀ W1, KpS [] wr.heap.size wr.drew W1 → W1.rangeAt g2 (off2 + k * 14) y.cells := fun W1 h j v hv => h.cell (by rw [World.cell?_drew]; exact HR2.out j v hv) HG.out.2 (by simp)
          refine held_take (i := 0) (v := .slice (some ⟨g, off, none⟩) xs.length c) rfl (by kernel_rfl) (by kernel_rfl) (by kernel_rfl) (fun _ _ _ h => h) rfl (fun W1 hW1 => rfl) (KpS.refl _ _ _) ?_
          simp only [Act.put, List.setIfInBounds_toArray, List.set_cons_zero, List.set_cons_succ]
          refine held_take (i := 1) (v := .int .i64 (k : Int)) rfl (by kernel_rfl) (by kernel_rfl) (by kernel_rfl) (fun _ _ _ h => h) rfl (fun W1 hW1 => rfl) (KpS.refl _ _ _) ?_
          simp only [Act.put, List.setIfInBounds_toArray, List.set_cons_zero, List.set_cons_succ]
          refine held_take (i := 2) (v := .pointer (some ⟨g, off + k * 14, none⟩)) rfl (by kernel_rfl) (by kernel_rfl) (by kernel_rfl) (fun _ _ _ h => h) rfl (fun W1 hW1 => by go_simp) (KpS.refl _ _ _) ?_
          simp only [Act.put, List.setIfInBounds_toArray, List.set_cons_zero, List.set_cons_succ]
          refine held_take (i := 3) (v := dlV x) rfl (by kernel_rfl) (by kernel_rfl) (by kernel_rfl) (fun _ _ _ h => h) rfl (fun W1 hW1 => exec_load _ _ _ _ rfl rfl (loadDl_run W1 g (off + k * 14) x (cX W1 hW1))) (KpS.refl _ _ _) ?_
          simp only [Act.put, List.setIfInBounds_toArray, List.set_cons_zero, List.set_cons_succ]
          refine held_take (i := 4) (v := .slice (some ⟨g2, off2, none⟩) ys.length d) rfl (by kernel_rfl) (by kernel_rfl) (by kernel_rfl) (fun _ _ _ h => h) rfl (fun W1 hW1 => rfl) (KpS.refl _ _ _) ?_
          simp only [Act.put, List.setIfInBounds_toArray, List.set_cons_zero, List.set_cons_succ]
          refine held_take (i := 5) (v := .int .i64 (k : Int)) rfl (by kernel_rfl) (by kernel_rfl) (by kernel_rfl) (fun _ _ _ h => h) rfl (fun W1 hW1 => rfl) (KpS.refl _ _ _) ?_
          simp only [Act.put, List.setIfInBounds_toArray, List.set_cons_zero, List.set_cons_succ]
          refine held_take (i := 6) (v := .pointer (some ⟨g2, off2 + k * 14, none⟩)) rfl (by kernel_rfl) (by kernel_rfl) (by kernel_rfl) (fun _ _ _ h => h) rfl (fun W1 hW1 => by go_simp) (KpS.refl _ _ _) ?_
          simp only [Act.put, List.setIfInBounds_toArray, List.set_cons_zero, List.set_cons_succ]
          refine held_take (i := 7) (v := dlV y) rfl (by kernel_rfl) (by kernel_rfl) (by kernel_rfl) (fun _ _ _ h => h) rfl (fun W1 hW1 => exec_load _ _ _ _ rfl rfl (loadDl_run W1 g2 (off2 + k * 14) y (cY W1 hW1))) (KpS.refl _ _ _) ?_
          simp only [Act.put, List.setIfInBounds_toArray, List.set_cons_zero, List.set_cons_succ]
          refine held_take (i := 8) (v := .bool false) rfl (by kernel_rfl) (by kernel_rfl) (by kernel_rfl) (fun _ _ _ h => h) rfl (fun W1 hW1 => (exec_neqDl _ _ _ x y rfl rfl rfl).trans (by rw [HE.out]; rfl)) (KpS.refl _ _ _) ?_
          simp only [Act.put, List.setIfInBounds_toArray, List.set_cons_zero, List.set_cons_succ]
          refine wpAnyH_done (by kernel_rfl) ?_ _
          clear cX cY
          go_wp2_with fail
          go_roundw
          case rel =>
            refine ⟨k + 1, by go_num, by omega, hid (fun j h1 h2 hj => ?_), hid HK.out.drew⟩
            by_cases e : j = k
            · subst e
              rw [← HXE.out, ← HYE.out]; exact eqD_is.1 HE.out
            · exact HALL.out j h1 h2 (by omega)
          case measure => simp [intOf]; omega
        | false =>
          have HE := hid he
          clear he
          go_wp2_with fail
          refine wp_region_any (by kernel_rfl) (wpAny_of_held (S := KpS [] wr.heap.size wr.drew) _ _ _ _ ?_)
          change wpAnyH _ _ _ _ _ _ _ _ wr.drew
          have cX : ∀ W1, KpS [] wr.heap.size wr.drew W1 → W1.rangeAt g (off + k * 14) x.cells := fun W1 h j v hv => h.cell (by rw [World.cell?_drew]; exact HR1.out j v hv) HG.out.1 (by simp)
          have cY : ∀ W1, KpS [] wr.heap.size wr.drew W1 → W1.rangeAt g2 (off2 + k * 14) y.cells := fun W1 h j v hv => h.cell (by rw [World.cell?_drew]; exact HR2.out j v hv) HG.out.2 (by simp)
          refine held_take (i := 0) (v := .slice (some ⟨g, off, none⟩) xs.length c) rfl (by kernel_rfl) (by kernel_rfl) (by kernel_rfl) (fun _ _ _ h => h) rfl (fun W1 hW1 => rfl) (KpS.refl _ _ _) ?_
          simp only [Act.put, List.setIfInBounds_toArray, List.set_cons_zero, List.set_cons_succ]
          refine held_take (i := 1) (v := .int .i64 (k : Int)) rfl (by kernel_rfl) (by kernel_rfl) (by kernel_rfl) (fun _ _ _ h => h) rfl (fun W1 hW1 => rfl) (KpS.refl _ _ _) ?_
          simp only [Act.put, List.setIfInBounds_toArray, List.set_cons_zero, List.set_cons_succ]
          refine held_take (i := 2) (v := .pointer (some ⟨g, off + k * 14, none⟩)) rfl (by kernel_rfl) (by kernel_rfl) (by kernel_rfl) (fun _ _ _ h => h) rfl (fun W1 hW1 => by go_simp) (KpS.refl _ _ _) ?_
          simp only [Act.put, List.setIfInBounds_toArray, List.set_cons_zero, List.set_cons_succ]
          refine held_take (i := 3) (v := dlV x) rfl (by kernel_rfl) (by kernel_rfl) (by kernel_rfl) (fun _ _ _ h => h) rfl (fun W1 hW1 => exec_load _ _ _ _ rfl rfl (loadDl_run W1 g (off + k * 14) x (cX W1 hW1))) (KpS.refl _ _ _) ?_
          simp only [Act.put, List.setIfInBounds_toArray, List.set_cons_zero, List.set_cons_succ]
          refine held_take (i := 4) (v := .slice (some ⟨g2, off2, none⟩) ys.length d) rfl (by kernel_rfl) (by kernel_rfl) (by kernel_rfl) (fun _ _ _ h => h) rfl (fun W1 hW1 => rfl) (KpS.refl _ _ _) ?_
          simp only [Act.put, List.setIfInBounds_toArray, List.set_cons_zero, List.set_cons_succ]
          refine held_take (i := 5) (v := .int .i64 (k : Int)) rfl (by kernel_rfl) (by kernel_rfl) (by kernel_rfl) (fun _ _ _ h => h) rfl (fun W1 hW1 => rfl) (KpS.refl _ _ _) ?_
          simp only [Act.put, List.setIfInBounds_toArray, List.set_cons_zero, List.set_cons_succ]
          refine held_take (i := 6) (v := .pointer (some ⟨g2, off2 + k * 14, none⟩)) rfl (by kernel_rfl) (by kernel_rfl) (by kernel_rfl) (fun _ _ _ h => h) rfl (fun W1 hW1 => by go_simp) (KpS.refl _ _ _) ?_
          simp only [Act.put, List.setIfInBounds_toArray, List.set_cons_zero, List.set_cons_succ]
          refine held_take (i := 7) (v := dlV y) rfl (by kernel_rfl) (by kernel_rfl) (by kernel_rfl) (fun _ _ _ h => h) rfl (fun W1 hW1 => exec_load _ _ _ _ rfl rfl (loadDl_run W1 g2 (off2 + k * 14) y (cY W1 hW1))) (KpS.refl _ _ _) ?_
          simp only [Act.put, List.setIfInBounds_toArray, List.set_cons_zero, List.set_cons_succ]
          refine held_take (i := 8) (v := .bool true) rfl (by kernel_rfl) (by kernel_rfl) (by kernel_rfl) (fun _ _ _ h => h) rfl (fun W1 hW1 => (exec_neqDl _ _ _ x y rfl rfl rfl).trans (by rw [HE.out]; rfl)) (KpS.refl _ _ _) ?_
          simp only [Act.put, List.setIfInBounds_toArray, List.set_cons_zero, List.set_cons_succ]
          refine wpAnyH_done (by kernel_rfl) ?_ _
          clear cX cY
          go_wp2_with fail
          go_ret
          exact retD (eqDL_no hlt hlt2 (by rw [← HXE.out, ← HYE.out]; exact HE.out)).symm HK.out.drew
      · obtain rfl : k = xs.length := by omega
        go_wp2_with fail
        go_ret
        exact retD (eqDL_is.2 (List.ext_getElem HN.out fun j h1 h2 => HALL.out j h1 h2 h1)).symm HK.out
  · have hn' : ((xs.length : Int) != ys.length) = true := by simp; omega
    have HN := hid hn
    clear hn
    go_enter Try.func26, Try.ntmps26
    go_wp2_with fail
    go_ret
    exact retD (by unfold eqDL; rw [show (xs.length == ys.length) = false by simpa using HN.out]; rfl) (Keeps.refl _ _)

theorem dSame_any (w : World) (v u : Value) (xs ys : List Dl) (hx : DlsAt w v xs) (hy : DlsAt w u ys) :
    Calls Try.prog 27 #[v, u] w (MayPost w (eqDL xs ys)) := by
  have H := hid (dEq_any w v u xs ys hx hy)
  clear hx hy
  go_enter Try.func27, Try.ntmps27
  go_wp2_with fail
  refine H.out.mono ?_
  rintro e w2 ⟨rfl, k2⟩
  have K2 := hid k2
  clear k2
  go_wp2_with fail
  go_ret
  exact retD rfl K2.out
end Go.Proofs.Ytamcllcjondcpaa


/- delta: lists of deltas as bytes, plainly. -/
namespace Go.Proofs.Ytamcllcjondcpaa
open Go.RowKit Go.Shelf
set_option maxRecDepth 100000
set_option linter.unusedSimpArgs false

theorem getP_bytes {st : PSt} (h : ∀ z ∈ st.1, 0 ≤ z ∧ z ≤ 255) : ∀ z ∈ (getP st).2.1, 0 ≤ z ∧ z ≤ 255 :=
  numE_bytes 1 (numE_bytes 2 (numE_bytes 4 (numE_bytes 3 (numE_bytes 1 h))))
theorem headE_bytes {st : PSt} (h : ∀ z ∈ st.1, 0 ≤ z ∧ z ≤ 255) : ∀ z ∈ (headE st).2.1, 0 ≤ z ∧ z ≤ 255 :=
  numE_bytes 2 (numE_bytes 1 (numE_bytes 2 (numE_bytes 1 h)))
theorem getD_bytes {st : PSt} (h : ∀ z ∈ st.1, 0 ≤ z ∧ z ≤ 255) : ∀ z ∈ (getD st).2.1, 0 ≤ z ∧ z ≤ 255 := by
  unfold getD
  split
  · exact getP_bytes (headE_bytes h)
  · split
    · exact getP_bytes (getP_bytes (headE_bytes h))
    · exact headE_bytes h
theorem headE_was {st : PSt} (h : (headE st).2.2 = 0) : st.2 = 0 := numE_was (numE_was (numE_was (numE_was h)))
theorem getD_was {st : PSt} (h : (getD st).2.2 = 0) : (headE st).2.2 = 0 := by
  unfold getD at h
  split at h
  · exact getP_was h
  · split at h
    · exact getP_was (getP_was h)
    · exact h
theorem headE_ok {zs : List Int} (hb : ∀ z ∈ zs, 0 ≤ z ∧ z ≤ 255) (hz : (headE (zs, 0)).2.2 = 0) : zs = headB12 (headE (zs, 0)).1 ++ (headE (zs, 0)).2.1 ∧ FitN (headE (zs, 0)).1.d 1 := by
  unfold headE at hz ⊢
  simp only at hz ⊢
  obtain ⟨x1, ⟨r1, b1⟩, e1⟩ : ∃ x s, numE 1 (zs, 0) = (x, s) := ⟨_, _, rfl⟩
  rw [e1] at hz ⊢; simp only at hz ⊢
  obtain ⟨x2, ⟨r2, b2⟩, e2⟩ : ∃ x s, numE 2 (r1, b1) = (x, s) := ⟨_, _, rfl⟩
  rw [e2] at hz ⊢; simp only at hz ⊢
  obtain ⟨x3, ⟨r3, b3⟩, e3⟩ : ∃ x s, numE 1 (r2, b2) = (x, s) := ⟨_, _, rfl⟩
  rw [e3] at hz ⊢; simp only at hz ⊢
  obtain ⟨x4, ⟨r4, b4⟩, e4⟩ : ∃ x s, numE 2 (r3, b3) = (x, s) := ⟨_, _, rfl⟩
  rw [e4] at hz ⊢; simp only at hz ⊢
  subst hz
  have z3 : b3 = 0 := numE_was (n := 2) (st := (r3, b3)) (by rw [e4])
  subst z3
  have z2 : b2 = 0 := numE_was (n := 1) (st := (r2, b2)) (by rw [e3])
  subst z2
  have z1 : b1 = 0 := numE_was (n := 2) (st := (r1, b1)) (by rw [e2])
  subst z1
  have q1 := numE_ok (n := 1) 1 rfl (by decide) (by decide) hb (by rw [e1])
  have y1 := numE_bytes 1 (st := (zs, 0)) hb
  rw [e1] at q1; rw [e1] at y1
  have q2 := numE_ok (n := 2) 2 rfl (by decide) (by decide) y1 (by rw [e2])
  have y2 := numE_bytes 2 (st := (r1, 0)) y1
  rw [e2] at q2; rw [e2] at y2
  have q3 := numE_ok (n := 1) 1 rfl (by decide) (by decide) y2 (by rw [e3])
  have y3 := numE_bytes 1 (st := (r2, 0)) y2
  rw [e3] at q3; rw [e3] at y3
  have q4 := numE_ok (n := 2) 2 rfl (by decide) (by decide) y3 (by rw [e4])
  rw [e4] at q4
  refine ⟨?_, q1.2⟩
  unfold headB12
  simp only [List.append_assoc] at *
  rw [← q4.1, ← q3.1, ← q2.1, ← q1.1]
/-- What was read, was written so. -/
theorem getD_ok {zs : List Int} (hb : ∀ z ∈ zs, 0 ≤ z ∧ z ≤ 255) (hz : (getD (zs, 0)).2.2 = 0) : zs = bytesD (getD (zs, 0)).1 ++ (getD (zs, 0)).2.1 ∧ FitN (getD (zs, 0)).1.d 1 := by
  have hh := getD_was hz
  obtain ⟨h1, h2⟩ := headE_ok hb hh
  have hb1 := headE_bytes (st := (zs, 0)) hb
  unfold getD bytesD at *
  obtain ⟨x, ⟨r, b⟩, e⟩ : ∃ x s, headE (zs, 0) = (x, s) := ⟨_, _, rfl⟩
  rw [e] at h1 h2 hb1 hz hh ⊢
  simp only at h1 h2 hb1 hz hh ⊢
  subst hh
  by_cases k1 : x.d = 1
  · simp only [if_pos k1] at hz ⊢
    refine ⟨?_, h2⟩
    have := getP_ok hb1 hz
    rw [List.append_assoc, ← this]
    exact h1
  · by_cases k3 : x.d = 3
    · simp only [if_neg k1, if_pos k3] at hz ⊢
      refine ⟨?_, h2⟩
      have z1 := getP_was hz
      have p1 := getP_ok hb1 z1
      have hb2 := getP_bytes (st := (r, 0)) hb1
      obtain ⟨y, ⟨r2, b2⟩, e2⟩ : ∃ x s, getP (r, 0) = (x, s) := ⟨_, _, rfl⟩
      rw [e2] at z1 p1 hb2 hz ⊢
      simp only at z1 p1 hb2 hz ⊢
      subst z1
      have p2 := getP_ok hb2 hz
      rw [List.append_assoc, List.append_assoc, ← p2, ← p1]
      exact h1
    · simp only [if_neg k1, if_neg k3, List.append_nil] at hz ⊢
      exact ⟨h1, h2⟩
def flatD (ds : List Dl) : List Int := ds.flatMap bytesD
theorem flatD_append (a b : List Dl) : flatD (a ++ b) = flatD a ++ flatD b := by simp [flatD]
theorem flatD_cons (a : Dl) (b : List Dl) : flatD (a :: b) = bytesD a ++ flatD b := by simp [flatD]
theorem flatD_len : ∀ ds : List Dl, ds.length * 6 ≤ (flatD ds).length ∧ (flatD ds).length ≤ ds.length * 28
  | [] => by simp [flatD]
  | d :: ds => by
    have h1 := bytesD_len d
    have h2 := flatD_len ds
    rw [flatD_cons, List.length_append, List.length_cons]
    omega
def allB (ds : List Dl) : List Int := be ds.length 2 ++ flatD ds
theorem allB_len (ds : List Dl) : (allB ds).length = 2 + (flatD ds).length := by simp [allB, be_length]
theorem badL_all {ds : List Dl} (h : badL ds = false) : ∀ x ∈ ds, mayL x = true := by
  intro x hx
  unfold badL at h
  rw [List.any_eq_false] at h
  have := h x hx
  simpa using this
theorem badL_of {ds : List Dl} (h : ∀ x ∈ ds, mayL x = true) : badL ds = false := by
  unfold badL
  rw [List.any_eq_false]
  intro x hx
  rw [h x hx]
  simp
theorem put_all : ∀ (ds : List Dl) (s : List Int), (∀ x ∈ ds, mayL x = true) → s.length + ds.length * 28 ≤ 65536 →
    ds.foldl (fun t x => putD x t) (s, 0) = (s ++ flatD ds, 0) ∧ ds.foldl (fun t x => rputD x t) (s, 0) = (s ++ flatD ds, 0)
  | [], s, _, _ => by simp [flatD]
  | d :: ds, s, hm, hl => by
    simp only [List.length_cons] at hl
    obtain ⟨e1, e2⟩ := putD_is (fitD_of (hm d (by simp))) (s := s) (by omega)
    have hb := bytesD_len d
    obtain ⟨i1, i2⟩ := put_all ds (s ++ bytesD d) (fun x hx => hm x (by simp [hx])) (by rw [List.length_append]; omega)
    rw [List.foldl_cons, List.foldl_cons, e1, e2, i1, i2, flatD_cons, List.append_assoc]
    exact ⟨rfl, rfl⟩
theorem len_fit {n : Nat} (h : n ≤ 4000) : FitN (n : Int) 2 := ⟨by decide, by decide, by omega, by show (n : Int) < 65536; omega⟩
theorem enc_is {ds : List Dl} (hm : ∀ x ∈ ds, mayL x = true) (hl : ds.length ≤ 2000) : encS ds = (allB ds, 0) ∧ rencS ds = (allB ds, 0) := by
  obtain ⟨e1, e2⟩ := penNum_fit (n := 2) 2 rfl (len_fit (n := ds.length) (by omega)) (s := []) (by simp)
  obtain ⟨p1, p2⟩ := put_all ds (be ds.length 2) hm (by rw [be_length]; omega)
  unfold encS rencS encK rencK allB
  rw [List.take_length, e1, e2, List.nil_append, p1, p2]
  exact ⟨rfl, rfl⟩
/-- What both Encodes answer. -/
theorem encL_is {ds : List Dl} (hl : ds.length ≤ 2000) : encL ds = (if badL ds = true then ([], 1) else (allB ds, 0)) ∧ rencL ds = encL ds := by
  unfold encL rencL
  by_cases hb : badL ds = true
  · rw [if_pos hb, if_pos hb, if_pos hb]; exact ⟨rfl, rfl⟩
  · have hm := badL_all (by simpa using hb)
    obtain ⟨e1, e2⟩ := enc_is hm hl
    simp only [if_neg hb, if_neg (show ¬ 4000 < ds.length by omega), e1, e2, if_true]
    exact ⟨trivial, trivial⟩
theorem dc_flat {ds : List Dl} (hm : ∀ x ∈ ds, mayL x = true) (r : List Int) : ∀ k, k ≤ ds.length → dcI (flatD ds ++ r, 0) k = (.ok (ds.take k), (flatD (ds.drop k) ++ r, 0))
  | 0, _ => by simp [dcI]
  | k + 1, h => by
    have ih := dc_flat hm r k (by omega)
    show dcS (dcI _ k) = _
    have hd : ds.drop k = ds[k] :: ds.drop (k + 1) := (List.drop_eq_getElem_cons (by omega))
    have hk := hm ds[k] (List.getElem_mem (by omega))
    have e := getD_be hk (flatD (ds.drop (k + 1)) ++ r)
    rw [ih, hd, flatD_cons, List.append_assoc]
    rw [dcS_good (by rw [e]) (by rw [e]; exact hk), e, List.take_succ_eq_append_getElem (by omega)]
/-- Decode of Encode. -/
theorem dec_enc {ds : List Dl} (hm : ∀ x ∈ ds, mayL x = true) (hl : ds.length ≤ 4000) : decL (allB ds) = (ds, 0) := by
  have e := numE_be (n := 2) 2 rfl (len_fit hl) (flatD ds)
  unfold decL
  rw [show allB ds = be ds.length 2 ++ flatD ds from rfl, e]
  simp only
  have f := dc_flat hm [] ds.length (Nat.le_refl _)
  rw [List.append_nil, List.take_length, List.drop_length] at f
  rw [if_neg (by omega), Int.toNat_natCast, f]
  rfl
theorem dc_back {zs : List Int} (hb : ∀ z ∈ zs, 0 ≤ z ∧ z ≤ 255) : ∀ (k : Nat) (l : List Dl) (st : PSt), dcI (zs, 0) k = (.ok l, st) → st.2 = 0 ∧ zs = flatD l ++ st.1 ∧ ∀ z ∈ st.1, 0 ≤ z ∧ z ≤ 255 := by
  intro k
  induction k with
  | zero =>
    intro l st h
    unfold dcI at h
    injection h with h1 h2
    injection h1 with h1
    subst h1 h2
    exact ⟨rfl, by simp [flatD], hb⟩
  | succ k ih =>
    intro l st h
    have h' : dcS (dcI (zs, 0) k) = (.ok l, st) := h
    obtain ⟨o, s, ho⟩ : ∃ o s, dcI (zs, 0) k = (o, s) := ⟨_, _, rfl⟩
    rw [ho] at h'
    cases o with
    | error y => unfold dcS at h'; simp only at h'; injection h' with h1 _; cases h1
    | ok l0 =>
      obtain ⟨i1, i2, i3⟩ := ih l0 s ho
      by_cases hz : (getD s).2.2 = 0
      · cases hm : mayL (getD s).1 with
        | false => rw [dcS_form hz hm] at h'; injection h' with h1 _; cases h1
        | true =>
          rw [dcS_good hz hm] at h'
          injection h' with h1 h2
          injection h1 with h1
          subst h1 h2
          obtain ⟨r, b⟩ := s
          simp only at i1
          subst i1
          refine ⟨hz, ?_, getD_bytes i3⟩
          rw [flatD_append, List.append_assoc, i2]
          congr 1
          have := (getD_ok i3 hz).1
          simpa [flatD] using this
      · rw [dcS_fail hz] at h'; injection h' with h1 _; cases h1
/-- Encode of Decode. -/
theorem enc_dec {zs : List Int} (hb : ∀ z ∈ zs, 0 ≤ z ∧ z ≤ 255) (h : (decL zs).2 = 0) : zs = allB (decL zs).1 ∧ ∀ x ∈ (decL zs).1, mayL x = true := by
  unfold decL at h ⊢
  obtain ⟨x1, ⟨r1, b1⟩, e1⟩ : ∃ x s, numE 2 (zs, 0) = (x, s) := ⟨_, _, rfl⟩
  have hlo := numE_lowB (st := (zs, 0)) hb 2
  have hb1 := numE_bytes 2 (st := (zs, 0)) hb
  rw [e1] at h hlo hb1 ⊢
  simp only at h hlo hb1 ⊢
  obtain ⟨c, rfl⟩ := Int.eq_ofNat_of_zero_le hlo
  rw [Int.toNat_natCast] at h ⊢
  by_cases hbig : (4000 : Int) < (c : Int)
  · rw [if_pos hbig] at h; cases h
  · rw [if_neg hbig] at h ⊢
    obtain ⟨o, s, ho⟩ : ∃ o s, dcI (r1, b1) c = (o, s) := ⟨_, _, rfl⟩
    rw [ho] at h ⊢
    cases o with
    | error y =>
      exfalso
      have hy : y = 0 := h
      subst hy
      clear h
      have : ∀ k, (dcI (r1, b1) k).1 ≠ .error 0 := by
        intro k
        induction k with
        | zero => intro e; cases e
        | succ k ih =>
          intro e
          have e' : (dcS (dcI (r1, b1) k)).1 = .error 0 := e
          obtain ⟨o, s, hq⟩ : ∃ o s, dcI (r1, b1) k = (o, s) := ⟨_, _, rfl⟩
          rw [hq] at e' ih
          cases o with
          | error y => unfold dcS at e'; simp only at e'; exact ih e'
          | ok l0 =>
            by_cases hz : (getD s).2.2 = 0
            · cases hm : mayL (getD s).1 with
              | false => rw [dcS_form hz hm] at e'; injection e' with e'; cases e'
              | true => rw [dcS_good hz hm] at e'; cases e'
            · rw [dcS_fail hz] at e'; injection e' with e'; exact hz e'
      exact this c (by rw [ho])
    | ok l =>
      unfold decE at h ⊢
      simp only at h ⊢
      by_cases hz : endOf s.1 s.2 = 0
      · rw [if_neg (by simp [hz])]
        simp only
        have hb0 : b1 = 0 := by
          by_cases h0 : b1 = 0
          · exact h0
          · exfalso
            have hc : c = 0 := by
              rcases Nat.lt_or_ge zs.length 2 with h2 | h2
              · have := numE_short (n := 2) 2 rfl (by decide) (by decide) h2
                rw [e1] at this
                injection this with e _
                omega
              · exfalso
                apply h0
                have : (numE 2 (zs, 0)).2.2 = 0 := by
                  unfold numE after rdNum
                  rw [if_neg (by simp), if_neg (by decide), if_neg (by show ¬ zs.length < 2; omega)]
                rw [e1] at this
                exact this
            subst hc
            unfold dcI at ho
            injection ho with _ h2
            subst h2
            unfold endOf at hz
            rw [if_neg h0] at hz
            exact h0 hz
        subst hb0
        obtain ⟨q1, q2, q3⟩ := dc_back hb1 c l s ho
        obtain ⟨l1, l2⟩ := dcI_len (st := (r1, 0)) (k := c) (l := l) (by rw [ho])
        refine ⟨?_, l2⟩
        have hs : s.1 = [] := by
          unfold endOf at hz
          rw [if_pos q1] at hz
          by_cases hl : s.1.length = 0
          · exact List.eq_nil_of_length_eq_zero hl
          · rw [if_neg hl] at hz; cases hz
        rw [hs, List.append_nil] at q2
        have q := (numE_ok (n := 2) 2 rfl (by decide) (by decide) hb (by rw [e1])).1
        rw [e1] at q
        simp only at q
        unfold allB
        rw [l1, ← q2]
        exact q
      · rw [if_pos hz] at h; exact absurd h hz
theorem bytesD_len_d {x y : Dl} (h : x.d = y.d) : (bytesD x).length = (bytesD y).length := by
  unfold bytesD
  simp only [List.length_append, headB_len, h]
  split
  · simp [bytesP_len]
  · split
    · simp [bytesP_len]
    · rfl
theorem numE_two {n : Nat} (m : Int) (hm : m = (n : Int)) (h1 : 1 ≤ n) (h7 : n ≤ 7) {st : PSt} (h : st.2 = 0 ∨ st.2 = 2) : (numE m st).2.2 = 0 ∨ (numE m st).2.2 = 2 := by
  rcases numE_bad m hm h1 h7 st with h0 | h0
  · exact Or.inl h0
  · rw [h0]
    split
    · exact Or.inr rfl
    · exact Or.inr (h.resolve_left (by assumption))
theorem getP_two {st : PSt} (h : st.2 = 0 ∨ st.2 = 2) : (getP st).2.2 = 0 ∨ (getP st).2.2 = 2 :=
  numE_two (n := 1) 1 rfl (by decide) (by decide) (numE_two (n := 2) 2 rfl (by decide) (by decide) (numE_two (n := 4) 4 rfl (by decide) (by decide) (numE_two (n := 3) 3 rfl (by decide) (by decide) (numE_two (n := 1) 1 rfl (by decide) (by decide) h))))
theorem headE_two {st : PSt} (h : st.2 = 0 ∨ st.2 = 2) : (headE st).2.2 = 0 ∨ (headE st).2.2 = 2 :=
  numE_two (n := 2) 2 rfl (by decide) (by decide) (numE_two (n := 1) 1 rfl (by decide) (by decide) (numE_two (n := 2) 2 rfl (by decide) (by decide) (numE_two (n := 1) 1 rfl (by decide) (by decide) h)))
theorem getD_two {st : PSt} (h : st.2 = 0 ∨ st.2 = 2) : (getD st).2.2 = 0 ∨ (getD st).2.2 = 2 := by
  unfold getD
  split
  · exact getP_two (headE_two h)
  · split
    · exact getP_two (getP_two (headE_two h))
    · exact headE_two h
theorem bytesD_byte (x : Dl) : ∀ z ∈ bytesD x, 0 ≤ z ∧ z ≤ 255 := by
  intro z hz
  unfold bytesD headB12 bytesP at hz
  simp only [List.mem_append] at hz
  rcases hz with hz | hz
  · rcases hz with ((hz | hz) | hz) | hz <;> exact be_byte _ _ z hz
  · split at hz
    · simp only [List.mem_append] at hz
      rcases hz with (((hz | hz) | hz) | hz) | hz <;> exact be_byte _ _ z hz
    · split at hz
      · simp only [List.mem_append] at hz
        rcases hz with ((((hz | hz) | hz) | hz) | hz) | ((((hz | hz) | hz) | hz) | hz) <;> exact be_byte _ _ z hz
      · cases hz
theorem flatD_byte (ds : List Dl) : ∀ z ∈ flatD ds, 0 ≤ z ∧ z ≤ 255 := by
  intro z hz
  unfold flatD at hz
  rw [List.mem_flatMap] at hz
  obtain ⟨d, _, h⟩ := hz
  exact bytesD_byte d z h
/-- A delta's bytes cut short are too short. -/
theorem getD_short {x : Dl} (h : mayL x = true) {j : Nat} (hj : j < (bytesD x).length) : (getD ((bytesD x).take j, 0)).2.2 = 2 := by
  rcases getD_two (st := ((bytesD x).take j, 0)) (Or.inl rfl) with hz | hz
  · exfalso
    have hb : ∀ z ∈ (bytesD x).take j, 0 ≤ z ∧ z ≤ 255 := fun z hz => bytesD_byte x z (List.mem_of_mem_take hz)
    obtain ⟨q1, q2⟩ := getD_ok hb hz
    obtain ⟨y, hy⟩ : ∃ y, y = (getD ((bytesD x).take j, 0)).1 := ⟨_, rfl⟩
    obtain ⟨r, hr⟩ : ∃ r, r = (getD ((bytesD x).take j, 0)).2.1 := ⟨_, rfl⟩
    rw [← hy, ← hr] at q1
    rw [← hy] at q2
    have hl := congrArg List.length q1
    rw [List.length_take, List.length_append] at hl
    have hy6 := (bytesD_len y).1
    have hd : x.d = y.d := by
      have h0 : ((bytesD x).take j)[0]? = (bytesD y ++ r)[0]? := by rw [q1]
      rw [List.getElem?_take, if_pos (by omega), List.getElem?_append_left (by omega)] at h0
      have fx := (fitD_of h).d
      have e : ∀ w : Dl, (bytesD w)[0]? = some (w.d % 256) := fun w => by
        unfold bytesD headB12
        rw [be_one]
        rfl
      rw [e x, e y] at h0
      injection h0 with h0
      obtain ⟨_, _, a1, a2⟩ := fx
      obtain ⟨_, _, b1, b2⟩ := q2
      have a2' : x.d < 256 := a2
      have b2' : y.d < 256 := b2
      omega
    have := bytesD_len_d hd
    omega
  · exact hz
theorem dc_cut {ds : List Dl} (hm : ∀ x ∈ ds, mayL x = true) {j : Nat} (hj : j < (flatD ds).length) : ∀ k, k ≤ ds.length →
    (dcI ((flatD ds).take j, 0) k = (.ok (ds.take k), ((flatD (ds.drop k)).take (j - (flatD (ds.take k)).length), 0)) ∧ (flatD (ds.take k)).length ≤ j) ∨ (dcI ((flatD ds).take j, 0) k).1 = .error 2
  | 0, _ => by left; simp [dcI, flatD]
  | k + 1, h => by
    rcases dc_cut hm hj k (by omega) with ⟨ih, il⟩ | ih
    · have hd : ds.drop k = ds[k] :: ds.drop (k + 1) := (List.drop_eq_getElem_cons (by omega))
      have hk := hm ds[k] (List.getElem_mem (by omega))
      have ht : ds.take (k + 1) = ds.take k ++ [ds[k]] := List.take_succ_eq_append_getElem (by omega)
      have hf : (flatD (ds.take (k + 1))).length = (flatD (ds.take k)).length + (bytesD ds[k]).length := by rw [ht, flatD_append, List.length_append]; simp [flatD]
      show _ ∨ (dcS (dcI _ k)).1 = _
      show (dcS (dcI _ k) = _ ∧ _) ∨ _
      rw [ih, hd, flatD_cons]
      rcases Nat.lt_or_ge (j - (flatD (ds.take k)).length) (bytesD ds[k]).length with hlt | hge
      · right
        rw [List.take_append_of_le_length (by omega)]
        have e := getD_short hk hlt
        rw [dcS_fail (by rw [e]; decide), e]
      · left
        refine ⟨?_, by omega⟩
        rw [List.take_append, List.take_of_length_le hge]
        have e := getD_be hk ((flatD (ds.drop (k + 1))).take (j - (flatD (ds.take k)).length - (bytesD ds[k]).length))
        rw [dcS_good (by rw [e]) (by rw [e]; exact hk), e, ht, flatD_append, List.length_append, Nat.sub_add_eq]
        simp [flatD]
    · right
      have := dcI_err ih 1
      rw [this]
      exact ih
/-- Each shorter beginning is too short. -/
theorem dec_cut {ds : List Dl} (hm : ∀ x ∈ ds, mayL x = true) (hl : ds.length ≤ 4000) {j : Nat} (hj : j < (allB ds).length) : (decL ((allB ds).take j)).2 = 2 := by
  rw [allB_len] at hj
  unfold decL
  rcases Nat.lt_or_ge j 2 with h2 | h2
  · have e := numE_short (n := 2) 2 rfl (by decide) (by decide) (zs := (allB ds).take j) (by rw [List.length_take]; omega)
    rw [e]
    simp only
    rw [if_neg (by decide)]
    rfl
  · have ht : (allB ds).take j = be ds.length 2 ++ (flatD ds).take (j - 2) := by
      unfold allB
      rw [List.take_append, be_length, List.take_of_length_le (by rw [be_length]; exact h2)]
    have e := numE_be (n := 2) 2 rfl (len_fit hl) ((flatD ds).take (j - 2))
    rw [ht, e]
    simp only
    rw [if_neg (by omega), Int.toNat_natCast]
    rcases dc_cut hm (j := j - 2) (by omega) ds.length (Nat.le_refl _) with ⟨_, h⟩ | h
    · rw [List.take_length] at h; omega
    · unfold decE
      rw [h]
/-- Unlike deltas have unlike bytes. -/
theorem bytesD_inj {x y : Dl} (hx : mayL x = true) (hy : mayL y = true) (h : bytesD x = bytesD y) : x = y := by
  have e1 := getD_be hx []
  have e2 := getD_be hy []
  rw [h, e2] at e1
  injection e1 with e _
  exact e.symm
end Go.Proofs.Ytamcllcjondcpaa


/- delta: the laws' awake. -/
namespace Go.Proofs.Ytamcllcjondcpaa
open Go.RowKit Go.Shelf
set_option maxRecDepth 100000
set_option linter.unusedSimpArgs false

theorem row_alloc (w : World) (zs : List Int) (hb : ∀ z ∈ zs, 0 ≤ z ∧ z ≤ 255) (hl : zs.length ≤ 1000) : RowAt (w.alloc (.cells (zs.map (Value.int .u8)).toArray 5)) (.slice (some ⟨w.heap.size, 0, none⟩) zs.length zs.length) zs :=
  ⟨_, _, rfl, Nat.le_refl _, by unfold maxLen; omega, by simp, hb, fun ad had j u hu => by
    obtain rfl := Option.some.inj had
    rw [Addr.add_lit, Nat.zero_add, cell_of_row _ _ j _ _ (0, 0) (heap_alloc_new w _), ← Array.getElem?_toList]
    exact hu⟩
theorem exec_eight {ρ : Operand → Value} {o : Oper} {w : World} (hc : ∀ v, ρ (.const v) = v)
    (ho : o.op = .buildSlice 22 8 #[(0, .const (.int .u8 0)), (1, .const (.int .u8 1)), (2, .const (.int .u8 2)), (3, .const (.int .u8 0)), (4, .const (.int .u8 2)), (5, .const (.int .u8 0)), (6, .const (.int .u8 0)), (7, .const (.int .u8 5))]) :
    (execOp ρ o).run Try.prog w = .ok (.value (.slice (some ⟨w.heap.size, 0, none⟩) 8 8)) (w.alloc (.cells #[.int .u8 0, .int .u8 1, .int .u8 2, .int .u8 0, .int .u8 2, .int .u8 0, .int .u8 0, .int .u8 5] 5)) := by
  obtain ⟨ie, hie, hz, hs, _⟩ := info_parts info5
  have h : (Instr.buildSlice 22 8 #[(0, .int .u8 0), (1, .int .u8 1), (2, .int .u8 2), (3, .int .u8 0), (4, .int .u8 2), (5, .int .u8 0), (6, .int .u8 0), (7, .int .u8 5)]).run Try.prog w = .ok (.slice (some ⟨w.heap.size, 0, none⟩) 8 8) (w.alloc (.cells #[.int .u8 0, .int .u8 1, .int .u8 2, .int .u8 0, .int .u8 2, .int .u8 0, .int .u8 0, .int .u8 5] 5)) := by
    refine run_buildSlice w _ _ 8 _ _ ie _ Try.underlying22 hie hz (by rw [hs]; decide) (by rw [hs]; decide) ?_
    rw [hs]
    have e : (Array.range (8 * 1)) = #[0, 1, 2, 3, 4, 5, 6, 7] := rfl
    have e2 : (Value.int .u8 0).cells = #[.int .u8 0] := rfl
    have e3 : ∀ c, (Value.int .u8 c).cells = #[.int .u8 c] := fun _ => rfl
    simp only [Instr.fill, e, e2, e3]
    simp
  simp only [execOp, ho, List.map_toArray, List.map_cons, List.map_nil, hc, Sem.run_bind, h, Result.andThen_ok, Sem.run_pure]
def adD : Dl := ⟨2, 2, 0, 5, pZ, pZ⟩
def ad8 : List Int := [0, 1, 2, 0, 2, 0, 0, 5]
theorem ad_may : ∀ x ∈ [adD], mayL x = true := by simp; decide
theorem ad_all : allB [adD] = ad8 := by decide
theorem ad_enc : encL [adD] = (ad8, 0) := by
  rw [(encL_is (ds := [adD]) (by decide)).1, if_neg (by rw [badL_of ad_may]; simp), ad_all]
theorem ad_dec : decL ad8 = ([adD], 0) := by rw [← ad_all]; exact dec_enc ad_may (by decide)
theorem exec_buildAd {ρ : Operand → Value} {o : Oper} {w : World} (hc : ∀ v, ρ (.const v) = v) (ho : o.op = .build 49 #[(0, .const (.int .i64 2)), (1, .const (.int .i64 2)), (3, .const (.int .i64 5))]) : (execOp ρ o).run Try.prog w = .ok (.value (dlV adD)) w := by
  have h : (Instr.build 49 #[(0, .int .i64 2), (1, .int .i64 2), (3, .int .i64 5)]).run Try.prog w = .ok (dlV adD) w := by kernel_rfl
  simp only [execOp, ho, List.map_toArray, List.map_cons, List.map_nil, hc, Sem.run_bind, h, Result.andThen_ok, Sem.run_pure]
set_option maxHeartbeats 12800000 in
theorem dAwake_any (w : World) : Calls Try.prog 18 #[] w fun e w' => e = .returned (.bool true) ∧ Keeps [] w w' := by
  have k1 : Keeps [] w (w.alloc (.cells adD.cells.toArray 49)) := (Keeps.refl [] w).alloc _
  have R1 := hid (range_new w adD.cells 49)
  have k2 : Keeps [] (w.alloc (.cells adD.cells.toArray 49)) ((w.alloc (.cells adD.cells.toArray 49)).alloc (.cells adD.cells.toArray 49)) := (Keeps.refl [] _).alloc _
  have R2 := hid (range_keep R1.out k2 (by simp))
  have K2 := hid (k1.trans k2)
  have HE0 := dEncode_any ((w.alloc (.cells adD.cells.toArray 49)).alloc (.cells adD.cells.toArray 49)) _ [adD] (one_dl (w.alloc (.cells adD.cells.toArray 49)) adD)
  rw [World.size_alloc, ad_enc] at HE0
  have HE := hid HE0
  clear k1 k2 HE0
  go_enter Try.func18, Try.ntmps18
  go_wp2_with (first | (refine wpList_is rfl _ _ (exec_buildAd (fun _ => rfl) rfl) ?_) | (refine wpList_is rfl _ _ (exec_alloc 49 dZ.cells.toArray iDelta rfl) ?_) | (refine wpList_noval rfl _ (exec_storeNew 49 _ _ rfl w dZ.cells.toArray adD.cells.toArray rfl rfl rfl iDelta rfl (dcells_one adD)) ?_) | (refine wpList_isW rfl _ _ (exec_load _ _ _ _ rfl rfl (loadDl_run _ w.heap.size 0 adD R1.out)) ?_) | (refine wpList_is rfl _ _ (exec_oneDl _ adD rfl rfl) ?_) | fail)
  refine HE.out.mono ?_
  rintro e w3 ⟨a3, c3, rfl, r3, -, k3⟩
  simp only at r3
  have RB3 := hid r3
  have R3 := hid (range_keep R2.out k3 (by simp))
  have K3 := hid (K2.out.trans k3)
  have HD0 := dDecode_any w3 _ ad8 r3 (by decide)
  rw [ad_dec] at HD0
  have HD := hid HD0
  clear r3 k3 HD0 HE
  go_wp2_with fail
  refine HD.out.mono ?_
  rintro e w4 ⟨v4, rfl, d4, k4⟩
  simp only at d4
  obtain ⟨a4, c4, rfl⟩ := d4.shape
  obtain ⟨g, off, rfl, hg, r4⟩ := d4.at 0 (by simp)
  have RG4 := hid (show w4.rangeAt g off adD.cells by simpa using r4)
  have HG := hid hg
  have R4 := hid (range_keep R3.out k4 (by simp))
  have RB4 := hid (RB3.out.keep k4 (by intro _ _ _ _ _; simp))
  have K4 := hid (K3.out.trans k4)
  have HSZ4 := hid (show w.heap.size < w4.heap.size from World.block_lt_of_cell? _ _ (R4.out 0 _ rfl))
  clear d4 r4 k4 hg
  go_wp2_with fail
  refine wp_region_any (by kernel_rfl) (wpAny_of_held (S := KpS [] w4.heap.size w4.drew) _ _ _ _ ?_)
  change wpAnyH _ _ _ _ _ _ _ _ w4.drew
  refine held_take (i := 0) (v := .int .i64 0) rfl (by kernel_rfl) (by kernel_rfl) (by kernel_rfl) (fun _ _ _ h => h) rfl (fun W1 hW1 => rfl) (KpS.refl _ _ _) ?_
  simp only [Act.put, List.setIfInBounds_toArray, List.set_cons_zero, List.set_cons_succ]
  refine held_take (i := 1) (v := .bool true) rfl (by kernel_rfl) (by kernel_rfl) (by kernel_rfl) (fun _ _ _ h => h) rfl (fun W1 hW1 => by go_simp) (KpS.refl _ _ _) ?_
  simp only [Act.put, List.setIfInBounds_toArray, List.set_cons_zero, List.set_cons_succ]
  refine held_take (i := 2) (v := .bool true) rfl (by kernel_rfl) (by kernel_rfl) (by kernel_rfl) (fun _ _ _ h => h) rfl (fun W1 hW1 => rfl) (KpS.refl _ _ _) ?_
  simp only [Act.put, List.setIfInBounds_toArray, List.set_cons_zero, List.set_cons_succ]
  refine held_takeW (i := 3) (v := .int .i64 0) rfl (by kernel_rfl) (by kernel_rfl) (by kernel_rfl) (fun _ _ _ h => h) rfl (fun W1 hW1 => rfl) (KpS.refl _ _ _) ?_
  simp only [Act.put, List.setIfInBounds_toArray, List.set_cons_zero, List.set_cons_succ]
  refine held_takeW (i := 4) (v := .bool true) rfl (by kernel_rfl) (by kernel_rfl) (by kernel_rfl) (fun _ _ _ h => h) rfl (fun W1 hW1 => by go_simp) (KpS.refl _ _ _) ?_
  simp only [Act.put, List.setIfInBounds_toArray, List.set_cons_zero, List.set_cons_succ]
  refine held_take (i := 5) (v := .bool true) rfl (by kernel_rfl) (by kernel_rfl) (by kernel_rfl) (fun _ _ _ h => h) rfl (fun W1 hW1 => rfl) (KpS.refl _ _ _) ?_
  simp only [Act.put, List.setIfInBounds_toArray, List.set_cons_zero, List.set_cons_succ]
  refine held_take (i := 6) (v := .bool true) rfl (by kernel_rfl) (by kernel_rfl) (by kernel_rfl) (fun _ _ _ h => h) rfl (fun W1 hW1 => rfl) (KpS.refl _ _ _) ?_
  simp only [Act.put, List.setIfInBounds_toArray, List.set_cons_zero, List.set_cons_succ]
  refine held_takeW (i := 7) (v := .slice a3 ad8.length c3) rfl (by kernel_rfl) (by kernel_rfl) (by kernel_rfl) (fun _ _ _ h => h) rfl (fun W1 hW1 => rfl) (KpS.refl _ _ _) ?_
  simp only [Act.put, List.setIfInBounds_toArray, List.set_cons_zero, List.set_cons_succ]
  refine held_doW (i := 8) (by kernel_rfl) rfl rfl (wp_value (exec_eight (fun _ => rfl) rfl) ?_)
  have kb : Keeps [] w4.drew (w4.drew.alloc (.cells #[.int .u8 0, .int .u8 1, .int .u8 2, .int .u8 0, .int .u8 2, .int .u8 0, .int .u8 0, .int .u8 5] 5)) := (Keeps.refl [] _).alloc _
  have kp9 : KpS [] w4.heap.size w4.drew (w4.drew.alloc (.cells #[.int .u8 0, .int .u8 1, .int .u8 2, .int .u8 0, .int .u8 2, .int .u8 0, .int .u8 0, .int .u8 5] 5)) := (KpS.refl _ _ _).keeps kb (Nat.le_refl _) (fun i hi _ => hi)
  refine ⟨kp9, ?_⟩
  simp only [Act.put, List.setIfInBounds_toArray, List.set_cons_zero, List.set_cons_succ]
  have R9 : Hid (RowAt (w4.drew.alloc (.cells #[.int .u8 0, .int .u8 1, .int .u8 2, .int .u8 0, .int .u8 2, .int .u8 0, .int .u8 0, .int .u8 5] 5)) (.slice (some ⟨w4.heap.size, 0, none⟩) 8 8) ad8) := hid (row_alloc w4.drew ad8 (by decide) (by decide))
  have K9 := hid (((Keeps.refl [] w4).drew).trans kb)
  clear kb
  change wpAnyH _ _ _ _ _ _ _ _ (w4.drew.alloc (.cells #[.int .u8 0, .int .u8 1, .int .u8 2, .int .u8 0, .int .u8 2, .int .u8 0, .int .u8 0, .int .u8 5] 5))
  generalize w4.drew.alloc (.cells #[.int .u8 0, .int .u8 1, .int .u8 2, .int .u8 0, .int .u8 2, .int .u8 0, .int .u8 0, .int .u8 5] 5) = w9 at kp9 R9 K9 ⊢
  have R89 := hid (RB4.out.keep K9.out (by intro _ _ _ _ _; simp))
  refine held_doW (i := 9) (by kernel_rfl) rfl rfl (wp_enter (f := 25) (args := #[.slice a3 ad8.length c3, .slice (some ⟨w4.heap.size, 0, none⟩) 8 8]) (by go_simp) (same_any w9 _ _ ad8 ad8 R89.out R9.out (by decide) (by decide)) ?_)
  rintro e w10 ⟨rfl, n, rfl⟩
  have k10 : Keeps [] w9 (w9.drewN n) := (Keeps.refl _ _).drewN n
  have kpA : KpS [] w4.heap.size w4.drew (w9.drewN n) := kp9.keeps k10 (by have := K9.out.size; omega) (fun i hi _ => hi)
  rw [decide_eq_true (rfl : ad8 = ad8)]
  refine ⟨_, rfl, kpA, ?_⟩
  simp only [Act.put, List.setIfInBounds_toArray, List.set_cons_zero, List.set_cons_succ]
  have K10 := hid (K9.out.trans k10)
  generalize w9.drewN n = wA at kpA K10 ⊢
  clear k10 kp9
  refine held_take (i := 10) (v := .bool true) rfl (by kernel_rfl) (by kernel_rfl) (by kernel_rfl) (fun _ _ _ h => h) rfl (fun W1 hW1 => rfl) (kpA) ?_
  simp only [Act.put, List.setIfInBounds_toArray, List.set_cons_zero, List.set_cons_succ]
  refine held_take (i := 11) (v := .bool true) rfl (by kernel_rfl) (by kernel_rfl) (by kernel_rfl) (fun _ _ _ h => h) rfl (fun W1 hW1 => rfl) (kpA) ?_
  simp only [Act.put, List.setIfInBounds_toArray, List.set_cons_zero, List.set_cons_succ]
  refine held_takeW (i := 12) (v := .slice (some ⟨g, off, none⟩) 1 c4) rfl (by kernel_rfl) (by kernel_rfl) (by kernel_rfl) (fun _ _ _ h => h) rfl (fun W1 hW1 => rfl) (kpA) ?_
  simp only [Act.put, List.setIfInBounds_toArray, List.set_cons_zero, List.set_cons_succ]
  refine held_takeW (i := 13) (v := .int .i64 1) rfl (by kernel_rfl) (by kernel_rfl) (by kernel_rfl) (fun _ _ _ h => h) rfl (fun W1 hW1 => by go_simp) (kpA) ?_
  simp only [Act.put, List.setIfInBounds_toArray, List.set_cons_zero, List.set_cons_succ]
  refine held_takeW (i := 14) (v := .bool true) rfl (by kernel_rfl) (by kernel_rfl) (by kernel_rfl) (fun _ _ _ h => h) rfl (fun W1 hW1 => by go_simp) (kpA) ?_
  simp only [Act.put, List.setIfInBounds_toArray, List.set_cons_zero, List.set_cons_succ]
  refine held_take (i := 15) (v := .bool true) rfl (by kernel_rfl) (by kernel_rfl) (by kernel_rfl) (fun _ _ _ h => h) rfl (fun W1 hW1 => rfl) (kpA) ?_
  simp only [Act.put, List.setIfInBounds_toArray, List.set_cons_zero, List.set_cons_succ]
  refine held_take (i := 16) (v := .bool true) rfl (by kernel_rfl) (by kernel_rfl) (by kernel_rfl) (fun _ _ _ h => h) rfl (fun W1 hW1 => rfl) (kpA) ?_
  simp only [Act.put, List.setIfInBounds_toArray, List.set_cons_zero, List.set_cons_succ]
  refine held_takeW (i := 17) (v := .slice (some ⟨g, off, none⟩) 1 c4) rfl (by kernel_rfl) (by kernel_rfl) (by kernel_rfl) (fun _ _ _ h => h) rfl (fun W1 hW1 => rfl) (kpA) ?_
  simp only [Act.put, List.setIfInBounds_toArray, List.set_cons_zero, List.set_cons_succ]
  refine held_takeW (i := 18) (v := .pointer (some ⟨g, off, none⟩)) rfl (by kernel_rfl) (by kernel_rfl) (by kernel_rfl) (fun _ _ _ h => h) rfl (fun W1 hW1 => by go_simp) (kpA) ?_
  simp only [Act.put, List.setIfInBounds_toArray, List.set_cons_zero, List.set_cons_succ]
  have cX : ∀ W1, KpS [] w4.heap.size w4.drew W1 → W1.rangeAt g off adD.cells := fun W1 h j v hv => h.cell (by rw [World.cell?_drew]; exact RG4.out j v hv) HG.out (by simp)
  have cY : ∀ W1, KpS [] w4.heap.size w4.drew W1 → W1.rangeAt w.heap.size 0 adD.cells := fun W1 h j v hv => h.cell (by rw [World.cell?_drew]; exact R4.out j v hv) HSZ4.out (by simp)
  refine held_takeW (i := 19) (v := dlV adD) rfl (by kernel_rfl) (by kernel_rfl) (by kernel_rfl) (fun _ _ _ h => h) rfl (fun W1 hW1 => exec_load _ _ _ _ rfl rfl (loadDl_run W1 g off adD (cX W1 hW1))) (kpA) ?_
  simp only [Act.put, List.setIfInBounds_toArray, List.set_cons_zero, List.set_cons_succ]
  refine held_takeW (i := 20) (v := dlV adD) rfl (by kernel_rfl) (by kernel_rfl) (by kernel_rfl) (fun _ _ _ h => h) rfl (fun W1 hW1 => exec_load _ _ _ _ rfl rfl (loadDl_run W1 w.heap.size 0 adD (cY W1 hW1))) (kpA) ?_
  simp only [Act.put, List.setIfInBounds_toArray, List.set_cons_zero, List.set_cons_succ]
  refine held_takeW (i := 21) (v := .bool true) rfl (by kernel_rfl) (by kernel_rfl) (by kernel_rfl) (fun _ _ _ h => h) rfl (fun W1 hW1 => (exec_eqDl _ _ _ adD adD rfl rfl rfl).trans (by rw [eqD_is.2 (rfl : adD = adD)])) (kpA) ?_
  simp only [Act.put, List.setIfInBounds_toArray, List.set_cons_zero, List.set_cons_succ]
  refine held_take (i := 22) (v := .bool true) rfl (by kernel_rfl) (by kernel_rfl) (by kernel_rfl) (fun _ _ _ h => h) rfl (fun W1 hW1 => rfl) (kpA) ?_
  simp only [Act.put, List.setIfInBounds_toArray, List.set_cons_zero, List.set_cons_succ]
  refine held_take (i := 23) (v := .bool true) rfl (by kernel_rfl) (by kernel_rfl) (by kernel_rfl) (fun _ _ _ h => h) rfl (fun W1 hW1 => rfl) (kpA) ?_
  simp only [Act.put, List.setIfInBounds_toArray, List.set_cons_zero, List.set_cons_succ]
  refine wpAnyH_done (by kernel_rfl) ?_ _
  clear cX cY kpA
  go_wp2_with fail
  go_ret
  exact ⟨rfl, K4.out.trans K10.out⟩
end Go.Proofs.Ytamcllcjondcpaa
