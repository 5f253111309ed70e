/- note: a request, a reply are read by the code (what gives up). -/
import Derived.Test.YtoglcohdanpciaaNtG
namespace Go.Proofs.Ytoglcohdanpciaa
open Go.RowKit Go.Shelf
set_option maxRecDepth 100000
set_option linter.unusedSimpArgs false
set_option linter.unusedVariables false

def decS {α : Type} (c : Cdc α) (st : PSt) : Int := endOf (c.g st).2.1 (c.g st).2.2
theorem decS_bad {α : Type} {c : Cdc α} {st st2 : PSt} (h : (c.g st).2 = st2) (h2 : st2.2 ≠ 0) : decS c st = st2.2 := by
  unfold decS endOf
  rw [h, if_neg h2]
abbrev tail10 := seqC txC (seqC txC (seqC boC (seqC boC (seqC boC (seqC (nC 1) (seqC (nC 4) (seqC (nC 3) (seqC (lsC szC) (lsC dlC)))))))))
theorem tail10_ok : tail10.Ok := seqC_ok txC_ok (seqC_ok txC_ok (seqC_ok boC_ok (seqC_ok boC_ok (seqC_ok boC_ok (seqC_ok (nC_ok (by decide) (by decide)) (seqC_ok (nC_ok (by decide) (by decide)) (seqC_ok (nC_ok (by decide) (by decide)) (seqC_ok (lsC_ok szC_ok) (lsC_ok dlC_ok)))))))))
abbrev tail7 := seqC (nC 2) (seqC (nC 2) (seqC (nC 1) (seqC (nC 3) (seqC boC (seqC (lsC enC) rowC)))))
theorem tail7_ok : tail7.Ok := seqC_ok (nC_ok (by decide) (by decide)) (seqC_ok (nC_ok (by decide) (by decide)) (seqC_ok (nC_ok (by decide) (by decide)) (seqC_ok (nC_ok (by decide) (by decide)) (seqC_ok boC_ok (seqC_ok (lsC_ok enC_ok) rowC_ok)))))
theorem seq_is {α β : Type} {c : Cdc α} {d : Cdc β} {st s1 s2 : PSt} {a : α} {b : β} (h1 : c.g st = (a, s1)) (h2 : d.g s1 = (b, s2)) : (seqC c d).g st = ((a, b), s2) := by
  unfold seqC
  simp only [h1, h2]
theorem seq_tail {α β : Type} {c : Cdc α} {d : Cdc β} {st s1 : PSt} {a : α} (h1 : c.g st = (a, s1)) : ((seqC c d).g st).2 = (d.g s1).2 := by
  unfold seqC
  simp only [h1]
theorem chk_is {α : Type} {c : Cdc α} {ok : α → Bool} {st s s' : PSt} {a : α} (h : c.g st = (a, s)) (hf : formW s (!ok a) = s') : (chkC c ok).g st = (a, s') := by
  unfold chkC
  simp only [h, hf]
theorem map_is {α β : Type} {c : Cdc α} {f : α → β} {k : β → α} {st s : PSt} {a : α} (h : c.g st = (a, s)) : (mapC c f k).g st = (f a, s) := by
  unfold mapC
  simp only [h]
theorem map_tail {α β : Type} {c : Cdc α} {f : α → β} {k : β → α} {st : PSt} : ((mapC c f k).g st).2 = (c.g st).2 := rfl
theorem n1_is {st s : PSt} {x : Int} (h : numE 1 st = (x, s)) : (nC 1).g st = (x, s) := h
theorem n2_is {st s : PSt} {x : Int} (h : numE 2 st = (x, s)) : (nC 2).g st = (x, s) := h
theorem n3_is {st s : PSt} {x : Int} (h : numE 3 st = (x, s)) : (nC 3).g st = (x, s) := h
theorem n4_is {st s : PSt} {x : Int} (h : numE 4 st = (x, s)) : (nC 4).g st = (x, s) := h
theorem tx_is {st s : PSt} {x : ByteArray} (h : txE st = (x, s)) : txC.g st = (x, s) := h
theorem bo_is {st s : PSt} {x : Bool} (h : boolE st = (x, s)) : boC.g st = (x, s) := h
theorem ls_is {α : Type} {c : Cdc α} {st s : PSt} {x : List α} (h : lsG c.g st = (x, s)) : (lsC c).g st = (x, s) := h
theorem ro_is {st s : PSt} {x : List Int} (h : rawE st = (x, s)) : rowC.g st = (x, s) := h
/-- What the reader of a request leaves. -/
def RdQ (w : World) (p : Nat) (y : Int) (r : Rq) (e : Ending) (w' : World) : Prop :=
  Keeps [p] w w' ∧ ((y = 0 ∧ ∃ vs vd, e = .returned (rqV r vs vd) ∧ OwnT KSz 144 w' w.heap.size vs r.ss ∧ OwnT KDl 149 w' w.heap.size vd r.dl) ∨ (y ≠ 0 ∧ e = gaveUp y))
def RdP (w : World) (p : Nat) (y : Int) (r : Rp) (e : Ending) (w' : World) : Prop :=
  Keeps [p] w w' ∧ ((y = 0 ∧ ∃ ve am cm, e = .returned (rpV r ve (.slice am r.mp.length cm)) ∧ OwnT KEnt 102 w' w.heap.size ve r.es ∧ RowAt w' (.slice am r.mp.length cm) r.mp ∧ ∀ ad, am = some ad → w.heap.size ≤ ad.block) ∨ (y ≠ 0 ∧ e = gaveUp y))
theorem one_ret {fn : Func} {p : Tmp} {T : TypeId} (hr : fn.results = #[.cell p T]) (hu : ∃ d, Try.prog.underlying T = some d ∧ d.isRow = true) {tmps : Array Value} {w : World} {b : Nat} {cs : List Value} (hs : (Try.prog.info? T).map (·.size) = some cs.length) (hp : tmps.getD p undef = .pointer (some ⟨b, 0, none⟩)) (hx : w.rangeAt b 0 cs) : (results fn tmps).run Try.prog w = .ok (.agg cs.toArray) w := by
  have hp' : tmps[p]?.getD undef = .pointer (some ⟨b, 0, none⟩) := by simpa using hp
  obtain ⟨d, hd, hrow⟩ := hu
  have hv : (loadVar T ⟨b, 0, none⟩).run Try.prog w = .ok (.agg cs.toArray) w := run_loadVar_mid w b 0 T cs d hx hd hrow (by rw [hs])
  simp [results, hr, hp', asAddr, hv]
theorem one_rq (r : Rq) (a b : Option Addr) (m n c d : Nat) : ∀ u ∈ r.cells (.slice a m c) (.slice b n d), u.oneCell' = true := by
  intro u hu
  simp [Rq.cells] at hu
  rcases hu with rfl | rfl | rfl | rfl | rfl | rfl | rfl | rfl | rfl | rfl | rfl | rfl | rfl | rfl <;> rfl
theorem one_rp (r : Rp) (a b : Option Addr) (m n c d : Nat) : ∀ u ∈ r.cells (.slice a m c) (.slice b n d), u.oneCell' = true := by
  intro u hu
  simp [Rp.cells] at hu
  rcases hu with rfl | rfl | rfl | rfl | rfl | rfl | rfl | rfl <;> rfl
theorem OwnT.weak {α : Type} {K : Kn α} {T : TypeId} {w : World} {B B2 : Nat} {v : Value} {l : List α} (h : OwnT K T w B v l) (hb : B2 ≤ B) : OwnT K T w B2 v l := by
  refine ⟨?_⟩
  rcases h.row.2 with ⟨rfl, h0⟩ | ⟨g, cap, cur, rfl, hbb, hg, hnc, hcm, hcs, ht⟩
  · exact ⟨h.row.1, .inl ⟨rfl, h0⟩⟩
  · exact ⟨h.row.1, .inr ⟨g, cap, cur, rfl, Nat.le_trans hb hbb, hg, hnc, hcm, hcs, ht⟩⟩

set_option maxHeartbeats 51200000 in
theorem ntRequest_any {w0 : World} (w : World) (B p : Nat) (v : Value) (st : PSt) (h : EyL w0 w B p v st) (hw0 : w0.heap.size ≤ w.heap.size) :
    Calls Try.prog 85 #[.pointer (some ⟨p, 0, none⟩)] w (RdQ w p (decS rqC st) (rqC.g st).1) := by
  have HW0 := hid hw0
  have hpw := h.lt
  have k1 : Keeps [] w (w.alloc (.cells (rqZ.cells (.slice none 0 0) (.slice none 0 0)).toArray 82)) := (Keeps.refl [] w).alloc _
  have k2 : Keeps [] w ((w.alloc (.cells (rqZ.cells (.slice none 0 0) (.slice none 0 0)).toArray 82)).alloc (.cells (rqZ.cells (.slice none 0 0) (.slice none 0 0)).toArray 82)) := k1.alloc _
  have E0 := hid (h.more k2)
  have D0 : Hid (((w.alloc (.cells (rqZ.cells (.slice none 0 0) (.slice none 0 0)).toArray 82)).alloc (.cells (rqZ.cells (.slice none 0 0) (.slice none 0 0)).toArray 82)).heap[w.heap.size]? = some (.cells (rqZ.cells (.slice none 0 0) (.slice none 0 0)).toArray 82 (0, 0))) := hid (((Keeps.refl [] (w.alloc (.cells (rqZ.cells (.slice none 0 0) (.slice none 0 0)).toArray 82))).alloc _).block _ (by simp) (by simp) |>.trans (heap_alloc_new w _))
  have b3 := heap_alloc_new (w.alloc (.cells (rqZ.cells (.slice none 0 0) (.slice none 0 0)).toArray 82)) (.cells (rqZ.cells (.slice none 0 0) (.slice none 0 0)).toArray 82)
  rw [World.size_alloc] at b3
  have J0 := hid (show ((w.alloc (.cells (rqZ.cells (.slice none 0 0) (.slice none 0 0)).toArray 82)).alloc (.cells (rqZ.cells (.slice none 0 0) (.slice none 0 0)).toArray 82)).heap[w.heap.size + 1]? = some (.cells #[.int .i64 0, .int .i64 0, .int .i64 0, .int .i64 0, .string ⟨#[]⟩, .string ⟨#[]⟩, .bool false, .bool false, .bool false, .int .i64 0, .int .i64 0, .int .i64 0, .slice none 0 0, .slice none 0 0] 82 (0, 0)) from b3)
  have K0 := hid k2
  have HP := hid hpw
  have HS0 := hid (show w.heap.size + 1 < ((w.alloc (.cells (rqZ.cells (.slice none 0 0) (.slice none 0 0)).toArray 82)).alloc (.cells (rqZ.cells (.slice none 0 0) (.slice none 0 0)).toArray 82)).heap.size by simp)
  obtain ⟨y, hy⟩ : ∃ z, z = decS rqC st := ⟨_, rfl⟩
  obtain ⟨r, hr⟩ : ∃ z, z = (rqC.g st).1 := ⟨_, rfl⟩
  rw [← hy, ← hr]
  have HY := hid hy
  have HR := hid hr
  clear h hw0 k1 k2 b3 hpw hy hr
  go_enter Try.func85, Try.ntmps85
  go_wp2_with (first | (refine wpList_is rfl _ _ (exec_alloc 82 (rqZ.cells (.slice none 0 0) (.slice none 0 0)).toArray iReq rfl) ?_) | fail)
  obtain ⟨x1, s1, e1⟩ : ∃ x s, numE 1 st = (x, s) := ⟨_, _, rfl⟩
  have N1 := hid e1
  clear e1
  have A0 := E0.out.num 1
  rw [N1.out] at A0
  refine A0.mono ?_
  rintro e u0 ⟨rfl, ey, kk⟩
  have F0 := hid ((kk.block (w.heap.size + 1) (by have := HS0.out; omega) (by have := HP.out; simp; omega)).trans J0.out)
  have G0 := hid ((kk.block w.heap.size (by have := HS0.out; omega) (by have := HP.out; simp; omega)).trans D0.out)
  have T0 := hid ey
  have KU0 := hid ((K0.out.mono (S' := [p]) (by simp)).trans kk)
  have HU0 := hid (show w.heap.size + 1 < u0.heap.size by have := HS0.out; have := kk.size; omega)
  obtain ⟨cc, ff⟩ := five_cells F0.out 0
  change u0.cell? ⟨w.heap.size + 1, 0, none⟩ = some (.int .i64 0) at cc
  clear A0 ey kk
  have J1 := hid (show (u0.setCell ⟨w.heap.size + 1, 0, none⟩ (.int .i64 x1)).heap[w.heap.size + 1]? = some (.cells #[.int .i64 x1, .int .i64 0, .int .i64 0, .int .i64 0, .string ⟨#[]⟩, .string ⟨#[]⟩, .bool false, .bool false, .bool false, .int .i64 0, .int .i64 0, .int .i64 0, .slice none 0 0, .slice none 0 0] 82 (0, 0)) from set_five (i := 0) F0.out (.int .i64 x1))
  have sk0 : Keeps [w.heap.size + 1] u0 (u0.setCell ⟨w.heap.size + 1, 0, none⟩ (.int .i64 x1)) := set_keep
  have D1 := hid ((sk0.block w.heap.size (by have := HU0.out; omega) (by simp)).trans G0.out)
  have E1 := hid (T0.out.later sk0 (by have := HW0.out; omega) (by have := HP.out; omega))
  have K1 := hid (KU0.out.trans' sk0 (fun i hi hm => by simp at hm; omega))
  have HS1 := hid (Nat.lt_of_lt_of_le HU0.out sk0.size)
  clear sk0
  clear F0 G0 T0 KU0 J0 D0 E0 K0
  obtain ⟨x2, s2, e2⟩ : ∃ x s, numE 3 s1 = (x, s) := ⟨_, _, rfl⟩
  have N2 := hid e2
  clear e2
  go_wp2_with fail
  have A1 := E1.out.num 3
  rw [N2.out] at A1
  refine A1.mono ?_
  rintro e u1 ⟨rfl, ey, kk⟩
  have F1 := hid ((kk.block (w.heap.size + 1) (by have := HS1.out; omega) (by have := HP.out; simp; omega)).trans J1.out)
  have G1 := hid ((kk.block w.heap.size (by have := HS1.out; omega) (by have := HP.out; simp; omega)).trans D1.out)
  have T1 := hid ey
  have KU1 := hid ((K1.out.mono (S' := [p]) (by simp)).trans kk)
  have HU1 := hid (show w.heap.size + 1 < u1.heap.size by have := HS1.out; have := kk.size; omega)
  obtain ⟨cc, ff⟩ := five_cells F1.out 1
  change u1.cell? ⟨w.heap.size + 1, 1, none⟩ = some (.int .i64 0) at cc
  clear A1 ey kk
  have J2 := hid (show (u1.setCell ⟨w.heap.size + 1, 1, none⟩ (.int .i64 x2)).heap[w.heap.size + 1]? = some (.cells #[.int .i64 x1, .int .i64 x2, .int .i64 0, .int .i64 0, .string ⟨#[]⟩, .string ⟨#[]⟩, .bool false, .bool false, .bool false, .int .i64 0, .int .i64 0, .int .i64 0, .slice none 0 0, .slice none 0 0] 82 (0, 0)) from set_five (i := 1) F1.out (.int .i64 x2))
  have sk1 : Keeps [w.heap.size + 1] u1 (u1.setCell ⟨w.heap.size + 1, 1, none⟩ (.int .i64 x2)) := set_keep
  have D2 := hid ((sk1.block w.heap.size (by have := HU1.out; omega) (by simp)).trans G1.out)
  have E2 := hid (T1.out.later sk1 (by have := HW0.out; omega) (by have := HP.out; omega))
  have K2 := hid (KU1.out.trans' sk1 (fun i hi hm => by simp at hm; omega))
  have HS2 := hid (Nat.lt_of_lt_of_le HU1.out sk1.size)
  clear sk1
  clear F1 G1 T1 KU1 J1 D1 E1 K1
  obtain ⟨x3, s3, e3⟩ : ∃ x s, numE 4 s2 = (x, s) := ⟨_, _, rfl⟩
  have N3 := hid e3
  clear e3
  go_wp2_with fail
  have A2 := E2.out.num 4
  rw [N3.out] at A2
  refine A2.mono ?_
  rintro e u2 ⟨rfl, ey, kk⟩
  have F2 := hid ((kk.block (w.heap.size + 1) (by have := HS2.out; omega) (by have := HP.out; simp; omega)).trans J2.out)
  have G2 := hid ((kk.block w.heap.size (by have := HS2.out; omega) (by have := HP.out; simp; omega)).trans D2.out)
  have T2 := hid ey
  have KU2 := hid ((K2.out.mono (S' := [p]) (by simp)).trans kk)
  have HU2 := hid (show w.heap.size + 1 < u2.heap.size by have := HS2.out; have := kk.size; omega)
  obtain ⟨cc, ff⟩ := five_cells F2.out 2
  change u2.cell? ⟨w.heap.size + 1, 2, none⟩ = some (.int .i64 0) at cc
  clear A2 ey kk
  have J3 := hid (show (u2.setCell ⟨w.heap.size + 1, 2, none⟩ (.int .i64 x3)).heap[w.heap.size + 1]? = some (.cells #[.int .i64 x1, .int .i64 x2, .int .i64 x3, .int .i64 0, .string ⟨#[]⟩, .string ⟨#[]⟩, .bool false, .bool false, .bool false, .int .i64 0, .int .i64 0, .int .i64 0, .slice none 0 0, .slice none 0 0] 82 (0, 0)) from set_five (i := 2) F2.out (.int .i64 x3))
  have sk2 : Keeps [w.heap.size + 1] u2 (u2.setCell ⟨w.heap.size + 1, 2, none⟩ (.int .i64 x3)) := set_keep
  have D3 := hid ((sk2.block w.heap.size (by have := HU2.out; omega) (by simp)).trans G2.out)
  have E3 := hid (T2.out.later sk2 (by have := HW0.out; omega) (by have := HP.out; omega))
  have K3 := hid (KU2.out.trans' sk2 (fun i hi hm => by simp at hm; omega))
  have HS3 := hid (Nat.lt_of_lt_of_le HU2.out sk2.size)
  clear sk2
  clear F2 G2 T2 KU2 J2 D2 E2 K2
  obtain ⟨x4, s4, e4⟩ : ∃ x s, numE 1 s3 = (x, s) := ⟨_, _, rfl⟩
  have N4 := hid e4
  clear e4
  go_wp2_with fail
  have A3 := E3.out.num 1
  rw [N4.out] at A3
  refine A3.mono ?_
  rintro e u3 ⟨rfl, ey, kk⟩
  have F3 := hid ((kk.block (w.heap.size + 1) (by have := HS3.out; omega) (by have := HP.out; simp; omega)).trans J3.out)
  have G3 := hid ((kk.block w.heap.size (by have := HS3.out; omega) (by have := HP.out; simp; omega)).trans D3.out)
  have T3 := hid ey
  have KU3 := hid ((K3.out.mono (S' := [p]) (by simp)).trans kk)
  have HU3 := hid (show w.heap.size + 1 < u3.heap.size by have := HS3.out; have := kk.size; omega)
  obtain ⟨cc, ff⟩ := five_cells F3.out 3
  change u3.cell? ⟨w.heap.size + 1, 3, none⟩ = some (.int .i64 0) at cc
  clear A3 ey kk
  have J4 := hid (show (u3.setCell ⟨w.heap.size + 1, 3, none⟩ (.int .i64 x4)).heap[w.heap.size + 1]? = some (.cells #[.int .i64 x1, .int .i64 x2, .int .i64 x3, .int .i64 x4, .string ⟨#[]⟩, .string ⟨#[]⟩, .bool false, .bool false, .bool false, .int .i64 0, .int .i64 0, .int .i64 0, .slice none 0 0, .slice none 0 0] 82 (0, 0)) from set_five (i := 3) F3.out (.int .i64 x4))
  have sk3 : Keeps [w.heap.size + 1] u3 (u3.setCell ⟨w.heap.size + 1, 3, none⟩ (.int .i64 x4)) := set_keep
  have D4 := hid ((sk3.block w.heap.size (by have := HU3.out; omega) (by simp)).trans G3.out)
  have E4 := hid (T3.out.later sk3 (by have := HW0.out; omega) (by have := HP.out; omega))
  have K4 := hid (KU3.out.trans' sk3 (fun i hi hm => by simp at hm; omega))
  have HS4 := hid (Nat.lt_of_lt_of_le HU3.out sk3.size)
  clear sk3
  clear F3 G3 T3 KU3 J3 D3 E3 K3
  go_wp2_with fail
  refine (EyL.fail E4.out).mono ?_
  rintro e _ ⟨rfl, rfl⟩
  go_wp2_with fail
  refine (ntPass_any _ s4.2).mono ?_
  rintro e _ ⟨rfl, ⟨h4, rfl⟩ | ⟨h4, rfl⟩⟩
  case inr =>
    have H4 := hid h4
    clear h4
    unfold gaveUp
    go_wp2_with fail
    have e0 : y = s4.2 := by
      rw [HY.out]
      refine decS_bad ?_ H4.out
      exact map_tail.trans ((seq_tail (n1_is N1.out)).trans ((seq_tail (n3_is N2.out)).trans ((seq_tail (n4_is N3.out)).trans ((seq_tail (chk_is (n1_is N4.out) (formW_stay H4.out _))).trans (tail10_ok.stay s4 H4.out)))))
    refine ⟨rfl, K4.out.mono (by simp), Or.inr ?_⟩
    rw [e0]
    exact ⟨H4.out, rfl⟩
  have H4 := hid h4
  clear h4
  obtain ⟨cc, ff⟩ := five_cells J4.out 3
  change (u3.setCell ⟨w.heap.size + 1, 3, none⟩ (.int .i64 x4)).cell? ⟨w.heap.size + 1, 3, none⟩ = some (.int .i64 x4) at cc
  go_wp2_with fail
  clear cc ff
  refine (ntIsDo_any _ x4).mono ?_
  rintro e _ ⟨rfl, rfl⟩
  cases hdo : okDo x4
  case false =>
    have HDO := hid hdo
    clear hdo
    go_wp2_with fail
    refine (ntMust_any _ false 4).mono ?_
    rintro e _ ⟨rfl, ⟨h, _⟩ | ⟨h, rfl⟩⟩
    · exact absurd h (by decide)
    · clear h
      unfold gaveUp
      go_wp2_with fail
      have e0 : y = 4 := by
        rw [HY.out]
        have e1 : formW s4 true = (s4.1, 4) := by unfold formW; rw [if_pos ⟨rfl, H4.out⟩]
        refine decS_bad (st2 := (s4.1, 4)) ?_ (show (4 : Int) ≠ 0 by decide)
        exact map_tail.trans ((seq_tail (n1_is N1.out)).trans ((seq_tail (n3_is N2.out)).trans ((seq_tail (n4_is N3.out)).trans ((seq_tail (chk_is (n1_is N4.out) (by rw [HDO.out]; exact e1))).trans (tail10_ok.stay _ (show (4 : Int) ≠ 0 by decide))))))
      refine ⟨rfl, K4.out.mono (by simp), Or.inr ?_⟩
      rw [e0]
      exact ⟨by decide, rfl⟩
  have HDO := hid hdo
  clear hdo
  go_wp2_with fail
  refine (ntMust_any _ true 4).mono ?_
  rintro e _ ⟨rfl, ⟨_, rfl⟩ | ⟨h, _⟩⟩
  case inr => exact absurd rfl h
  have HF4 := hid (show formW s4 (!okDo x4) = s4 by rw [HDO.out]; exact formW_no _)
  obtain ⟨x5, s5, e5⟩ : ∃ x s, txE s4 = (x, s) := ⟨_, _, rfl⟩
  have N5 := hid e5
  clear e5
  go_wp2_with fail
  have A4 := E4.out.text
  rw [N5.out] at A4
  refine A4.mono ?_
  rintro e u4 ⟨rfl, ey, kk⟩
  have F4 := hid ((kk.block (w.heap.size + 1) (by have := HS4.out; omega) (by have := HP.out; simp; omega)).trans J4.out)
  have G4 := hid ((kk.block w.heap.size (by have := HS4.out; omega) (by have := HP.out; simp; omega)).trans D4.out)
  have T4 := hid ey
  have KU4 := hid ((K4.out.mono (S' := [p]) (by simp)).trans kk)
  have HU4 := hid (show w.heap.size + 1 < u4.heap.size by have := HS4.out; have := kk.size; omega)
  obtain ⟨cc, ff⟩ := five_cells F4.out 4
  change u4.cell? ⟨w.heap.size + 1, 4, none⟩ = some (.string ⟨#[]⟩) at cc
  clear A4 ey kk
  have J5 := hid (show (u4.setCell ⟨w.heap.size + 1, 4, none⟩ (.string x5)).heap[w.heap.size + 1]? = some (.cells #[.int .i64 x1, .int .i64 x2, .int .i64 x3, .int .i64 x4, .string x5, .string ⟨#[]⟩, .bool false, .bool false, .bool false, .int .i64 0, .int .i64 0, .int .i64 0, .slice none 0 0, .slice none 0 0] 82 (0, 0)) from set_five (i := 4) F4.out (.string x5))
  have sk4 : Keeps [w.heap.size + 1] u4 (u4.setCell ⟨w.heap.size + 1, 4, none⟩ (.string x5)) := set_keep
  have D5 := hid ((sk4.block w.heap.size (by have := HU4.out; omega) (by simp)).trans G4.out)
  have E5 := hid (T4.out.later sk4 (by have := HW0.out; omega) (by have := HP.out; omega))
  have K5 := hid (KU4.out.trans' sk4 (fun i hi hm => by simp at hm; omega))
  have HS5 := hid (Nat.lt_of_lt_of_le HU4.out sk4.size)
  clear sk4
  clear F4 G4 T4 KU4 J4 D4 E4 K4
  obtain ⟨x6, s6, e6⟩ : ∃ x s, txE s5 = (x, s) := ⟨_, _, rfl⟩
  have N6 := hid e6
  clear e6
  go_wp2_with fail
  have A5 := E5.out.text
  rw [N6.out] at A5
  refine A5.mono ?_
  rintro e u5 ⟨rfl, ey, kk⟩
  have F5 := hid ((kk.block (w.heap.size + 1) (by have := HS5.out; omega) (by have := HP.out; simp; omega)).trans J5.out)
  have G5 := hid ((kk.block w.heap.size (by have := HS5.out; omega) (by have := HP.out; simp; omega)).trans D5.out)
  have T5 := hid ey
  have KU5 := hid ((K5.out.mono (S' := [p]) (by simp)).trans kk)
  have HU5 := hid (show w.heap.size + 1 < u5.heap.size by have := HS5.out; have := kk.size; omega)
  obtain ⟨cc, ff⟩ := five_cells F5.out 5
  change u5.cell? ⟨w.heap.size + 1, 5, none⟩ = some (.string ⟨#[]⟩) at cc
  clear A5 ey kk
  have J6 := hid (show (u5.setCell ⟨w.heap.size + 1, 5, none⟩ (.string x6)).heap[w.heap.size + 1]? = some (.cells #[.int .i64 x1, .int .i64 x2, .int .i64 x3, .int .i64 x4, .string x5, .string x6, .bool false, .bool false, .bool false, .int .i64 0, .int .i64 0, .int .i64 0, .slice none 0 0, .slice none 0 0] 82 (0, 0)) from set_five (i := 5) F5.out (.string x6))
  have sk5 : Keeps [w.heap.size + 1] u5 (u5.setCell ⟨w.heap.size + 1, 5, none⟩ (.string x6)) := set_keep
  have D6 := hid ((sk5.block w.heap.size (by have := HU5.out; omega) (by simp)).trans G5.out)
  have E6 := hid (T5.out.later sk5 (by have := HW0.out; omega) (by have := HP.out; omega))
  have K6 := hid (KU5.out.trans' sk5 (fun i hi hm => by simp at hm; omega))
  have HS6 := hid (Nat.lt_of_lt_of_le HU5.out sk5.size)
  clear sk5
  clear F5 G5 T5 KU5 J5 D5 E5 K5
  obtain ⟨x7, s7, e7⟩ : ∃ x s, boolE s6 = (x, s) := ⟨_, _, rfl⟩
  have N7 := hid e7
  clear e7
  go_wp2_with fail
  have A6 := E6.out.bool
  rw [N7.out] at A6
  refine A6.mono ?_
  rintro e u6 ⟨rfl, ey, kk⟩
  have F6 := hid ((kk.block (w.heap.size + 1) (by have := HS6.out; omega) (by have := HP.out; simp; omega)).trans J6.out)
  have G6 := hid ((kk.block w.heap.size (by have := HS6.out; omega) (by have := HP.out; simp; omega)).trans D6.out)
  have T6 := hid ey
  have KU6 := hid ((K6.out.mono (S' := [p]) (by simp)).trans kk)
  have HU6 := hid (show w.heap.size + 1 < u6.heap.size by have := HS6.out; have := kk.size; omega)
  obtain ⟨cc, ff⟩ := five_cells F6.out 6
  change u6.cell? ⟨w.heap.size + 1, 6, none⟩ = some (.bool false) at cc
  clear A6 ey kk
  have J7 := hid (show (u6.setCell ⟨w.heap.size + 1, 6, none⟩ (.bool x7)).heap[w.heap.size + 1]? = some (.cells #[.int .i64 x1, .int .i64 x2, .int .i64 x3, .int .i64 x4, .string x5, .string x6, .bool x7, .bool false, .bool false, .int .i64 0, .int .i64 0, .int .i64 0, .slice none 0 0, .slice none 0 0] 82 (0, 0)) from set_five (i := 6) F6.out (.bool x7))
  have sk6 : Keeps [w.heap.size + 1] u6 (u6.setCell ⟨w.heap.size + 1, 6, none⟩ (.bool x7)) := set_keep
  have D7 := hid ((sk6.block w.heap.size (by have := HU6.out; omega) (by simp)).trans G6.out)
  have E7 := hid (T6.out.later sk6 (by have := HW0.out; omega) (by have := HP.out; omega))
  have K7 := hid (KU6.out.trans' sk6 (fun i hi hm => by simp at hm; omega))
  have HS7 := hid (Nat.lt_of_lt_of_le HU6.out sk6.size)
  clear sk6
  clear F6 G6 T6 KU6 J6 D6 E6 K6
  obtain ⟨x8, s8, e8⟩ : ∃ x s, boolE s7 = (x, s) := ⟨_, _, rfl⟩
  have N8 := hid e8
  clear e8
  go_wp2_with fail
  have A7 := E7.out.bool
  rw [N8.out] at A7
  refine A7.mono ?_
  rintro e u7 ⟨rfl, ey, kk⟩
  have F7 := hid ((kk.block (w.heap.size + 1) (by have := HS7.out; omega) (by have := HP.out; simp; omega)).trans J7.out)
  have G7 := hid ((kk.block w.heap.size (by have := HS7.out; omega) (by have := HP.out; simp; omega)).trans D7.out)
  have T7 := hid ey
  have KU7 := hid ((K7.out.mono (S' := [p]) (by simp)).trans kk)
  have HU7 := hid (show w.heap.size + 1 < u7.heap.size by have := HS7.out; have := kk.size; omega)
  obtain ⟨cc, ff⟩ := five_cells F7.out 7
  change u7.cell? ⟨w.heap.size + 1, 7, none⟩ = some (.bool false) at cc
  clear A7 ey kk
  have J8 := hid (show (u7.setCell ⟨w.heap.size + 1, 7, none⟩ (.bool x8)).heap[w.heap.size + 1]? = some (.cells #[.int .i64 x1, .int .i64 x2, .int .i64 x3, .int .i64 x4, .string x5, .string x6, .bool x7, .bool x8, .bool false, .int .i64 0, .int .i64 0, .int .i64 0, .slice none 0 0, .slice none 0 0] 82 (0, 0)) from set_five (i := 7) F7.out (.bool x8))
  have sk7 : Keeps [w.heap.size + 1] u7 (u7.setCell ⟨w.heap.size + 1, 7, none⟩ (.bool x8)) := set_keep
  have D8 := hid ((sk7.block w.heap.size (by have := HU7.out; omega) (by simp)).trans G7.out)
  have E8 := hid (T7.out.later sk7 (by have := HW0.out; omega) (by have := HP.out; omega))
  have K8 := hid (KU7.out.trans' sk7 (fun i hi hm => by simp at hm; omega))
  have HS8 := hid (Nat.lt_of_lt_of_le HU7.out sk7.size)
  clear sk7
  clear F7 G7 T7 KU7 J7 D7 E7 K7
  obtain ⟨x9, s9, e9⟩ : ∃ x s, boolE s8 = (x, s) := ⟨_, _, rfl⟩
  have N9 := hid e9
  clear e9
  go_wp2_with fail
  have A8 := E8.out.bool
  rw [N9.out] at A8
  refine A8.mono ?_
  rintro e u8 ⟨rfl, ey, kk⟩
  have F8 := hid ((kk.block (w.heap.size + 1) (by have := HS8.out; omega) (by have := HP.out; simp; omega)).trans J8.out)
  have G8 := hid ((kk.block w.heap.size (by have := HS8.out; omega) (by have := HP.out; simp; omega)).trans D8.out)
  have T8 := hid ey
  have KU8 := hid ((K8.out.mono (S' := [p]) (by simp)).trans kk)
  have HU8 := hid (show w.heap.size + 1 < u8.heap.size by have := HS8.out; have := kk.size; omega)
  obtain ⟨cc, ff⟩ := five_cells F8.out 8
  change u8.cell? ⟨w.heap.size + 1, 8, none⟩ = some (.bool false) at cc
  clear A8 ey kk
  have J9 := hid (show (u8.setCell ⟨w.heap.size + 1, 8, none⟩ (.bool x9)).heap[w.heap.size + 1]? = some (.cells #[.int .i64 x1, .int .i64 x2, .int .i64 x3, .int .i64 x4, .string x5, .string x6, .bool x7, .bool x8, .bool x9, .int .i64 0, .int .i64 0, .int .i64 0, .slice none 0 0, .slice none 0 0] 82 (0, 0)) from set_five (i := 8) F8.out (.bool x9))
  have sk8 : Keeps [w.heap.size + 1] u8 (u8.setCell ⟨w.heap.size + 1, 8, none⟩ (.bool x9)) := set_keep
  have D9 := hid ((sk8.block w.heap.size (by have := HU8.out; omega) (by simp)).trans G8.out)
  have E9 := hid (T8.out.later sk8 (by have := HW0.out; omega) (by have := HP.out; omega))
  have K9 := hid (KU8.out.trans' sk8 (fun i hi hm => by simp at hm; omega))
  have HS9 := hid (Nat.lt_of_lt_of_le HU8.out sk8.size)
  clear sk8
  clear F8 G8 T8 KU8 J8 D8 E8 K8
  obtain ⟨x10, s10, e10⟩ : ∃ x s, numE 1 s9 = (x, s) := ⟨_, _, rfl⟩
  have N10 := hid e10
  clear e10
  go_wp2_with fail
  have A9 := E9.out.num 1
  rw [N10.out] at A9
  refine A9.mono ?_
  rintro e u9 ⟨rfl, ey, kk⟩
  have F9 := hid ((kk.block (w.heap.size + 1) (by have := HS9.out; omega) (by have := HP.out; simp; omega)).trans J9.out)
  have G9 := hid ((kk.block w.heap.size (by have := HS9.out; omega) (by have := HP.out; simp; omega)).trans D9.out)
  have T9 := hid ey
  have KU9 := hid ((K9.out.mono (S' := [p]) (by simp)).trans kk)
  have HU9 := hid (show w.heap.size + 1 < u9.heap.size by have := HS9.out; have := kk.size; omega)
  obtain ⟨cc, ff⟩ := five_cells F9.out 9
  change u9.cell? ⟨w.heap.size + 1, 9, none⟩ = some (.int .i64 0) at cc
  clear A9 ey kk
  have J10 := hid (show (u9.setCell ⟨w.heap.size + 1, 9, none⟩ (.int .i64 x10)).heap[w.heap.size + 1]? = some (.cells #[.int .i64 x1, .int .i64 x2, .int .i64 x3, .int .i64 x4, .string x5, .string x6, .bool x7, .bool x8, .bool x9, .int .i64 x10, .int .i64 0, .int .i64 0, .slice none 0 0, .slice none 0 0] 82 (0, 0)) from set_five (i := 9) F9.out (.int .i64 x10))
  have sk9 : Keeps [w.heap.size + 1] u9 (u9.setCell ⟨w.heap.size + 1, 9, none⟩ (.int .i64 x10)) := set_keep
  have D10 := hid ((sk9.block w.heap.size (by have := HU9.out; omega) (by simp)).trans G9.out)
  have E10 := hid (T9.out.later sk9 (by have := HW0.out; omega) (by have := HP.out; omega))
  have K10 := hid (KU9.out.trans' sk9 (fun i hi hm => by simp at hm; omega))
  have HS10 := hid (Nat.lt_of_lt_of_le HU9.out sk9.size)
  clear sk9
  clear F9 G9 T9 KU9 J9 D9 E9 K9
  obtain ⟨x11, s11, e11⟩ : ∃ x s, numE 4 s10 = (x, s) := ⟨_, _, rfl⟩
  have N11 := hid e11
  clear e11
  go_wp2_with fail
  have A10 := E10.out.num 4
  rw [N11.out] at A10
  refine A10.mono ?_
  rintro e u10 ⟨rfl, ey, kk⟩
  have F10 := hid ((kk.block (w.heap.size + 1) (by have := HS10.out; omega) (by have := HP.out; simp; omega)).trans J10.out)
  have G10 := hid ((kk.block w.heap.size (by have := HS10.out; omega) (by have := HP.out; simp; omega)).trans D10.out)
  have T10 := hid ey
  have KU10 := hid ((K10.out.mono (S' := [p]) (by simp)).trans kk)
  have HU10 := hid (show w.heap.size + 1 < u10.heap.size by have := HS10.out; have := kk.size; omega)
  obtain ⟨cc, ff⟩ := five_cells F10.out 10
  change u10.cell? ⟨w.heap.size + 1, 10, none⟩ = some (.int .i64 0) at cc
  clear A10 ey kk
  have J11 := hid (show (u10.setCell ⟨w.heap.size + 1, 10, none⟩ (.int .i64 x11)).heap[w.heap.size + 1]? = some (.cells #[.int .i64 x1, .int .i64 x2, .int .i64 x3, .int .i64 x4, .string x5, .string x6, .bool x7, .bool x8, .bool x9, .int .i64 x10, .int .i64 x11, .int .i64 0, .slice none 0 0, .slice none 0 0] 82 (0, 0)) from set_five (i := 10) F10.out (.int .i64 x11))
  have sk10 : Keeps [w.heap.size + 1] u10 (u10.setCell ⟨w.heap.size + 1, 10, none⟩ (.int .i64 x11)) := set_keep
  have D11 := hid ((sk10.block w.heap.size (by have := HU10.out; omega) (by simp)).trans G10.out)
  have E11 := hid (T10.out.later sk10 (by have := HW0.out; omega) (by have := HP.out; omega))
  have K11 := hid (KU10.out.trans' sk10 (fun i hi hm => by simp at hm; omega))
  have HS11 := hid (Nat.lt_of_lt_of_le HU10.out sk10.size)
  clear sk10
  clear F10 G10 T10 KU10 J10 D10 E10 K10
  obtain ⟨x12, s12, e12⟩ : ∃ x s, numE 3 s11 = (x, s) := ⟨_, _, rfl⟩
  have N12 := hid e12
  clear e12
  go_wp2_with fail
  have A11 := E11.out.num 3
  rw [N12.out] at A11
  refine A11.mono ?_
  rintro e u11 ⟨rfl, ey, kk⟩
  have F11 := hid ((kk.block (w.heap.size + 1) (by have := HS11.out; omega) (by have := HP.out; simp; omega)).trans J11.out)
  have G11 := hid ((kk.block w.heap.size (by have := HS11.out; omega) (by have := HP.out; simp; omega)).trans D11.out)
  have T11 := hid ey
  have KU11 := hid ((K11.out.mono (S' := [p]) (by simp)).trans kk)
  have HU11 := hid (show w.heap.size + 1 < u11.heap.size by have := HS11.out; have := kk.size; omega)
  obtain ⟨cc, ff⟩ := five_cells F11.out 11
  change u11.cell? ⟨w.heap.size + 1, 11, none⟩ = some (.int .i64 0) at cc
  clear A11 ey kk
  have J12 := hid (show (u11.setCell ⟨w.heap.size + 1, 11, none⟩ (.int .i64 x12)).heap[w.heap.size + 1]? = some (.cells #[.int .i64 x1, .int .i64 x2, .int .i64 x3, .int .i64 x4, .string x5, .string x6, .bool x7, .bool x8, .bool x9, .int .i64 x10, .int .i64 x11, .int .i64 x12, .slice none 0 0, .slice none 0 0] 82 (0, 0)) from set_five (i := 11) F11.out (.int .i64 x12))
  have sk11 : Keeps [w.heap.size + 1] u11 (u11.setCell ⟨w.heap.size + 1, 11, none⟩ (.int .i64 x12)) := set_keep
  have D12 := hid ((sk11.block w.heap.size (by have := HU11.out; omega) (by simp)).trans G11.out)
  have E12 := hid (T11.out.later sk11 (by have := HW0.out; omega) (by have := HP.out; omega))
  have K12 := hid (KU11.out.trans' sk11 (fun i hi hm => by simp at hm; omega))
  have HS12 := hid (Nat.lt_of_lt_of_le HU11.out sk11.size)
  clear sk11
  clear F11 G11 T11 KU11 J11 D11 E11 K11
  obtain ⟨x13, s13, e13⟩ : ∃ x s, lsG szC.g s12 = (x, s) := ⟨_, _, rfl⟩
  have N13 := hid e13
  clear e13
  go_wp2_with fail
  have A12 := ntGetS_any _ B p v s12 E12.out (by have := HW0.out; have := HS12.out; omega)
  unfold GetL at A12
  rw [N13.out] at A12
  refine A12.mono ?_
  rintro e u12 ⟨kk, ⟨a13, c13, rfl, ow, ey⟩ | ⟨hbad, rfl⟩⟩
  case inr =>
    have HBAD := hid hbad
    have KX := hid (K12.out.mono (S' := [p]) (by simp) |>.trans kk)
    clear hbad kk A12
    unfold gaveUp
    go_wp2_with fail
    have e0 : y = s13.2 := by
      rw [HY.out]
      refine decS_bad ?_ HBAD.out
      exact map_tail.trans ((seq_tail (n1_is N1.out)).trans ((seq_tail (n3_is N2.out)).trans ((seq_tail (n4_is N3.out)).trans ((seq_tail (chk_is (n1_is N4.out) HF4.out)).trans ((seq_tail (tx_is N5.out)).trans ((seq_tail (tx_is N6.out)).trans ((seq_tail (bo_is N7.out)).trans ((seq_tail (bo_is N8.out)).trans ((seq_tail (bo_is N9.out)).trans ((seq_tail (n1_is N10.out)).trans ((seq_tail (n4_is N11.out)).trans ((seq_tail (n3_is N12.out)).trans ((seq_tail (ls_is N13.out)).trans ((lsC_ok dlC_ok).stay s13 HBAD.out))))))))))))))
    refine ⟨rfl, KX.out, Or.inr ?_⟩
    rw [e0]
    exact ⟨HBAD.out, rfl⟩
  have O13 := hid ow
  clear ow
  have F12 := hid ((kk.block (w.heap.size + 1) (by have := HS12.out; omega) (by have := HP.out; simp; omega)).trans J12.out)
  have G12 := hid ((kk.block w.heap.size (by have := HS12.out; omega) (by have := HP.out; simp; omega)).trans D12.out)
  have T12 := hid ey
  have KU12 := hid ((K12.out.mono (S' := [p]) (by simp)).trans kk)
  have HU12 := hid (show w.heap.size + 1 < u12.heap.size by have := HS12.out; have := kk.size; omega)
  obtain ⟨cc, ff⟩ := five_cells F12.out 12
  change u12.cell? ⟨w.heap.size + 1, 12, none⟩ = some (.slice none 0 0) at cc
  clear A12 ey kk
  have J13 := hid (show (u12.setCell ⟨w.heap.size + 1, 12, none⟩ (.slice a13 x13.length c13)).heap[w.heap.size + 1]? = some (.cells #[.int .i64 x1, .int .i64 x2, .int .i64 x3, .int .i64 x4, .string x5, .string x6, .bool x7, .bool x8, .bool x9, .int .i64 x10, .int .i64 x11, .int .i64 x12, .slice a13 x13.length c13, .slice none 0 0] 82 (0, 0)) from set_five (i := 12) F12.out (.slice a13 x13.length c13))
  have sk12 : Keeps [w.heap.size + 1] u12 (u12.setCell ⟨w.heap.size + 1, 12, none⟩ (.slice a13 x13.length c13)) := set_keep
  have D13 := hid ((sk12.block w.heap.size (by have := HU12.out; omega) (by simp)).trans G12.out)
  have E13 := hid (T12.out.later sk12 (by have := HW0.out; omega) (by have := HP.out; omega))
  have K13 := hid (KU12.out.trans' sk12 (fun i hi hm => by simp at hm; omega))
  have HS13 := hid (Nat.lt_of_lt_of_le HU12.out sk12.size)
  have HB13 := HS12
  have O13' := hid (O13.out.keep sk12 (fun b hb => by simp at hb; have := HB13.out; omega))
  clear O13
  have O13 := O13'
  clear O13'
  clear sk12
  clear F12 G12 T12 KU12 J12 D12 E12 K12
  obtain ⟨x14, s14, e14⟩ : ∃ x s, lsG dlC.g s13 = (x, s) := ⟨_, _, rfl⟩
  have N14 := hid e14
  clear e14
  go_wp2_with fail
  have A13 := ntGetD_any _ B p v s13 E13.out (by have := HW0.out; have := HS13.out; omega)
  unfold GetL at A13
  rw [N14.out] at A13
  refine A13.mono ?_
  rintro e u13 ⟨kk, ⟨a14, c14, rfl, ow, ey⟩ | ⟨hbad, rfl⟩⟩
  case inr =>
    have HBAD := hid hbad
    have KX := hid (K13.out.mono (S' := [p]) (by simp) |>.trans kk)
    clear hbad kk A13
    unfold gaveUp
    go_wp2_with fail
    have e0 : y = s14.2 := by
      rw [HY.out]
      refine decS_bad ?_ HBAD.out
      exact congrArg Prod.snd (map_is (seq_is (n1_is N1.out) (seq_is (n3_is N2.out) (seq_is (n4_is N3.out) (seq_is (chk_is (n1_is N4.out) HF4.out) (seq_is (tx_is N5.out) (seq_is (tx_is N6.out) (seq_is (bo_is N7.out) (seq_is (bo_is N8.out) (seq_is (bo_is N9.out) (seq_is (n1_is N10.out) (seq_is (n4_is N11.out) (seq_is (n3_is N12.out) (seq_is (ls_is N13.out) (ls_is N14.out)))))))))))))))
    refine ⟨rfl, KX.out, Or.inr ?_⟩
    rw [e0]
    exact ⟨HBAD.out, rfl⟩
  have O14 := hid ow
  clear ow
  have F13 := hid ((kk.block (w.heap.size + 1) (by have := HS13.out; omega) (by have := HP.out; simp; omega)).trans J13.out)
  have G13 := hid ((kk.block w.heap.size (by have := HS13.out; omega) (by have := HP.out; simp; omega)).trans D13.out)
  have T13 := hid ey
  have KU13 := hid ((K13.out.mono (S' := [p]) (by simp)).trans kk)
  have HU13 := hid (show w.heap.size + 1 < u13.heap.size by have := HS13.out; have := kk.size; omega)
  have O13' := hid (O13.out.keep kk (fun b hb => by simp at hb; have := HP.out; have := HU12.out; have := HB13.out; omega))
  clear O13
  have O13 := O13'
  clear O13'
  obtain ⟨cc, ff⟩ := five_cells F13.out 13
  change u13.cell? ⟨w.heap.size + 1, 13, none⟩ = some (.slice none 0 0) at cc
  clear A13 ey kk
  have J14 := hid (show (u13.setCell ⟨w.heap.size + 1, 13, none⟩ (.slice a14 x14.length c14)).heap[w.heap.size + 1]? = some (.cells #[.int .i64 x1, .int .i64 x2, .int .i64 x3, .int .i64 x4, .string x5, .string x6, .bool x7, .bool x8, .bool x9, .int .i64 x10, .int .i64 x11, .int .i64 x12, .slice a13 x13.length c13, .slice a14 x14.length c14] 82 (0, 0)) from set_five (i := 13) F13.out (.slice a14 x14.length c14))
  have sk13 : Keeps [w.heap.size + 1] u13 (u13.setCell ⟨w.heap.size + 1, 13, none⟩ (.slice a14 x14.length c14)) := set_keep
  have D14 := hid ((sk13.block w.heap.size (by have := HU13.out; omega) (by simp)).trans G13.out)
  have E14 := hid (T13.out.later sk13 (by have := HW0.out; omega) (by have := HP.out; omega))
  have K14 := hid (KU13.out.trans' sk13 (fun i hi hm => by simp at hm; omega))
  have HS14 := hid (Nat.lt_of_lt_of_le HU13.out sk13.size)
  have HB14 := HS13
  have O13' := hid (O13.out.keep sk13 (fun b hb => by simp at hb; have := HB13.out; omega))
  clear O13
  have O13 := O13'
  clear O13'
  have O14' := hid (O14.out.keep sk13 (fun b hb => by simp at hb; have := HB14.out; omega))
  clear O14
  have O14 := O14'
  clear O14'
  clear sk13
  clear F13 G13 T13 KU13 J13 D13 E13 K13
  have EG := hid (show rqC.g st = ((⟨x1, x2, x3, x4, x5, x6, x7, x8, x9, x10, x11, x12, x13, x14⟩ : Rq), s14) by
    exact map_is (seq_is (n1_is N1.out) (seq_is (n3_is N2.out) (seq_is (n4_is N3.out) (seq_is (chk_is (n1_is N4.out) HF4.out) (seq_is (tx_is N5.out) (seq_is (tx_is N6.out) (seq_is (bo_is N7.out) (seq_is (bo_is N8.out) (seq_is (bo_is N9.out) (seq_is (n1_is N10.out) (seq_is (n4_is N11.out) (seq_is (n3_is N12.out) (seq_is (ls_is N13.out) (ls_is N14.out)))))))))))))))
  go_wp2_with fail
  refine (EyL.endd E14.out).mono ?_
  rintro e _ ⟨rfl, rfl⟩
  have e0 : endOf s14.1 s14.2 = y := by rw [HY.out]; unfold decS; rw [EG.out]
  rw [e0]
  clear e0
  have er : r = ⟨x1, x2, x3, x4, x5, x6, x7, x8, x9, x10, x11, x12, x13, x14⟩ := by rw [HR.out, EG.out]
  subst er
  go_wp2_with fail
  refine (ntPass_any _ y).mono ?_
  rintro e _ ⟨rfl, ⟨h9, rfl⟩ | ⟨h9, rfl⟩⟩
  case inr =>
    have H9 := hid h9
    clear h9
    unfold gaveUp
    go_wp2_with fail
    exact ⟨rfl, K14.out.mono (by simp), Or.inr ⟨H9.out, rfl⟩⟩
  have H9 := hid h9
  clear h9
  obtain ⟨uz, huz⟩ : ∃ z, z = u13.setCell ⟨w.heap.size + 1, 13, none⟩ (.slice a14 x14.length c14) := ⟨_, rfl⟩
  rw [← huz] at J14 D14 E14 K14 HS14 O13 O14 ⊢
  clear huz
  have RR : Hid (uz.rangeAt (w.heap.size + 1) 0 ((⟨x1, x2, x3, x4, x5, x6, x7, x8, x9, x10, x11, x12, x13, x14⟩ : Rq).cells (.slice a13 x13.length c13) (.slice a14 x14.length c14))) := hid (range_ofN J14.out rfl)
  obtain ⟨q1, q2⟩ := setRow_keepsN (cs := ((⟨x1, x2, x3, x4, x5, x6, x7, x8, x9, x10, x11, x12, x13, x14⟩ : Rq).cells (.slice a13 x13.length c13) (.slice a14 x14.length c14)).toArray) D14.out
  have Q1 := hid q1
  have Q2 := hid q2
  clear q1 q2
  go_wp2_with (first | (refine wpList_is rfl _ _ (exec_load _ _ _ _ rfl rfl (loadRq 82 uReq sReq _ (w.heap.size + 1) ⟨x1, x2, x3, x4, x5, x6, x7, x8, x9, x10, x11, x12, x13, x14⟩ _ _ RR.out)) ?_) | (refine wpList_noval rfl _ (exec_storeWhole 82 _ _ rfl w.heap.size (rqZ.cells (.slice none 0 0) (.slice none 0 0)).toArray ((⟨x1, x2, x3, x4, x5, x6, x7, x8, x9, x10, x11, x12, x13, x14⟩ : Rq).cells (.slice a13 x13.length c13) (.slice a14 x14.length c14)) D14.out rfl rfl rfl (by kernel_rfl) (one_rq _ _ _ _ _ _ _)) ?_) | fail)
  refine bodyPost_ret (one_ret (cs := ((⟨x1, x2, x3, x4, x5, x6, x7, x8, x9, x10, x11, x12, x13, x14⟩ : Rq).cells (.slice a13 x13.length c13) (.slice a14 x14.length c14))) rfl uReq (by kernel_rfl) rfl (range_ofN Q1.out rfl)) rfl ?_
  refine ⟨K14.out.trans' Q2.out (fun i hi hm => by simp at hm; omega), Or.inl ⟨H9.out, _, _, rfl, ?_, ?_⟩⟩
  · exact (O13.out.keep Q2.out (fun b hb => by simp at hb; have := HB13.out; omega)).weak (by have := HB13.out; omega)
  · exact (O14.out.keep Q2.out (fun b hb => by simp at hb; have := HB14.out; omega)).weak (by have := HB14.out; omega)
set_option maxHeartbeats 51200000 in
theorem ntReply_any {w0 : World} (w : World) (B p : Nat) (v : Value) (st : PSt) (h : EyL w0 w B p v st) (hw0 : w0.heap.size ≤ w.heap.size) :
    Calls Try.prog 80 #[.pointer (some ⟨p, 0, none⟩)] w (RdP w p (decS rpC st) (rpC.g st).1) := by
  have HW0 := hid hw0
  have hpw := h.lt
  have k1 : Keeps [] w (w.alloc (.cells (rpZ.cells (.slice none 0 0) (.slice none 0 0)).toArray 73)) := (Keeps.refl [] w).alloc _
  have k2 : Keeps [] w ((w.alloc (.cells (rpZ.cells (.slice none 0 0) (.slice none 0 0)).toArray 73)).alloc (.cells (rpZ.cells (.slice none 0 0) (.slice none 0 0)).toArray 73)) := k1.alloc _
  have E0 := hid (h.more k2)
  have D0 : Hid (((w.alloc (.cells (rpZ.cells (.slice none 0 0) (.slice none 0 0)).toArray 73)).alloc (.cells (rpZ.cells (.slice none 0 0) (.slice none 0 0)).toArray 73)).heap[w.heap.size]? = some (.cells (rpZ.cells (.slice none 0 0) (.slice none 0 0)).toArray 73 (0, 0))) := hid (((Keeps.refl [] (w.alloc (.cells (rpZ.cells (.slice none 0 0) (.slice none 0 0)).toArray 73))).alloc _).block _ (by simp) (by simp) |>.trans (heap_alloc_new w _))
  have b3 := heap_alloc_new (w.alloc (.cells (rpZ.cells (.slice none 0 0) (.slice none 0 0)).toArray 73)) (.cells (rpZ.cells (.slice none 0 0) (.slice none 0 0)).toArray 73)
  rw [World.size_alloc] at b3
  have J0 := hid (show ((w.alloc (.cells (rpZ.cells (.slice none 0 0) (.slice none 0 0)).toArray 73)).alloc (.cells (rpZ.cells (.slice none 0 0) (.slice none 0 0)).toArray 73)).heap[w.heap.size + 1]? = some (.cells #[.int .i64 0, .int .i64 0, .int .i64 0, .int .i64 0, .int .i64 0, .bool false, .slice none 0 0, .slice none 0 0] 73 (0, 0)) from b3)
  have K0 := hid k2
  have HP := hid hpw
  have HS0 := hid (show w.heap.size + 1 < ((w.alloc (.cells (rpZ.cells (.slice none 0 0) (.slice none 0 0)).toArray 73)).alloc (.cells (rpZ.cells (.slice none 0 0) (.slice none 0 0)).toArray 73)).heap.size by simp)
  obtain ⟨y, hy⟩ : ∃ z, z = decS rpC st := ⟨_, rfl⟩
  obtain ⟨r, hr⟩ : ∃ z, z = (rpC.g st).1 := ⟨_, rfl⟩
  rw [← hy, ← hr]
  have HY := hid hy
  have HR := hid hr
  clear h hw0 k1 k2 b3 hpw hy hr
  go_enter Try.func80, Try.ntmps80
  go_wp2_with (first | (refine wpList_is rfl _ _ (exec_alloc 73 (rpZ.cells (.slice none 0 0) (.slice none 0 0)).toArray iRep rfl) ?_) | fail)
  obtain ⟨x1, s1, e1⟩ : ∃ x s, numE 1 st = (x, s) := ⟨_, _, rfl⟩
  have N1 := hid e1
  clear e1
  have A0 := E0.out.num 1
  rw [N1.out] at A0
  refine A0.mono ?_
  rintro e u0 ⟨rfl, ey, kk⟩
  have F0 := hid ((kk.block (w.heap.size + 1) (by have := HS0.out; omega) (by have := HP.out; simp; omega)).trans J0.out)
  have G0 := hid ((kk.block w.heap.size (by have := HS0.out; omega) (by have := HP.out; simp; omega)).trans D0.out)
  have T0 := hid ey
  have KU0 := hid ((K0.out.mono (S' := [p]) (by simp)).trans kk)
  have HU0 := hid (show w.heap.size + 1 < u0.heap.size by have := HS0.out; have := kk.size; omega)
  obtain ⟨cc, ff⟩ := five_cells F0.out 0
  change u0.cell? ⟨w.heap.size + 1, 0, none⟩ = some (.int .i64 0) at cc
  clear A0 ey kk
  have J1 := hid (show (u0.setCell ⟨w.heap.size + 1, 0, none⟩ (.int .i64 x1)).heap[w.heap.size + 1]? = some (.cells #[.int .i64 x1, .int .i64 0, .int .i64 0, .int .i64 0, .int .i64 0, .bool false, .slice none 0 0, .slice none 0 0] 73 (0, 0)) from set_five (i := 0) F0.out (.int .i64 x1))
  have sk0 : Keeps [w.heap.size + 1] u0 (u0.setCell ⟨w.heap.size + 1, 0, none⟩ (.int .i64 x1)) := set_keep
  have D1 := hid ((sk0.block w.heap.size (by have := HU0.out; omega) (by simp)).trans G0.out)
  have E1 := hid (T0.out.later sk0 (by have := HW0.out; omega) (by have := HP.out; omega))
  have K1 := hid (KU0.out.trans' sk0 (fun i hi hm => by simp at hm; omega))
  have HS1 := hid (Nat.lt_of_lt_of_le HU0.out sk0.size)
  clear sk0
  clear F0 G0 T0 KU0 J0 D0 E0 K0
  obtain ⟨cc, ff⟩ := five_cells J1.out 0
  change (u0.setCell ⟨w.heap.size + 1, 0, none⟩ (.int .i64 x1)).cell? ⟨w.heap.size + 1, 0, none⟩ = some (.int .i64 x1) at cc
  by_cases hdo : x1 ≤ 18
  case neg =>
    have HDO : Hid (okE x1 = false) := hid (by unfold okE; simpa using hdo)
    have d1 : decide (x1 ≤ 18) = false := by simpa using hdo
    have H4 : Hid (s1.2 = 0) := hid (by
      by_cases h0 : s1.2 = 0
      · exact h0
      · have := numE_zero (n := 1) (st := st) (by rw [N1.out]; exact h0)
        rw [N1.out] at this
        simp only at this
        omega)
    clear hdo
    go_wp2_with fail
    refine (ntMust_any _ false 4).mono ?_
    rintro e _ ⟨rfl, ⟨h, _⟩ | ⟨h, rfl⟩⟩
    · exact absurd h (by decide)
    · clear h
      unfold gaveUp
      go_wp2_with fail
      have e0 : y = 4 := by
        rw [HY.out]
        have e1 : formW s1 true = (s1.1, 4) := by unfold formW; rw [if_pos ⟨rfl, H4.out⟩]
        refine decS_bad (st2 := (s1.1, 4)) ?_ (show (4 : Int) ≠ 0 by decide)
        exact map_tail.trans ((seq_tail (chk_is (n1_is N1.out) (by rw [HDO.out]; exact e1))).trans (tail7_ok.stay _ (show (4 : Int) ≠ 0 by decide)))
      refine ⟨rfl, K1.out.mono (by simp), Or.inr ?_⟩
      rw [e0]
      exact ⟨by decide, rfl⟩
  have HDO : Hid (okE x1 = true) := hid (by unfold okE; simpa using hdo)
  have d1 : decide (x1 ≤ 18) = true := by simpa using hdo
  clear hdo
  go_wp2_with fail
  clear cc ff d1
  refine (ntMust_any _ true 4).mono ?_
  rintro e _ ⟨rfl, ⟨_, rfl⟩ | ⟨h, _⟩⟩
  case inr => exact absurd rfl h
  have HF1 := hid (show formW s1 (!okE x1) = s1 by rw [HDO.out]; exact formW_no _)
  obtain ⟨x2, s2, e2⟩ : ∃ x s, numE 2 s1 = (x, s) := ⟨_, _, rfl⟩
  have N2 := hid e2
  clear e2
  go_wp2_with fail
  have A1 := E1.out.num 2
  rw [N2.out] at A1
  refine A1.mono ?_
  rintro e u1 ⟨rfl, ey, kk⟩
  have F1 := hid ((kk.block (w.heap.size + 1) (by have := HS1.out; omega) (by have := HP.out; simp; omega)).trans J1.out)
  have G1 := hid ((kk.block w.heap.size (by have := HS1.out; omega) (by have := HP.out; simp; omega)).trans D1.out)
  have T1 := hid ey
  have KU1 := hid ((K1.out.mono (S' := [p]) (by simp)).trans kk)
  have HU1 := hid (show w.heap.size + 1 < u1.heap.size by have := HS1.out; have := kk.size; omega)
  obtain ⟨cc, ff⟩ := five_cells F1.out 1
  change u1.cell? ⟨w.heap.size + 1, 1, none⟩ = some (.int .i64 0) at cc
  clear A1 ey kk
  have J2 := hid (show (u1.setCell ⟨w.heap.size + 1, 1, none⟩ (.int .i64 x2)).heap[w.heap.size + 1]? = some (.cells #[.int .i64 x1, .int .i64 x2, .int .i64 0, .int .i64 0, .int .i64 0, .bool false, .slice none 0 0, .slice none 0 0] 73 (0, 0)) from set_five (i := 1) F1.out (.int .i64 x2))
  have sk1 : Keeps [w.heap.size + 1] u1 (u1.setCell ⟨w.heap.size + 1, 1, none⟩ (.int .i64 x2)) := set_keep
  have D2 := hid ((sk1.block w.heap.size (by have := HU1.out; omega) (by simp)).trans G1.out)
  have E2 := hid (T1.out.later sk1 (by have := HW0.out; omega) (by have := HP.out; omega))
  have K2 := hid (KU1.out.trans' sk1 (fun i hi hm => by simp at hm; omega))
  have HS2 := hid (Nat.lt_of_lt_of_le HU1.out sk1.size)
  clear sk1
  clear F1 G1 T1 KU1 J1 D1 E1 K1
  obtain ⟨x3, s3, e3⟩ : ∃ x s, numE 2 s2 = (x, s) := ⟨_, _, rfl⟩
  have N3 := hid e3
  clear e3
  go_wp2_with fail
  have A2 := E2.out.num 2
  rw [N3.out] at A2
  refine A2.mono ?_
  rintro e u2 ⟨rfl, ey, kk⟩
  have F2 := hid ((kk.block (w.heap.size + 1) (by have := HS2.out; omega) (by have := HP.out; simp; omega)).trans J2.out)
  have G2 := hid ((kk.block w.heap.size (by have := HS2.out; omega) (by have := HP.out; simp; omega)).trans D2.out)
  have T2 := hid ey
  have KU2 := hid ((K2.out.mono (S' := [p]) (by simp)).trans kk)
  have HU2 := hid (show w.heap.size + 1 < u2.heap.size by have := HS2.out; have := kk.size; omega)
  obtain ⟨cc, ff⟩ := five_cells F2.out 2
  change u2.cell? ⟨w.heap.size + 1, 2, none⟩ = some (.int .i64 0) at cc
  clear A2 ey kk
  have J3 := hid (show (u2.setCell ⟨w.heap.size + 1, 2, none⟩ (.int .i64 x3)).heap[w.heap.size + 1]? = some (.cells #[.int .i64 x1, .int .i64 x2, .int .i64 x3, .int .i64 0, .int .i64 0, .bool false, .slice none 0 0, .slice none 0 0] 73 (0, 0)) from set_five (i := 2) F2.out (.int .i64 x3))
  have sk2 : Keeps [w.heap.size + 1] u2 (u2.setCell ⟨w.heap.size + 1, 2, none⟩ (.int .i64 x3)) := set_keep
  have D3 := hid ((sk2.block w.heap.size (by have := HU2.out; omega) (by simp)).trans G2.out)
  have E3 := hid (T2.out.later sk2 (by have := HW0.out; omega) (by have := HP.out; omega))
  have K3 := hid (KU2.out.trans' sk2 (fun i hi hm => by simp at hm; omega))
  have HS3 := hid (Nat.lt_of_lt_of_le HU2.out sk2.size)
  clear sk2
  clear F2 G2 T2 KU2 J2 D2 E2 K2
  obtain ⟨x4, s4, e4⟩ : ∃ x s, numE 1 s3 = (x, s) := ⟨_, _, rfl⟩
  have N4 := hid e4
  clear e4
  go_wp2_with fail
  have A3 := E3.out.num 1
  rw [N4.out] at A3
  refine A3.mono ?_
  rintro e u3 ⟨rfl, ey, kk⟩
  have F3 := hid ((kk.block (w.heap.size + 1) (by have := HS3.out; omega) (by have := HP.out; simp; omega)).trans J3.out)
  have G3 := hid ((kk.block w.heap.size (by have := HS3.out; omega) (by have := HP.out; simp; omega)).trans D3.out)
  have T3 := hid ey
  have KU3 := hid ((K3.out.mono (S' := [p]) (by simp)).trans kk)
  have HU3 := hid (show w.heap.size + 1 < u3.heap.size by have := HS3.out; have := kk.size; omega)
  obtain ⟨cc, ff⟩ := five_cells F3.out 3
  change u3.cell? ⟨w.heap.size + 1, 3, none⟩ = some (.int .i64 0) at cc
  clear A3 ey kk
  have J4 := hid (show (u3.setCell ⟨w.heap.size + 1, 3, none⟩ (.int .i64 x4)).heap[w.heap.size + 1]? = some (.cells #[.int .i64 x1, .int .i64 x2, .int .i64 x3, .int .i64 x4, .int .i64 0, .bool false, .slice none 0 0, .slice none 0 0] 73 (0, 0)) from set_five (i := 3) F3.out (.int .i64 x4))
  have sk3 : Keeps [w.heap.size + 1] u3 (u3.setCell ⟨w.heap.size + 1, 3, none⟩ (.int .i64 x4)) := set_keep
  have D4 := hid ((sk3.block w.heap.size (by have := HU3.out; omega) (by simp)).trans G3.out)
  have E4 := hid (T3.out.later sk3 (by have := HW0.out; omega) (by have := HP.out; omega))
  have K4 := hid (KU3.out.trans' sk3 (fun i hi hm => by simp at hm; omega))
  have HS4 := hid (Nat.lt_of_lt_of_le HU3.out sk3.size)
  clear sk3
  clear F3 G3 T3 KU3 J3 D3 E3 K3
  obtain ⟨x5, s5, e5⟩ : ∃ x s, numE 3 s4 = (x, s) := ⟨_, _, rfl⟩
  have N5 := hid e5
  clear e5
  go_wp2_with fail
  have A4 := E4.out.num 3
  rw [N5.out] at A4
  refine A4.mono ?_
  rintro e u4 ⟨rfl, ey, kk⟩
  have F4 := hid ((kk.block (w.heap.size + 1) (by have := HS4.out; omega) (by have := HP.out; simp; omega)).trans J4.out)
  have G4 := hid ((kk.block w.heap.size (by have := HS4.out; omega) (by have := HP.out; simp; omega)).trans D4.out)
  have T4 := hid ey
  have KU4 := hid ((K4.out.mono (S' := [p]) (by simp)).trans kk)
  have HU4 := hid (show w.heap.size + 1 < u4.heap.size by have := HS4.out; have := kk.size; omega)
  obtain ⟨cc, ff⟩ := five_cells F4.out 4
  change u4.cell? ⟨w.heap.size + 1, 4, none⟩ = some (.int .i64 0) at cc
  clear A4 ey kk
  have J5 := hid (show (u4.setCell ⟨w.heap.size + 1, 4, none⟩ (.int .i64 x5)).heap[w.heap.size + 1]? = some (.cells #[.int .i64 x1, .int .i64 x2, .int .i64 x3, .int .i64 x4, .int .i64 x5, .bool false, .slice none 0 0, .slice none 0 0] 73 (0, 0)) from set_five (i := 4) F4.out (.int .i64 x5))
  have sk4 : Keeps [w.heap.size + 1] u4 (u4.setCell ⟨w.heap.size + 1, 4, none⟩ (.int .i64 x5)) := set_keep
  have D5 := hid ((sk4.block w.heap.size (by have := HU4.out; omega) (by simp)).trans G4.out)
  have E5 := hid (T4.out.later sk4 (by have := HW0.out; omega) (by have := HP.out; omega))
  have K5 := hid (KU4.out.trans' sk4 (fun i hi hm => by simp at hm; omega))
  have HS5 := hid (Nat.lt_of_lt_of_le HU4.out sk4.size)
  clear sk4
  clear F4 G4 T4 KU4 J4 D4 E4 K4
  obtain ⟨x6, s6, e6⟩ : ∃ x s, boolE s5 = (x, s) := ⟨_, _, rfl⟩
  have N6 := hid e6
  clear e6
  go_wp2_with fail
  have A5 := E5.out.bool
  rw [N6.out] at A5
  refine A5.mono ?_
  rintro e u5 ⟨rfl, ey, kk⟩
  have F5 := hid ((kk.block (w.heap.size + 1) (by have := HS5.out; omega) (by have := HP.out; simp; omega)).trans J5.out)
  have G5 := hid ((kk.block w.heap.size (by have := HS5.out; omega) (by have := HP.out; simp; omega)).trans D5.out)
  have T5 := hid ey
  have KU5 := hid ((K5.out.mono (S' := [p]) (by simp)).trans kk)
  have HU5 := hid (show w.heap.size + 1 < u5.heap.size by have := HS5.out; have := kk.size; omega)
  obtain ⟨cc, ff⟩ := five_cells F5.out 5
  change u5.cell? ⟨w.heap.size + 1, 5, none⟩ = some (.bool false) at cc
  clear A5 ey kk
  have J6 := hid (show (u5.setCell ⟨w.heap.size + 1, 5, none⟩ (.bool x6)).heap[w.heap.size + 1]? = some (.cells #[.int .i64 x1, .int .i64 x2, .int .i64 x3, .int .i64 x4, .int .i64 x5, .bool x6, .slice none 0 0, .slice none 0 0] 73 (0, 0)) from set_five (i := 5) F5.out (.bool x6))
  have sk5 : Keeps [w.heap.size + 1] u5 (u5.setCell ⟨w.heap.size + 1, 5, none⟩ (.bool x6)) := set_keep
  have D6 := hid ((sk5.block w.heap.size (by have := HU5.out; omega) (by simp)).trans G5.out)
  have E6 := hid (T5.out.later sk5 (by have := HW0.out; omega) (by have := HP.out; omega))
  have K6 := hid (KU5.out.trans' sk5 (fun i hi hm => by simp at hm; omega))
  have HS6 := hid (Nat.lt_of_lt_of_le HU5.out sk5.size)
  clear sk5
  clear F5 G5 T5 KU5 J5 D5 E5 K5
  obtain ⟨x7, s7, e7⟩ : ∃ x s, lsG enC.g s6 = (x, s) := ⟨_, _, rfl⟩
  have N7 := hid e7
  clear e7
  go_wp2_with fail
  have A6 := ntGetE_any _ B p v s6 E6.out (by have := HW0.out; have := HS6.out; omega)
  unfold GetL at A6
  rw [N7.out] at A6
  refine A6.mono ?_
  rintro e u6 ⟨kk, ⟨a7, c7, rfl, ow, ey⟩ | ⟨hbad, rfl⟩⟩
  case inr =>
    have HBAD := hid hbad
    have KX := hid (K6.out.mono (S' := [p]) (by simp) |>.trans kk)
    clear hbad kk A6
    unfold gaveUp
    go_wp2_with fail
    have e0 : y = s7.2 := by
      rw [HY.out]
      refine decS_bad ?_ HBAD.out
      exact map_tail.trans ((seq_tail (chk_is (n1_is N1.out) HF1.out)).trans ((seq_tail (n2_is N2.out)).trans ((seq_tail (n2_is N3.out)).trans ((seq_tail (n1_is N4.out)).trans ((seq_tail (n3_is N5.out)).trans ((seq_tail (bo_is N6.out)).trans ((seq_tail (ls_is N7.out)).trans (rowC_ok.stay s7 HBAD.out))))))))
    refine ⟨rfl, KX.out, Or.inr ?_⟩
    rw [e0]
    exact ⟨HBAD.out, rfl⟩
  have O7 := hid ow
  clear ow
  have F6 := hid ((kk.block (w.heap.size + 1) (by have := HS6.out; omega) (by have := HP.out; simp; omega)).trans J6.out)
  have G6 := hid ((kk.block w.heap.size (by have := HS6.out; omega) (by have := HP.out; simp; omega)).trans D6.out)
  have T6 := hid ey
  have KU6 := hid ((K6.out.mono (S' := [p]) (by simp)).trans kk)
  have HU6 := hid (show w.heap.size + 1 < u6.heap.size by have := HS6.out; have := kk.size; omega)
  obtain ⟨cc, ff⟩ := five_cells F6.out 6
  change u6.cell? ⟨w.heap.size + 1, 6, none⟩ = some (.slice none 0 0) at cc
  clear A6 ey kk
  have J7 := hid (show (u6.setCell ⟨w.heap.size + 1, 6, none⟩ (.slice a7 x7.length c7)).heap[w.heap.size + 1]? = some (.cells #[.int .i64 x1, .int .i64 x2, .int .i64 x3, .int .i64 x4, .int .i64 x5, .bool x6, .slice a7 x7.length c7, .slice none 0 0] 73 (0, 0)) from set_five (i := 6) F6.out (.slice a7 x7.length c7))
  have sk6 : Keeps [w.heap.size + 1] u6 (u6.setCell ⟨w.heap.size + 1, 6, none⟩ (.slice a7 x7.length c7)) := set_keep
  have D7 := hid ((sk6.block w.heap.size (by have := HU6.out; omega) (by simp)).trans G6.out)
  have E7 := hid (T6.out.later sk6 (by have := HW0.out; omega) (by have := HP.out; omega))
  have K7 := hid (KU6.out.trans' sk6 (fun i hi hm => by simp at hm; omega))
  have HS7 := hid (Nat.lt_of_lt_of_le HU6.out sk6.size)
  have HB7 := HS6
  have O7' := hid (O7.out.keep sk6 (fun b hb => by simp at hb; have := HB7.out; omega))
  clear O7
  have O7 := O7'
  clear O7'
  clear sk6
  clear F6 G6 T6 KU6 J6 D6 E6 K6
  obtain ⟨x8, s8, e8⟩ : ∃ x s, rawE s7 = (x, s) := ⟨_, _, rfl⟩
  have N8 := hid e8
  clear e8
  go_wp2_with fail
  have A7 := E7.out.raw
  rw [N8.out] at A7
  refine A7.mono ?_
  rintro e u7 ⟨⟨a8, c8, rfl, or_, on_⟩, ey, kk⟩
  have OR8 := hid or_
  have ON8 := hid (fun ad had => Nat.lt_of_lt_of_le HS7.out (on_ ad had))
  clear or_ on_
  have F7 := hid ((kk.block (w.heap.size + 1) (by have := HS7.out; omega) (by have := HP.out; simp; omega)).trans J7.out)
  have G7 := hid ((kk.block w.heap.size (by have := HS7.out; omega) (by have := HP.out; simp; omega)).trans D7.out)
  have T7 := hid ey
  have KU7 := hid ((K7.out.mono (S' := [p]) (by simp)).trans kk)
  have HU7 := hid (show w.heap.size + 1 < u7.heap.size by have := HS7.out; have := kk.size; omega)
  have O7' := hid (O7.out.keep kk (fun b hb => by simp at hb; have := HP.out; have := HU6.out; have := HB7.out; omega))
  clear O7
  have O7 := O7'
  clear O7'
  obtain ⟨cc, ff⟩ := five_cells F7.out 7
  change u7.cell? ⟨w.heap.size + 1, 7, none⟩ = some (.slice none 0 0) at cc
  clear A7 ey kk
  have J8 := hid (show (u7.setCell ⟨w.heap.size + 1, 7, none⟩ (.slice a8 x8.length c8)).heap[w.heap.size + 1]? = some (.cells #[.int .i64 x1, .int .i64 x2, .int .i64 x3, .int .i64 x4, .int .i64 x5, .bool x6, .slice a7 x7.length c7, .slice a8 x8.length c8] 73 (0, 0)) from set_five (i := 7) F7.out (.slice a8 x8.length c8))
  have sk7 : Keeps [w.heap.size + 1] u7 (u7.setCell ⟨w.heap.size + 1, 7, none⟩ (.slice a8 x8.length c8)) := set_keep
  have D8 := hid ((sk7.block w.heap.size (by have := HU7.out; omega) (by simp)).trans G7.out)
  have E8 := hid (T7.out.later sk7 (by have := HW0.out; omega) (by have := HP.out; omega))
  have K8 := hid (KU7.out.trans' sk7 (fun i hi hm => by simp at hm; omega))
  have HS8 := hid (Nat.lt_of_lt_of_le HU7.out sk7.size)
  have O7' := hid (O7.out.keep sk7 (fun b hb => by simp at hb; have := HB7.out; omega))
  clear O7
  have O7 := O7'
  clear O7'
  have OR8' := hid (OR8.out.keep sk7 (by
    intro ad n c e hne hm
    injection e with e _ _
    have := ON8.out ad e
    simp at hm
    omega))
  clear OR8
  have OR8 := OR8'
  clear OR8'
  clear sk7
  clear F7 G7 T7 KU7 J7 D7 E7 K7
  have EG := hid (show rpC.g st = ((⟨x1, x2, x3, x4, x5, x6, x7, x8⟩ : Rp), s8) by
    exact map_is (seq_is (chk_is (n1_is N1.out) HF1.out) (seq_is (n2_is N2.out) (seq_is (n2_is N3.out) (seq_is (n1_is N4.out) (seq_is (n3_is N5.out) (seq_is (bo_is N6.out) (seq_is (ls_is N7.out) (ro_is N8.out)))))))))
  go_wp2_with fail
  refine (EyL.endd E8.out).mono ?_
  rintro e _ ⟨rfl, rfl⟩
  have e0 : endOf s8.1 s8.2 = y := by rw [HY.out]; unfold decS; rw [EG.out]
  rw [e0]
  clear e0
  have er : r = ⟨x1, x2, x3, x4, x5, x6, x7, x8⟩ := by rw [HR.out, EG.out]
  subst er
  go_wp2_with fail
  refine (ntPass_any _ y).mono ?_
  rintro e _ ⟨rfl, ⟨h9, rfl⟩ | ⟨h9, rfl⟩⟩
  case inr =>
    have H9 := hid h9
    clear h9
    unfold gaveUp
    go_wp2_with fail
    exact ⟨rfl, K8.out.mono (by simp), Or.inr ⟨H9.out, rfl⟩⟩
  have H9 := hid h9
  clear h9
  obtain ⟨uz, huz⟩ : ∃ z, z = u7.setCell ⟨w.heap.size + 1, 7, none⟩ (.slice a8 x8.length c8) := ⟨_, rfl⟩
  rw [← huz] at J8 D8 E8 K8 HS8 O7 OR8 ⊢
  clear huz
  have RR : Hid (uz.rangeAt (w.heap.size + 1) 0 ((⟨x1, x2, x3, x4, x5, x6, x7, x8⟩ : Rp).cells (.slice a7 x7.length c7) (.slice a8 x8.length c8))) := hid (range_ofN J8.out rfl)
  obtain ⟨q1, q2⟩ := setRow_keepsN (cs := ((⟨x1, x2, x3, x4, x5, x6, x7, x8⟩ : Rp).cells (.slice a7 x7.length c7) (.slice a8 x8.length c8)).toArray) D8.out
  have Q1 := hid q1
  have Q2 := hid q2
  clear q1 q2
  go_wp2_with (first | (refine wpList_is rfl _ _ (exec_load _ _ _ _ rfl rfl (loadRp 73 uRep sRep _ (w.heap.size + 1) ⟨x1, x2, x3, x4, x5, x6, x7, x8⟩ _ _ RR.out)) ?_) | (refine wpList_noval rfl _ (exec_storeWhole 73 _ _ rfl w.heap.size (rpZ.cells (.slice none 0 0) (.slice none 0 0)).toArray ((⟨x1, x2, x3, x4, x5, x6, x7, x8⟩ : Rp).cells (.slice a7 x7.length c7) (.slice a8 x8.length c8)) D8.out rfl rfl rfl (by kernel_rfl) (one_rp _ _ _ _ _ _ _)) ?_) | fail)
  refine bodyPost_ret (one_ret (cs := ((⟨x1, x2, x3, x4, x5, x6, x7, x8⟩ : Rp).cells (.slice a7 x7.length c7) (.slice a8 x8.length c8))) rfl uRep (by kernel_rfl) rfl (range_ofN Q1.out rfl)) rfl ?_
  refine ⟨K8.out.trans' Q2.out (fun i hi hm => by simp at hm; omega), Or.inl ⟨H9.out, _, _, _, rfl, ?_, ?_, fun ad had => by have := ON8.out ad had; omega⟩⟩
  · exact (O7.out.keep Q2.out (fun b hb => by simp at hb; have := HB7.out; omega)).weak (by have := HB7.out; omega)
  · exact OR8.out.keep Q2.out (by
      intro ad n c e hne hm
      injection e with e _ _
      have := ON8.out ad e
      simp at hm
      omega)
end Go.Proofs.Ytoglcohdanpciaa
