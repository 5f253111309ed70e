/- note: what builds bytes is tried; Encode, EncodeReply. -/
import Derived.Test.YtoglcohdanpciaaNtD
namespace Go.Proofs.Ytoglcohdanpciaa
open Go.RowKit Go.Shelf
set_option maxRecDepth 100000
set_option linter.unusedSimpArgs false
set_option linter.unusedVariables false

theorem loadErrN {w : World} {a : Addr} {v : Value} (h : w.cell? a = some v) : (loadVar 23 a).run Try.prog w = .ok v w := by
  simp [loadVar, agg_no 23 (by kernel_rfl), h, Result.andThen]
set_option maxHeartbeats 800000 in
theorem catchN_panicking (b : Nat) (why : Int) (y : Value) (older : List PanicEntry) (w : World) (hb : w.heap[b]? = some (.cells #[y] 23 (0, 0))) :
    CallsD Try.prog 116 #[.pointer (some ⟨b, 0, none⟩)] (.panicking ({ v := .iface 23 (.int .i64 why), recovered := false } :: older)) w fun e u' w' =>
      e = .returned (.tuple #[]) ∧ u' = .panicking ({ v := .iface 23 (.int .i64 why), recovered := true } :: older) ∧ w' = w.setCell ⟨b, 0, none⟩ (.int .i64 why) := by
  have c0 : w.cell? ⟨b, 0, none⟩ = some y := by simp [World.cell?, hb]
  have f0 : w.frozen? ⟨b, 0, none⟩ = false := by simp [World.frozen?, hb]
  have t1 := ta_hit
  refine callsD_of_wpS Try.func116 rfl fun c₀ cs hu => ?_
  simp only [Try.ntmps116, List.size_toArray, List.length_cons, List.length_nil, Nat.reduceAdd, Nat.reduceSub, Array.replicate_succ,
     Array.replicate_zero, List.push_toArray, List.append_toArray, List.nil_append, List.cons_append]
  have hrec : recoverD (c₀ :: cs) = some (.iface 23 (.int .i64 why), { c₀ with mode := .panicking ({ v := .iface 23 (.int .i64 why), recovered := true } :: older) } :: cs) := by
    simp only [recoverD, hu]
  refine wpS_recover_lit rfl rfl (Or.inl hrec) ?_
  simp only [Act.put]
  go_wp2_with fail
  exact ⟨rfl, _, rfl, .tuple #[], results_none rfl _ _ _, rfl, rfl, rfl⟩
set_option maxHeartbeats 800000 in
theorem catchN_idle (p : Addr) (w : World) :
    CallsD Try.prog 116 #[.pointer (some p)] .returning w fun e u' w' => e = .returned (.tuple #[]) ∧ u' = .returning ∧ w' = w := by
  have t1 := ta_nil
  refine callsD_of_wpS Try.func116 rfl fun c₀ cs hu => ?_
  simp only [Try.ntmps116, List.size_toArray, List.length_cons, List.length_nil, Nat.reduceAdd, Nat.reduceSub, Array.replicate_succ,
     Array.replicate_zero, List.push_toArray, List.append_toArray, List.nil_append, List.cons_append]
  have hrec : recoverD (c₀ :: cs) = none := by simp only [recoverD, hu]
  refine wpS_recover_lit rfl rfl (Or.inr ⟨hrec, rfl, rfl⟩) ?_
  simp only [Act.put]
  go_wp2_with fail
  refine ⟨rfl, .returning, ?_, .tuple #[], results_none rfl _ _ _, rfl, rfl, rfl⟩
  rw [← hu]
theorem n_ret {fn : Func} {p q : Tmp} (hr : fn.results = #[.tmp p, .cell q 23]) {tmps : Array Value} {w : World} {d : Addr} {x y : Value} (hp : tmps.getD p undef = x) (hq : tmps.getD q undef = .pointer (some d)) (hd : w.cell? d = some y) : (results fn tmps).run Try.prog w = .ok (.tuple #[x, y]) w := by
  have hp' : tmps[p]?.getD undef = x := by simpa using hp
  have hq' : tmps[q]?.getD undef = .pointer (some d) := by simpa using hq
  have hw : (loadVar 23 d).run Try.prog w = .ok y w := loadErrN hd
  simp [results, hr, hp', hq', asAddr, hw]
/-- What attempt answers of bytes. -/
def AtN (w : World) (r : List Int × Int) (e : Ending) (w' : World) : Prop :=
  Keeps [] w w' ∧ ∃ a c, e = .returned (.tuple #[.slice a r.1.length c, .int .i64 r.2]) ∧ RowAt w' (.slice a r.1.length c) r.1 ∧ ∀ ad, a = some ad → w.heap.size ≤ ad.block
set_option maxHeartbeats 3200000 in
theorem attN_any (gf : Nat) (bs : Array Value) (w : World) (r : List Int × Int) (hgf : Enters Try.prog gf) (hc : ∀ W, Keeps [] w W → Calls Try.prog gf bs W (BCl W r)) :
    Calls Try.prog 70 #[.func (.func gf) bs #[]] w (AtN w r) := by
  have hmf : ∀ (fn : Fn) (first cap : Array Value) (w : World), (Instr.makeFunc fn first cap).run Try.prog w = .ok (.func fn first cap) w := fun _ _ _ _ => rfl
  have kb : Keeps [] w (w.alloc (.cells #[.int .i64 0] 23)) := (Keeps.refl [] w).alloc _
  have EB := hid (heap_alloc_new w (.cells #[.int .i64 0] 23))
  have KB := hid kb
  have HGF := hid hgf
  have A := hid (hc _ kb)
  clear hgf hc kb
  go_enter_defers Try.func70, Try.ntmps70
  go_wp2_with fail
  rw [HGF.out, Oper.upon_enter]
  first | refine A.out.mono ?_ | (rw [show (bs ++ #[] : Array Value) = bs from by simp]; refine A.out.mono ?_) | (simp only [List.append_toArray, List.append_nil, List.nil_append, Array.empty_append, Array.append_empty]; refine A.out.mono ?_)
  rintro e w2 ⟨k2, ⟨h0, a, c, rfl, r1, r2⟩ | ⟨h0, hn, rfl⟩⟩
  · have K2 := hid (KB.out.trans k2)
    have E2 := hid ((k2.block w.heap.size (by simp) (by simp)).trans EB.out)
    have H0 := hid h0
    have N2 := hid r2
    have R2 := hid r1
    have SZ := hid (show w.heap.size + 1 ≤ w2.heap.size by have := k2.size; simpa using this)
    obtain ⟨cc, ff⟩ := five_cells E2.out 0
    simp only [List.getElem?_toArray, List.getElem?_cons_zero] at cc
    clear k2 h0 r1 r2
    go_wp2_with fail
    refine leaves_cons (f := 116) (args := #[.pointer (some ⟨w.heap.size, 0, none⟩)]) (by simp) (by simp [go_sem]) ?_
    refine (catchN_idle _ _).mono ?_
    rintro e u' w4 ⟨rfl, rfl, rfl⟩
    have sk : Keeps [w.heap.size] w2 (w2.setCell ⟨w.heap.size, 0, none⟩ (.int .i64 0)) := set_keep
    have q3 := set_five (i := 0) E2.out (.int .i64 0)
    have NN : ∀ ad, a = some ad → w.heap.size + 1 ≤ ad.block := fun ad had => by have := N2.out ad had; rw [World.size_alloc] at this; exact this
    refine ⟨_, n_ret rfl rfl rfl (five_cells q3 0).1, K2.out.trans' sk (fun i hi hm => by simp at hm; omega), a, c, ?_, ?_, fun ad had => by have := NN ad had; omega⟩
    · rw [H0.out]; rfl
    · exact R2.out.keep sk (by
        intro ad n c' e hne hm
        injection e with e _ _
        have := NN ad e
        simp at hm
        omega)
  · have K2 := hid (KB.out.trans k2)
    have E2 := hid ((k2.block w.heap.size (by simp) (by simp)).trans EB.out)
    have HN := hid hn
    clear k2 h0 hn
    unfold gaveUp
    go_wp2_with fail
    refine leaves_cons (f := 116) (args := #[.pointer (some ⟨w.heap.size, 0, none⟩)]) (by simp) (by simp [go_sem]) ?_
    refine (catchN_panicking w.heap.size _ _ [] w2 E2.out).mono ?_
    rintro e u' w4 ⟨rfl, rfl, rfl⟩
    have sk : Keeps [w.heap.size] w2 (w2.setCell ⟨w.heap.size, 0, none⟩ (.int .i64 r.2)) := set_keep
    have q3 := set_five (i := 0) E2.out (.int .i64 r.2)
    refine ⟨_, n_ret rfl rfl rfl (five_cells q3 0).1, K2.out.trans' sk (fun i hi hm => by simp at hm; omega), none, 0, ?_, ?_, by simp⟩
    · rw [HN.out]; rfl
    · rw [HN.out]; exact RowAt.nil _
theorem enters_encd : Enters Try.prog 82 := enters_of Try.func82 (by kernel_rfl) rfl
theorem enters_encdR : Enters Try.prog 77 := enters_of Try.func77 (by kernel_rfl) rfl
theorem loadRq (T : TypeId) (hu : ∃ d, Try.prog.underlying T = some d ∧ d.isRow = true) (hs : (Try.prog.info? T).map (·.size) = some 14) (W : World) (b : Nat) (r : Rq) (vs vd : Value) (hc : W.rangeAt b 0 (r.cells vs vd)) : (Instr.loadAt T (.pointer (some ⟨b, 0, none⟩))).run Try.prog W = .ok (rqV r vs vd) W := by
  obtain ⟨d, hd, hr⟩ := hu
  exact run_loadAt_mid W b 0 T (r.cells vs vd) d hc hd hr (by rw [hs]; rfl)
theorem loadRp (T : TypeId) (hu : ∃ d, Try.prog.underlying T = some d ∧ d.isRow = true) (hs : (Try.prog.info? T).map (·.size) = some 8) (W : World) (b : Nat) (r : Rp) (ve vm : Value) (hc : W.rangeAt b 0 (r.cells ve vm)) : (Instr.loadAt T (.pointer (some ⟨b, 0, none⟩))).run Try.prog W = .ok (rpV r ve vm) W := by
  obtain ⟨d, hd, hr⟩ := hu
  exact run_loadAt_mid W b 0 T (r.cells ve vm) d hc hd hr (by rw [hs]; rfl)
theorem uReq : ∃ d, Try.prog.underlying 82 = some d ∧ d.isRow = true := ⟨_, Try.underlying82, rfl⟩
theorem urReq : ∃ d, Try.prog.underlying 88 = some d ∧ d.isRow = true := ⟨_, Try.underlying88, rfl⟩
theorem uRep : ∃ d, Try.prog.underlying 73 = some d ∧ d.isRow = true := ⟨_, Try.underlying73, rfl⟩
theorem urRep : ∃ d, Try.prog.underlying 100 = some d ∧ d.isRow = true := ⟨_, Try.underlying100, rfl⟩
theorem sReq : (Try.prog.info? 82).map (·.size) = some 14 := by kernel_rfl
theorem srReq : (Try.prog.info? 88).map (·.size) = some 14 := by kernel_rfl
theorem sRep : (Try.prog.info? 73).map (·.size) = some 8 := by kernel_rfl
theorem srRep : (Try.prog.info? 100).map (·.size) = some 8 := by kernel_rfl
set_option maxHeartbeats 3200000 in
theorem ntEnc_any (w : World) (r : Rq) (vs vd : Value) (hs : LsAt KSz w vs r.ss) (hd : DlsAt w vd r.dl) (hp : r.pa.size ≤ 35184372088832) (ht : r.tp.size ≤ 35184372088832) :
    Calls Try.prog 39 #[rqV r vs vd] w (AtN w (encQ r)) := by
  have hmf : ∀ (fn : Fn) (first cap : Array Value) (w : World), (Instr.makeFunc fn first cap).run Try.prog w = .ok (.func fn first cap) w := fun _ _ _ _ => rfl
  have ka : Keeps [] w (w.alloc (.cells (r.cells vs vd).toArray 82)) := (Keeps.refl [] w).alloc _
  have KA := hid ka
  have RA := hid (krange_new w (r.cells vs vd) 82)
  have A := hid (attN_any 82 #[rqV r vs vd] (w.alloc (.cells (r.cells vs vd).toArray 82)) (encQ r) enters_encd (fun W k => ntEncd_any W r vs vd (hs.keep (ka.trans k)) (hd.keep (ka.trans k)) hp ht))
  obtain ⟨q, hq⟩ : ∃ z, z = encQ r := ⟨_, rfl⟩
  rw [← hq] at A ⊢
  clear hq hs hd hp ht ka
  go_enter Try.func39, Try.ntmps39
  go_wp2_with (first | (refine wpList_is rfl _ _ (exec_box 82 _ (r.cells vs vd).toArray rfl rfl) ?_) | (refine wpList_is rfl _ _ (exec_load _ _ _ _ rfl rfl (loadRq 82 uReq sReq _ w.heap.size r vs vd RA.out)) ?_) | fail)
  refine A.out.mono ?_
  rintro e w2 ⟨k2, a, c, rfl, r2, n2⟩
  have K2 := hid (KA.out.trans k2)
  have R2 := hid r2
  have N2 := hid n2
  clear k2 r2 n2
  go_wp2_with fail
  go_ret2
  exact ⟨K2.out, a, c, rfl, R2.out, fun ad had => Nat.le_trans KA.out.size (N2.out ad had)⟩
set_option maxHeartbeats 3200000 in
theorem ntEncR_any (w : World) (r : Rp) (ve vm : Value) (he : LsAt KEnt w ve r.es) (hm : RowAt w vm r.mp) (hl : r.mp.length ≤ 35184372088832) (hn : ∀ x ∈ r.es, x.nm.size ≤ 35184372088832) :
    Calls Try.prog 37 #[rpV r ve vm] w (AtN w (encP r)) := by
  have hmf : ∀ (fn : Fn) (first cap : Array Value) (w : World), (Instr.makeFunc fn first cap).run Try.prog w = .ok (.func fn first cap) w := fun _ _ _ _ => rfl
  have ka : Keeps [] w (w.alloc (.cells (r.cells ve vm).toArray 73)) := (Keeps.refl [] w).alloc _
  have KA := hid ka
  have RA := hid (krange_new w (r.cells ve vm) 73)
  have A := hid (attN_any 77 #[rpV r ve vm] (w.alloc (.cells (r.cells ve vm).toArray 73)) (encP r) enters_encdR (fun W k => ntEncdR_any W r ve vm (he.keep (ka.trans k)) (hm.keep (ka.trans k) (by intro _ _ _ _ _; simp)) hl hn))
  obtain ⟨q, hq⟩ : ∃ z, z = encP r := ⟨_, rfl⟩
  rw [← hq] at A ⊢
  clear hq he hm hl hn ka
  go_enter Try.func37, Try.ntmps37
  go_wp2_with (first | (refine wpList_is rfl _ _ (exec_box 73 _ (r.cells ve vm).toArray rfl rfl) ?_) | (refine wpList_is rfl _ _ (exec_load _ _ _ _ rfl rfl (loadRp 73 uRep sRep _ w.heap.size r ve vm RA.out)) ?_) | fail)
  refine A.out.mono ?_
  rintro e w2 ⟨k2, a, c, rfl, r2, n2⟩
  have K2 := hid (KA.out.trans k2)
  have R2 := hid r2
  have N2 := hid n2
  clear k2 r2 n2
  go_wp2_with fail
  go_ret2
  exact ⟨K2.out, a, c, rfl, R2.out, fun ad had => Nat.le_trans KA.out.size (N2.out ad had)⟩
end Go.Proofs.Ytoglcohdanpciaa
