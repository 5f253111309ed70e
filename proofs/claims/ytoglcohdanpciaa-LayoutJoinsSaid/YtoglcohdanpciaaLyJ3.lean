/- LyH, LyI, LyK, LyL, LyN. -/
import Derived.Test.YtoglcohdanpciaaLyJ2
import Derived.Test.YtoglcohdanpciaaLyJ1
import Derived.Test.YtoglcohdanpciaaPyBack
import Derived.Test.YtoglcohdanpciaaKitH
/- layout: Read: the reader under the closure that catches what it gives up with. -/
namespace Go.Proofs.Ytoglcohdanpciaa
open Go.RowKit
set_option maxRecDepth 100000
set_option linter.unusedSimpArgs false
set_option linter.unusedVariables false

set_option maxHeartbeats 800000 in
theorem catchF_panicking (b : Nat) (why : Int) (y : Value) (older : List PanicEntry) (w : World) (hb : w.heap[b]? = some (.cells #[y] 23 (0, 0))) :
    CallsD Try.prog 108 #[.pointer (some ⟨b, 0, none⟩)] (.panicking ({ v := .iface 23 (.int .i64 why), recovered := false } :: older)) w fun e u' w' =>
      e = .returned (.tuple #[]) ∧ u' = .panicking ({ v := .iface 23 (.int .i64 why), recovered := true } :: older) ∧ w' = w.setCell ⟨b, 0, none⟩ (.int .i64 why) := by
  have c0 : w.cell? ⟨b, 0, none⟩ = some y := by simp [World.cell?, hb]
  have f0 : w.frozen? ⟨b, 0, none⟩ = false := by simp [World.frozen?, hb]
  have t1 := ta_hit
  refine callsD_of_wpS Try.func108 rfl fun c₀ cs hu => ?_
  simp only [Try.ntmps108, List.size_toArray, List.length_cons, List.length_nil, Nat.reduceAdd, Nat.reduceSub, Array.replicate_succ,
     Array.replicate_zero, List.push_toArray, List.append_toArray, List.nil_append, List.cons_append]
  have hrec : recoverD (c₀ :: cs) = some (.iface 23 (.int .i64 why), { c₀ with mode := .panicking ({ v := .iface 23 (.int .i64 why), recovered := true } :: older) } :: cs) := by
    simp only [recoverD, hu]
  refine wpS_recover_lit rfl rfl (Or.inl hrec) ?_
  simp only [Act.put]
  go_wp2_with fail
  exact ⟨rfl, _, rfl, .tuple #[], results_none rfl _ _ _, rfl, rfl, rfl⟩
set_option maxHeartbeats 800000 in
theorem catchF_idle (p : Addr) (w : World) :
    CallsD Try.prog 108 #[.pointer (some p)] .returning w fun e u' w' => e = .returned (.tuple #[]) ∧ u' = .returning ∧ w' = w := by
  have t1 := ta_nil
  refine callsD_of_wpS Try.func108 rfl fun c₀ cs hu => ?_
  simp only [Try.ntmps108, List.size_toArray, List.length_cons, List.length_nil, Nat.reduceAdd, Nat.reduceSub, Array.replicate_succ,
     Array.replicate_zero, List.push_toArray, List.append_toArray, List.nil_append, List.cons_append]
  have hrec : recoverD (c₀ :: cs) = none := by simp only [recoverD, hu]
  refine wpS_recover_lit rfl rfl (Or.inr ⟨hrec, rfl, rfl⟩) ?_
  simp only [Act.put]
  go_wp2_with fail
  refine ⟨rfl, .returning, ?_, .tuple #[], results_none rfl _ _ _, rfl, rfl, rfl⟩
  rw [← hu]

set_option maxHeartbeats 1600000 in
theorem readC_any (w : World) (b : Nat) (v : Value) (zs : List Int) (hb : w.cell? ⟨b, 0, none⟩ = some v) (h : RowAt w v zs) (hl : zs.length ≤ 35184372088832) :
    Calls Try.prog 61 #[.pointer (some ⟨b, 0, none⟩)] w (RdF w (readL zs)) := by
  obtain ⟨a, c, rfl, _⟩ := id h
  have KF := hid ((Keeps.refl [] w).alloc (.cells #[.int .i64 0, .int .i64 0, .int .i64 0, .int .i64 0, .int .i64 0, .int .i64 0, .slice none 0 0] 116))
  have FB := hid (heap_alloc_new w (.cells #[.int .i64 0, .int .i64 0, .int .i64 0, .int .i64 0, .int .i64 0, .int .i64 0, .slice none 0 0] 116))
  have HV := hid (h.keep KF.out (by intro _ _ _ _ _; simp))
  have hc := (KF.out).cell hb (by simp)
  obtain ⟨r, hr⟩ : ∃ r, r = readL zs := ⟨_, rfl⟩
  have A := fun W v (h : RowAt W v zs) => lread_head W v zs h hl
  rw [← hr] at A ⊢
  clear hr h hb
  go_enter Try.func61, Try.ntmps61
  go_wp2_with (first | (refine wpList_is rfl _ _ (exec_alloc 116 #[.int .i64 0, .int .i64 0, .int .i64 0, .int .i64 0, .int .i64 0, .int .i64 0, .slice none 0 0] iFrag rfl) ?_) | fail)
  refine (A _ _ HV.out).mono ?_
  rintro e w2 ⟨k2, q⟩
  have K2 := hid (KF.out.trans k2)
  have F2 := hid ((k2.block w.heap.size (by simp) (by simp)).trans FB.out)
  have SZ := hid (show w.heap.size < w2.heap.size by have := k2.size; rw [World.size_alloc] at this; omega)
  have S2 := hid k2.size
  clear k2 A hc
  rcases q with ⟨h0, a2, c2, rfl, r1, r2⟩ | ⟨h0, rfl⟩
  · have H0 := hid h0
    obtain ⟨q1, q2⟩ := setRow_keeps13 (cs := (r.1.cells ++ [Value.slice a2 r.2.1.length c2]).toArray) F2.out
    have Q1 := hid (range_cells q1)
    have Q2 := hid (K2.out.trans' q2 (fun i hi hm => by simp at hm; omega))
    have NN := hid (show ∀ ad, a2 = some ad → w.heap.size < ad.block from fun ad had => by have := r2 ad had; rw [World.size_alloc] at this; omega)
    have RR := hid (r1.keep q2 (by
      intro ad n c' e hne hm
      injection e with e _ _
      have := NN.out ad e
      simp at hm
      omega))
    clear q1 q2 r1 r2 h0
    go_wp2_with (first | (refine wpList_noval rfl _ (exec_storeFr _ _ rfl w.heap.size _ F2.out rfl rfl r.1 a2 r.2.1.length c2 rfl) ?_) | fail)
    refine bodyPost_ret (frag_ret rfl rfl Q1.out) rfl ?_
    exact ⟨Q2.out, Or.inl ⟨H0.out, a2, c2, rfl, RR.out, fun ad had => Nat.le_of_lt (NN.out ad had)⟩⟩
  · have H0 := hid h0
    clear h0
    unfold gaveUp
    go_wp2_with fail
    exact ⟨rfl, K2.out, Or.inr ⟨H0.out, rfl⟩⟩

/-- What the caller of attempt has. -/
def AtF (w : World) (r : Hd13 × List Int × Int) (e : Ending) (w' : World) : Prop :=
  Keeps [] w w' ∧ ∃ a c, e = .returned (.tuple #[frV r.1 (.slice a r.2.1.length c), .int .i64 r.2.2]) ∧ RowAt w' (.slice a r.2.1.length c) r.2.1 ∧ ∀ ad, a = some ad → w.heap.size ≤ ad.block
theorem readL_no {zs : List Int} (h : (readL zs).2.2 ≠ 0) : (readL zs).1 = hZ13 ∧ (readL zs).2.1 = [] := by
  unfold readL at h ⊢
  split
  · exact ⟨rfl, rfl⟩
  · rename_i h1
    rw [if_neg h1] at h
    split
    · rename_i h2
      rw [if_pos h2] at h
      exact absurd rfl h
    · exact ⟨rfl, rfl⟩
theorem loadErr13 {w : World} {a : Addr} {v : Value} (h : w.cell? a = some v) : (loadVar 23 a).run Try.prog w = .ok v w := by
  simp [loadVar, agg_no 23 (by kernel_rfl), h, Result.andThen]
theorem two_ret {fn : Func} {p q : Tmp} (hr : fn.results = #[.cell p 116, .cell q 23]) {tmps : Array Value} {w : World} {b d : Nat} {h : Hd13} {v : Value} {why : Int} (hp : tmps.getD p undef = .pointer (some ⟨b, 0, none⟩)) (hx : w.rangeAt b 0 (h.cells ++ [v]))
    (hq : tmps.getD q undef = .pointer (some ⟨d, 0, none⟩)) (hd : w.cell? ⟨d, 0, none⟩ = some (.int .i64 why)) : (results fn tmps).run Try.prog w = .ok (.tuple #[frV h v, .int .i64 why]) w := by
  have hp' : tmps[p]?.getD undef = .pointer (some ⟨b, 0, none⟩) := by simpa using hp
  have hq' : tmps[q]?.getD undef = .pointer (some ⟨d, 0, none⟩) := by simpa using hq
  have hv : (loadVar 116 ⟨b, 0, none⟩).run Try.prog w = .ok (frV h v) w := run_loadVar_mid w b 0 116 (h.cells ++ [v]) _ hx uFrag rfl (by rw [sFrag]; rfl)
  have hw : (loadVar 23 ⟨d, 0, none⟩).run Try.prog w = .ok (.int .i64 why) w := loadErr13 hd
  simp [results, hr, hp', hq', asAddr, hv, hw]

set_option maxHeartbeats 3200000 in
theorem attF_any (w : World) (b : Nat) (v : Value) (zs : List Int) (hb : w.cell? ⟨b, 0, none⟩ = some v) (h : RowAt w v zs) (hl : zs.length ≤ 35184372088832) :
    Calls Try.prog 60 #[.func (.func 61) #[] #[.pointer (some ⟨b, 0, none⟩)]] w (AtF w (readL zs)) := by
  have hmf : ∀ (fn : Fn) (first cap : Array Value) (w : World), (Instr.makeFunc fn first cap).run Try.prog w = .ok (.func fn first cap) w := fun _ _ _ _ => rfl
  have ka : Keeps [] w (w.alloc (.cells #[.int .i64 0, .int .i64 0, .int .i64 0, .int .i64 0, .int .i64 0, .int .i64 0, .slice none 0 0] 116)) := (Keeps.refl [] w).alloc _
  have kb : Keeps [] w ((w.alloc (.cells #[.int .i64 0, .int .i64 0, .int .i64 0, .int .i64 0, .int .i64 0, .int .i64 0, .slice none 0 0] 116)).alloc (.cells #[.int .i64 0] 23)) := ka.alloc _
  have EB := hid (heap_alloc_new (w.alloc (.cells #[.int .i64 0, .int .i64 0, .int .i64 0, .int .i64 0, .int .i64 0, .int .i64 0, .slice none 0 0] 116)) (.cells #[.int .i64 0] 23))
  rw [World.size_alloc] at EB
  have FB : Hid (((w.alloc (.cells #[.int .i64 0, .int .i64 0, .int .i64 0, .int .i64 0, .int .i64 0, .int .i64 0, .slice none 0 0] 116)).alloc (.cells #[.int .i64 0] 23)).heap[w.heap.size]? = some (.cells #[.int .i64 0, .int .i64 0, .int .i64 0, .int .i64 0, .int .i64 0, .int .i64 0, .slice none 0 0] 116 (0, 0))) :=
    hid ((((Keeps.refl [] _).alloc _).block w.heap.size (by simp) (by simp)).trans (heap_alloc_new w _))
  have KB := hid kb
  have HV := hid (h.keep kb (by intro _ _ _ _ _; simp))
  have hc := hid (kb.cell hb (by simp))
  have NO := hid (@readL_no zs)
  obtain ⟨r, hr⟩ : ∃ r, r = readL zs := ⟨_, rfl⟩
  have A := fun W (b : Nat) (hb : W.cell? ⟨b, 0, none⟩ = some v) (h : RowAt W v zs) => readC_any W b v zs hb h hl
  rw [← hr] at A NO ⊢
  clear hr h hb ka kb
  go_enter_defers Try.func60, Try.ntmps60
  go_wp2_with (first | (refine wpList_is rfl _ _ (exec_alloc 116 #[.int .i64 0, .int .i64 0, .int .i64 0, .int .i64 0, .int .i64 0, .int .i64 0, .slice none 0 0] iFrag rfl) ?_) | fail)
  refine (A _ b hc.out HV.out).mono ?_
  rintro e w2 ⟨k2, q⟩
  have K2 := hid (KB.out.trans k2)
  have F2 := hid ((k2.block w.heap.size (by simp; omega) (by simp)).trans FB.out)
  have E2 := hid ((k2.block (w.heap.size + 1) (by simp) (by simp)).trans EB.out)
  have SZ := hid (show w.heap.size + 1 < w2.heap.size by have := k2.size; simp at this; omega)
  clear k2 A hc
  rcases q with ⟨h0, a2, c2, rfl, r1, r2⟩ | ⟨h0, rfl⟩
  · have H0 := hid h0
    obtain ⟨q1, q2⟩ := setRow_keeps13 (cs := (r.1.cells ++ [Value.slice a2 r.2.1.length c2]).toArray) F2.out
    have NN := hid (show ∀ ad, a2 = some ad → w.heap.size + 1 < ad.block from fun ad had => by have := r2 ad had; simp at this; omega)
    have E3 := hid ((q2.block (w.heap.size + 1) SZ.out (by simp)).trans E2.out)
    have Q1 := hid q1
    have Q2 := hid (K2.out.trans' q2 (fun i hi hm => by simp at hm; omega))
    have RR := hid (r1.keep q2 (by
      intro ad n c' e hne hm
      injection e with e _ _
      have := NN.out ad e
      simp at hm
      omega))
    obtain ⟨w3, hw3⟩ : ∃ x, x = w2.setRow w.heap.size (r.1.cells ++ [Value.slice a2 r.2.1.length c2]).toArray := ⟨_, rfl⟩
    rw [← hw3] at E3 Q1 Q2 RR
    have HW3 := hid hw3
    obtain ⟨cc, ff⟩ := five_cells E3.out 0
    simp only [List.getElem?_toArray, List.getElem?_cons_zero] at cc
    clear q1 q2 r1 r2 h0 hw3
    go_wp2_with (first | (refine wpList_noval rfl _ (exec_storeFr _ _ rfl w.heap.size _ F2.out rfl rfl r.1 a2 r.2.1.length c2 rfl) ?_; rw [← HW3.out]) | fail)
    refine leaves_cons (f := 108) (args := #[.pointer (some ⟨w.heap.size + 1, 0, none⟩)]) (by simp) (by simp [go_sem]) ?_
    refine (catchF_idle _ _).mono ?_
    rintro e u' w4 ⟨rfl, rfl, rfl⟩
    have sk : Keeps [w.heap.size + 1] w3 (w3.setCell ⟨w.heap.size + 1, 0, none⟩ (.int .i64 0)) := set_keep
    have LT := lt_of_block Q1.out
    have LE := lt_of_block E3.out
    have q1 := (sk.block w.heap.size LT (by simp)).trans Q1.out
    have q3 := set_five (i := 0) E3.out (.int .i64 0)
    refine ⟨_, two_ret (h := r.1) (v := .slice a2 r.2.1.length c2) (why := 0) rfl rfl (range_cells (cs := r.1.cells ++ [Value.slice a2 r.2.1.length c2]) q1) rfl (five_cells q3 0).1, Q2.out.trans' sk (fun i hi hm => by simp at hm; omega), a2, c2, ?_, ?_, fun ad had => by have := NN.out ad had; omega⟩
    · rw [H0.out]
    · exact RR.out.keep sk (by
        intro ad n c' e hne hm
        injection e with e _ _
        have := NN.out ad e
        simp at hm
        omega)
  · have H0 := hid h0
    clear h0
    unfold gaveUp
    go_wp2_with fail
    refine leaves_cons (f := 108) (args := #[.pointer (some ⟨w.heap.size + 1, 0, none⟩)]) (by simp) (by simp [go_sem]) ?_
    refine (catchF_panicking (w.heap.size + 1) _ _ [] w2 E2.out).mono ?_
    rintro e u' w4 ⟨rfl, rfl, rfl⟩
    have sk : Keeps [w.heap.size + 1] w2 (w2.setCell ⟨w.heap.size + 1, 0, none⟩ (.int .i64 r.2.2)) := set_keep
    have q1 := (sk.block w.heap.size (by have := SZ.out; omega) (by simp)).trans F2.out
    have q3 := set_five (i := 0) E2.out (.int .i64 r.2.2)
    obtain ⟨n1, n2⟩ := NO.out H0.out
    refine ⟨_, two_ret (h := hZ13) (v := .slice none 0 0) rfl rfl (range_cells (cs := hZ13.cells ++ [Value.slice none 0 0]) q1) rfl (five_cells q3 0).1, K2.out.trans' sk (fun i hi hm => by simp at hm; omega), none, 0, ?_, ?_, by simp⟩
    · rw [n1, n2]; rfl
    · rw [n2]; exact RowAt.nil _
end Go.Proofs.Ytoglcohdanpciaa


/- layout: Read, of the code. -/
namespace Go.Proofs.Ytoglcohdanpciaa
open Go.RowKit
set_option maxRecDepth 100000
set_option linter.unusedSimpArgs false
set_option linter.unusedVariables false

theorem exec_storeHd {ρ : Operand → Value} {o : Oper} {w : World} (x y : Operand) (ho : o.op = .store 33 x y) (g : Nat) (cur : Array Value) (hb : w.heap[g]? = some (.cells cur 33 (0, 0))) (hsz : cur.size = 6) (hx : ρ x = .pointer (some ⟨g, 0, none⟩))
    (h : Hd13) (hy : ρ y = hdV13 h) : (execOp ρ o).run Try.prog w = .ok .skip (w.setRow g h.cells.toArray) := by
  have hst := run_storeCells_at Try.prog g 0 33 h.cells 0 cur w hb (by simp [Hd13.cells, hsz]) (fun v hv => by
    simp [Hd13.cells] at hv
    rcases hv with rfl | rfl | rfl | rfl | rfl | rfl <;> rfl)
  have e4 : h.cells.length = 6 := rfl
  have e6 : cur.toList.drop 6 = [] := List.drop_of_length_le (by simp [hsz])
  simp only [Nat.zero_add, e4, List.take_zero, List.nil_append, e6, List.append_nil] at hst
  have e3 : (hdV13 h).cells = h.cells.toArray := rfl
  have e5 : h.cells.toArray.size = 6 := rfl
  have hs : (sizeOf 33).run Try.prog w = .ok 6 w := by
    have := sHead
    cases hq : Try.prog.info? 33 with
    | none => simp [hq] at this
    | some i => simp [hq] at this; simp [sizeOf, typeInfo, hq, this]
  have hr : (Instr.storeAt 33 (.pointer (some ⟨g, 0, none⟩)) (hdV13 h)).run Try.prog w = .ok () (w.setRow g h.cells.toArray) := by
    simp only [Instr.storeAt, Instr.sureAddr, Sem.run_bind, Sem.run_pure, Result.andThen_ok, storeVar]
    simp [hs, e3, e4, e5, hst, Result.andThen]
  unfold execOp
  simp only [ho, hx, hy, hr, Sem.run_bind, Result.andThen_ok]
  rfl
theorem hd_one (h : Hd13) : (#[Value.int .i64 h.s.c, .int .i64 h.s.l, .int .i64 h.s.n, .int .i64 h.i, .int .i64 h.n, .int .i64 h.z] : Array Value).all (·.oneCell') = true := by simp [Value.oneCell']
theorem hd_ret {w : World} {b : Nat} {h : Hd13} (hx : w.rangeAt b 0 h.cells) : (loadVar 33 ⟨b, 0, none⟩).run Try.prog w = .ok (hdV13 h) w :=
  run_loadVar_mid w b 0 33 h.cells _ hx uHead rfl (by rw [sHead]; rfl)
theorem exec_asg {ρ : Operand → Value} {o : Oper} {w : World} {v : Value} (x : Operand) (ho : o.op = .assign x) (hx : ρ x = v) : (execOp ρ o).run Try.prog w = .ok (.value v) w := by
  simp [execOp, ho, hx]
theorem rd_ret {fn : Func} {p q s : Tmp} (hr : fn.results = #[.cell p 33, .tmp q, .tmp s]) {tmps : Array Value} {w : World} {b : Nat} {x y z : Value} (hp : tmps.getD p undef = .pointer (some ⟨b, 0, none⟩)) (hx : (loadVar 33 ⟨b, 0, none⟩).run Try.prog w = .ok x w)
    (hq : tmps.getD q undef = y) (hs : tmps.getD s undef = z) : (results fn tmps).run Try.prog w = .ok (.tuple #[x, y, z]) w := by
  have hp' : tmps[p]?.getD undef = .pointer (some ⟨b, 0, none⟩) := by simpa using hp
  have hq' : tmps[q]?.getD undef = y := by simpa using hq
  have hs' : tmps[s]?.getD undef = z := by simpa using hs
  simp [results, hr, hp', hq', hs', asAddr, hx]
/-- What Read answers. -/
def ReadPost13 (w : World) (r : Hd13 × List Int × Int) (e : Ending) (w' : World) : Prop :=
  Keeps [] w w' ∧ ∃ a c, e = .returned (.tuple #[hdV13 r.1, .slice a r.2.1.length c, .int .i64 r.2.2]) ∧ RowAt w' (.slice a r.2.1.length c) r.2.1 ∧ ∀ ad, a = some ad → w.heap.size ≤ ad.block
set_option maxHeartbeats 6400000 in
theorem lRead_any (w : World) (v : Value) (zs : List Int) (h : RowAt w v zs) (hl : zs.length ≤ 35184372088832) :
    Calls Try.prog 19 #[v] w (ReadPost13 w (readL zs)) := by
  obtain ⟨va, vc, rfl, _⟩ := id h
  have ka : Keeps [] w (w.alloc (.cells #[.slice va zs.length vc] 34)) := (Keeps.refl [] w).alloc _
  have kb : Keeps [] w ((w.alloc (.cells #[.slice va zs.length vc] 34)).alloc (.cells #[.int .i64 0, .int .i64 0, .int .i64 0, .int .i64 0, .int .i64 0, .int .i64 0] 33)) := ka.alloc _
  have HB := hid (heap_alloc_new (w.alloc (.cells #[.slice va zs.length vc] 34)) (.cells #[.int .i64 0, .int .i64 0, .int .i64 0, .int .i64 0, .int .i64 0, .int .i64 0] 33))
  rw [World.size_alloc] at HB
  have cb : ((w.alloc (.cells #[.slice va zs.length vc] 34)).alloc (.cells #[.int .i64 0, .int .i64 0, .int .i64 0, .int .i64 0, .int .i64 0, .int .i64 0] 33)).cell? ⟨w.heap.size, 0, none⟩ = some (.slice va zs.length vc) :=
    ((Keeps.refl [] _).alloc _).cell (five_cells (heap_alloc_new w (.cells #[.slice va zs.length vc] 34)) 0).1 (by simp)
  have KB := hid kb
  have A := attF_any _ w.heap.size _ zs cb (h.keep kb (by intro _ _ _ _ _; simp)) hl
  obtain ⟨r, hr⟩ : ∃ r, r = readL zs := ⟨_, rfl⟩
  have hmf : ∀ (fn : Fn) (first cap : Array Value) (w : World), (Instr.makeFunc fn first cap).run Try.prog w = .ok (.func fn first cap) w := fun _ _ _ _ => rfl
  rw [← hr] at A ⊢
  clear hr h ka kb cb
  go_enter Try.func19, Try.ntmps19
  go_wp2_with (first | (refine wpList_is rfl _ _ (exec_alloc 33 #[.int .i64 0, .int .i64 0, .int .i64 0, .int .i64 0, .int .i64 0, .int .i64 0] iHead rfl) ?_) | fail)
  refine A.mono ?_
  rintro e w2 ⟨k2, a, c, rfl, r1, r2⟩
  have K2 := hid (KB.out.trans k2)
  have H2 := hid ((k2.block (w.heap.size + 1) (by simp) (by simp)).trans HB.out)
  have SZ := hid (show w.heap.size + 1 < w2.heap.size by have := k2.size; simp at this; omega)
  have NN := hid (show ∀ ad, a = some ad → w.heap.size + 1 < ad.block from fun ad had => by have := r2 ad had; simp at this; omega)
  have kc : Keeps [] w2 (w2.alloc (.cells (r.1.cells ++ [Value.slice a r.2.1.length c]).toArray 116)) := (Keeps.refl [] w2).alloc _
  have KC := hid kc
  have FB := hid (heap_alloc_new w2 (.cells (r.1.cells ++ [Value.slice a r.2.1.length c]).toArray 116))
  have R2 := hid (r1.keep kc (by intro _ _ _ _ _; simp))
  have H3 := hid ((kc.block (w.heap.size + 1) SZ.out (by simp)).trans H2.out)
  clear A k2 r1 r2 kc
  go_wp2_with (first | (refine wpList_is rfl _ _ (exec_alloc 116 #[.int .i64 0, .int .i64 0, .int .i64 0, .int .i64 0, .int .i64 0, .int .i64 0, .slice none 0 0] iFrag rfl) ?_) | (refine wpList_noval rfl _ (exec_storeNew 116 _ _ rfl w2 #[.int .i64 0, .int .i64 0, .int .i64 0, .int .i64 0, .int .i64 0, .int .i64 0, .slice none 0 0] (r.1.cells ++ [Value.slice a r.2.1.length c]).toArray rfl rfl rfl iFrag rfl (frag_one r.1 a r.2.1.length c)) ?_) | fail)
  obtain ⟨w3, hw3⟩ : ∃ x, x = w2.alloc (.cells (r.1.cells ++ [Value.slice a r.2.1.length c]).toArray 116) := ⟨_, rfl⟩
  rw [← hw3] at KC FB R2 H3 ⊢
  obtain ⟨f, hf⟩ : ∃ f, f = w2.heap.size := ⟨_, rfl⟩
  rw [← hf] at FB ⊢
  have SF := hid (show f < w3.heap.size by rw [hf, hw3]; simp)
  have SF2 := hid (show w.heap.size + 1 < f by have := SZ.out; omega)
  clear hw3
  have RC := hid (range_cells (cs := r.1.cells ++ [Value.slice a r.2.1.length c]) FB.out)
  have cH := hid (show ∀ W1, KpS [w.heap.size + 1] w3.heap.size w3.drew W1 → W1.rangeAt f 0 r.1.cells from fun W1 h i u hu => h.cell (by rw [World.cell?_drew]; exact range_fst (k := 6) RC.out i u hu) SF.out (by have := SF2.out; simp; omega))
  have cR := hid (show ∀ W1, KpS [w.heap.size + 1] w3.heap.size w3.drew W1 → W1.cell? ⟨f, 6, none⟩ = some (.slice a r.2.1.length c) from fun W1 h => h.cell (by rw [World.cell?_drew]; exact (five_cells FB.out 6).1) SF.out (by have := SF2.out; simp; omega))
  refine wp_region_any (by kernel_rfl) (wpAny_of_held (S := KpS [w.heap.size + 1] w3.heap.size w3.drew) _ _ _ _ ?_)
  change wpAnyH _ _ _ _ _ _ _ _ w3.drew
  have s0 : KpS [w.heap.size + 1] w3.heap.size w3.drew w3.drew := KpS.refl _ _ _
  refine held_take (i := 0) (v := .pointer (some ⟨f, 0, none⟩)) rfl (by kernel_rfl) (by kernel_rfl) (by kernel_rfl) (fun _ _ _ h => h) rfl (fun W1 hW1 => by go_simp) (KpS.refl _ _ _) ?_
  simp only [Act.put, List.setIfInBounds_toArray, List.set_cons_zero, List.set_cons_succ]
  refine held_take (i := 2) (v := .pointer (some ⟨f, 6, none⟩)) rfl (by kernel_rfl) (by kernel_rfl) (by kernel_rfl) (fun _ _ _ h => h) rfl (fun W1 hW1 => by go_simp) (KpS.refl _ _ _) ?_
  simp only [Act.put, List.setIfInBounds_toArray, List.set_cons_zero, List.set_cons_succ]
  refine held_take (i := 1) (v := hdV13 r.1) rfl (by kernel_rfl) (by kernel_rfl) (by kernel_rfl) (fun _ _ _ h => h) rfl (fun W1 hW1 => exec_load _ _ _ _ rfl rfl (loadHd W1 f 0 _ (cH.out W1 hW1))) (KpS.refl _ _ _) ?_
  simp only [Act.put, List.setIfInBounds_toArray, List.set_cons_zero, List.set_cons_succ]
  refine held_take (i := 3) (v := .slice a r.2.1.length c) rfl (by kernel_rfl) (by kernel_rfl) (by kernel_rfl) (fun _ _ _ h => h) rfl (fun W1 hW1 => exec_load _ _ _ _ rfl rfl (run_loadCell W1 _ _ _ (cR.out W1 hW1) (agg_no _ (by kernel_rfl)))) (KpS.refl _ _ _) ?_
  simp only [Act.put, List.setIfInBounds_toArray, List.set_cons_zero, List.set_cons_succ]
  refine held_take (i := 4) (v := .int .i64 r.2.2) rfl (by kernel_rfl) (by kernel_rfl) (by kernel_rfl) (fun _ _ _ h => h) rfl (fun W1 hW1 => by go_simp) (KpS.refl _ _ _) ?_
  simp only [Act.put, List.setIfInBounds_toArray, List.set_cons_zero, List.set_cons_succ]
  have H4 : w3.drew.heap[w.heap.size + 1]? = some (.cells #[.int .i64 0, .int .i64 0, .int .i64 0, .int .i64 0, .int .i64 0, .int .i64 0] 33 (0, 0)) := H3.out
  obtain ⟨q1, q2⟩ := setRow_keeps13 (cs := r.1.cells.toArray) H4
  have k5 : KpS [w.heap.size + 1] w3.heap.size w3.drew (w3.drew.setRow (w.heap.size + 1) r.1.cells.toArray) := KpS.keeps s0 q2 (Nat.le_refl _) (fun i hi _ => hi)
  refine held_do (i := 5) (by kernel_rfl) rfl rfl (wp_stored (exec_storeHd _ _ rfl (w.heap.size + 1) _ H4 rfl rfl r.1 rfl) ⟨k5, ?_⟩)
  simp only [Act.put, List.setIfInBounds_toArray, List.set_cons_zero, List.set_cons_succ]
  refine held_take (i := 6) (v := .slice a r.2.1.length c) rfl (by kernel_rfl) (by kernel_rfl) (by kernel_rfl) (fun _ _ _ h => h) rfl (fun W1 hW1 => exec_asg _ rfl rfl) (k5) ?_
  simp only [Act.put, List.setIfInBounds_toArray, List.set_cons_zero, List.set_cons_succ]
  refine held_take (i := 7) (v := .int .i64 r.2.2) rfl (by kernel_rfl) (by kernel_rfl) (by kernel_rfl) (fun _ _ _ h => h) rfl (fun W1 hW1 => exec_asg _ rfl rfl) (k5) ?_
  simp only [Act.put, List.setIfInBounds_toArray, List.set_cons_zero, List.set_cons_succ]
  refine wpAnyH_done (by kernel_rfl) ?_ _
  have Q1 := hid (range_cells q1)
  have Q2 := hid ((K2.out.trans KC.out).drew.trans' q2 (fun i hi hm => by simp at hm; omega))
  have RR := hid ((R2.out.keep ((Keeps.refl [] w3).drew) (by intro _ _ _ _ _; simp)).keep q2 (by
    intro ad n c' e hne hm
    injection e with e _ _
    have := NN.out ad e
    simp at hm
    omega))
  clear q1 q2 H4 s0 k5
  generalize w3.drew.setRow (w.heap.size + 1) _ = w4 at Q1 Q2 RR ⊢
  have HV := hd_ret Q1.out
  go_wp2_with fail
  refine bodyPost_ret (v := .tuple #[hdV13 r.1, .slice a r.2.1.length c, .int .i64 r.2.2]) (rd_ret rfl rfl HV rfl rfl) rfl ?_
  exact ⟨Q2.out, a, c, rfl, RR.out, fun ad had => by have := NN.out ad had; omega⟩
end Go.Proofs.Ytoglcohdanpciaa


/- layout: rows are gathered by a closure. -/
namespace Go.Proofs.Ytoglcohdanpciaa
open Go.RowKit Go.Shelf
set_option maxRecDepth 100000
set_option linter.unusedSimpArgs false
set_option linter.unusedVariables false

/-- What a closure leaves that is asked for its k-th row: the row, in none of the blocks that it writes into (F') nor in g; or it gave up. -/
def CPost (g : Nat) (I : Nat → List Nat → World → Prop) (rows : Nat → List Int) (bad : Nat → Prop) (k : Nat) (F : List Nat) (W : World) (e : Ending) (W' : World) : Prop :=
  (∃ v F', e = .returned v ∧ RowAt W' v (rows k) ∧ (rows k).length ≤ 140737488351232 ∧ Off (g :: F') v (rows k) ∧ Keeps F W W' ∧ I (k + 1) F' W' ∧ (∀ b ∈ F', b ∈ F ∨ W.heap.size ≤ b) ∧ ¬ bad k) ∨ (bad k ∧ e = gaveUp 4 ∧ Keeps F W W')
/-- Rows that lie in a block of their heads, in none of the blocks F. -/
structure HeadsAt (w : World) (g : Nat) (F : List Nat) (vs : List Value) (ls : List (List Int)) : Prop where
  len : vs.length = ls.length
  row : ∀ j (h : j < vs.length), RowAt w vs[j] (ls.getD j [])
  few : ∀ l ∈ ls, l.length ≤ 140737488351232
  off : ∀ j (h : j < vs.length), Off (g :: F) vs[j] (ls.getD j [])
def GPost (w : World) (F0 : List Nat) (I : Nat → List Nat → World → Prop) (rows : Nat → List Int) (bad : Nat → Prop) (n : Nat) (e : Ending) (w' : World) : Prop :=
  Keeps F0 w w' ∧ ((∃ F vs, e = .returned (.slice (some ⟨w.heap.size, 0, none⟩) n n) ∧ w'.heap[w.heap.size]? = some (.cells vs.toArray 34 (0, 0)) ∧ HeadsAt w' w.heap.size F vs ((List.range n).map rows) ∧ I n F w' ∧ (∀ b ∈ F, b ∈ F0 ∨ w.heap.size < b) ∧ ∀ k, k < n → ¬ bad k) ∨ ((∃ k, k < n ∧ bad k) ∧ e = gaveUp 4))
theorem rows_make (w : World) (n : Nat) (h1 : n ≤ 16) : (Instr.makeSlice 26 (.int .i64 (n : Int)) (.int .i64 (n : Int))).run Try.prog w = .ok (.slice (some ⟨w.heap.size, 0, none⟩) n n) (w.alloc (.cells (madeCells #[.slice none 0 0] n) 34)) :=
  run_make_row' (P := Try.prog) 26 34 (.slice none 0 0) 24 Try.underlying26 info25 rfl .i64 .i64 n (by omega) (by omega) w
theorem made_rows (n : Nat) : madeCells #[Value.slice none 0 0] n = (([] : List Value) ++ List.replicate (n - 0) (Value.slice none 0 0)).toArray := by
  apply Array.toList_inj.1
  rw [toList_madeCells_one]
  simp
theorem HeadsAt.keep {w w' : World} {g : Nat} {F F' M : List Nat} {vs : List Value} {ls : List (List Int)} (h : HeadsAt w g F vs ls) (k : Keeps M w w') (hM : ∀ b ∈ M, b ∈ g :: F) (hF : ∀ b ∈ F', b ∈ g :: F ∨ w.heap.size ≤ b) : HeadsAt w' g F' vs ls :=
  ⟨h.len, fun j hj => (h.row j hj).keep k (fun ad n c e hne hm => h.off j hj ad n c e hne (hM _ hm)), h.few, fun j hj ad n c e hne hm => by
    have h1 := h.off j hj ad n c e hne
    simp only [List.mem_cons] at hm
    rcases hm with hm | hm
    · exact h1 (by simp [hm])
    · rcases hF _ hm with hm | hm
      · exact h1 hm
      · have hpos : 0 < (ls.getD j []).length := List.length_pos_iff.2 hne
        obtain ⟨g2, off, cap, he, _, hc⟩ := (h.row j hj).open hpos
        rw [e] at he
        injection he with he _ _
        injection he with he
        have := World.block_lt_of_cell? _ _ (hc 0 hpos)
        rw [he] at hm
        simp at hm this
        omega⟩
theorem HeadsAt.snoc {w : World} {g : Nat} {F : List Nat} {vs : List Value} {ls : List (List Int)} {v : Value} {zs : List Int} (h : HeadsAt w g F vs ls) (hr : RowAt w v zs) (hl : zs.length ≤ 140737488351232) (ho : Off (g :: F) v zs) : HeadsAt w g F (vs ++ [v]) (ls ++ [zs]) := by
  have hlen := h.len
  refine ⟨by simp [hlen], fun j hj => ?_, fun l hl' => ?_, fun j hj => ?_⟩
  · rw [List.getElem_append]
    split
    · rename_i hj'
      rw [List.getD_eq_getElem?_getD, List.getElem?_append_left (by omega), ← List.getD_eq_getElem?_getD]
      exact h.row j hj'
    · rename_i hj'
      have : j = vs.length := by simp at hj; omega
      subst this
      rw [List.getD_eq_getElem?_getD, List.getElem?_append_right (by omega)]
      simpa [hlen] using hr
  · rcases List.mem_append.1 hl' with hl' | hl'
    · exact h.few l hl'
    · simp at hl'; subst hl'; exact hl
  · rw [List.getElem_append]
    split
    · rename_i hj'
      rw [List.getD_eq_getElem?_getD, List.getElem?_append_left (by omega), ← List.getD_eq_getElem?_getD]
      exact h.off j hj'
    · rename_i hj'
      have : j = vs.length := by simp at hj; omega
      subst this
      rw [List.getD_eq_getElem?_getD, List.getElem?_append_right (by omega)]
      simpa [hlen] using ho
set_option maxHeartbeats 6400000 in
theorem gather_any (gf : Nat) (lb : Array Value) (n : Nat) (w : World) (F0 : List Nat) (I : Nat → List Nat → World → Prop) (rows : Nat → List Int) (bad : Nat → Prop) (hgf : Enters Try.prog gf) (h1 : 1 ≤ n) (h16 : n ≤ 16)
    (hF : ∀ b ∈ F0, b < w.heap.size) (h0 : I 0 F0 w) (hI : ∀ k F W W', I k F W → Keeps [w.heap.size] W W' → I k F W')
    (hc : ∀ k F W, k < n → I k F W → w.heap.size < W.heap.size → (∀ b ∈ F, b ∈ F0 ∨ w.heap.size < b) → Calls Try.prog gf (#[.int .i64 (k : Int)] ++ lb) W (CPost w.heap.size I rows bad k F W)) :
    Calls Try.prog 54 #[.int .i64 (n : Int), .func (.func gf) #[] lb] w (GPost w F0 I rows bad n) := by
  have HC := hid hc
  have HI := hid hI
  have HF := hid hF
  have HMK := hid (rows_make w n h16)
  have ka : Keeps [] w (w.alloc (.cells (madeCells #[.slice none 0 0] n) 34)) := (Keeps.refl [] w).alloc _
  have KA := hid (ka.mono (S' := F0) (by simp))
  have I0 := hid (hI 0 F0 _ _ h0 (ka.mono (by simp)))
  have G0 : Hid ((w.alloc (.cells (madeCells #[.slice none 0 0] n) 34)).heap[w.heap.size]? = some (.cells ((([] : List Value) ++ List.replicate (n - 0) (Value.slice none 0 0)).toArray) 34 (0, 0))) := hid (by rw [← made_rows]; exact heap_alloc_new w _)
  have S0 := hid (show w.heap.size < (w.alloc (.cells (madeCells #[.slice none 0 0] n) 34)).heap.size by simp)
  clear hc hI hF h0 ka
  have mk := HMK.out
  go_enter Try.func54, Try.ntmps54
  go_wp2_with fail
  clear mk
  go_loopw [11] (fun iv wr => ∃ (k : Nat) (F : List Nat) (vs : List Value), k ≤ n ∧ iv = .int .i64 (k : Int) ∧ Hid (vs.length = k) ∧ Hid (wr.heap[w.heap.size]? = some (.cells (vs ++ List.replicate (n - k) (Value.slice none 0 0)).toArray 34 (0, 0))) ∧ Hid (HeadsAt wr w.heap.size F vs ((List.range k).map rows)) ∧ Hid (I k F wr) ∧ Hid (Keeps F0 w wr) ∧ Hid (∀ b ∈ F, b ∈ F0 ∨ w.heap.size < b) ∧ Hid (∀ j, j < k → ¬ bad j)) (fun iv _ => n - (intOf iv).toNat)
  case atStart => exact ⟨0, F0, [], by omega, rfl, hid rfl, G0, hid ⟨rfl, by simp, by simp, by simp⟩, I0, KA, hid (fun b hb => Or.inl hb), hid (fun j hj => absurd hj (Nat.not_lt_zero _))⟩
  case round =>
    obtain ⟨k, F, vs, hk, rfl, HL, HG, HH, HIk, HK, HFn, HNB⟩ := hrel
    by_cases hlt : k < n
    · have LG := hid (lt_of_block HG.out)
      have A := HC.out k F wr hlt HIk.out LG.out HFn.out
      have HGF := hid hgf
      go_wp2_with fail
      rw [HGF.out, Oper.upon_enter]
      refine A.mono ?_
      clear A
      rintro e w2 (⟨v, F', rfl, q1, q2, q3, q4, q5, q6, q7⟩ | ⟨q1, rfl, q4⟩)
      · obtain ⟨va, vn, vc, rfl⟩ : ∃ a n c, v = .slice a n c := by obtain ⟨a, c, e, _⟩ := q1; exact ⟨a, _, c, e⟩
        have Q1 := hid q1
        have Q2 := hid q2
        have Q3 := hid q3
        have Q4 := hid q4
        have Q5 := hid q5
        have Q6 := hid q6
        have Q7 := hid q7
        have gF : w.heap.size ∉ F := fun hm => by
          rcases HFn.out _ hm with h | h
          · exact absurd (HF.out _ h) (by omega)
          · omega
        have G2 := hid ((q4.block w.heap.size LG.out gF).trans HG.out)
        have L2 := hid (Nat.lt_of_lt_of_le LG.out q4.size)
        have hsz : (vs ++ List.replicate (n - k) (Value.slice none 0 0)).length = n := by rw [List.length_append, List.length_replicate, HL.out]; omega
        obtain ⟨cc, ff⟩ := five_cells G2.out k
        have cc2 : w2.cell? ⟨w.heap.size, k, none⟩ = some (.slice none 0 0) := by
          rw [cc]
          have hlen := HL.out
          simp only [List.getElem?_toArray]
          rw [List.getElem?_append_right (by omega), hlen, Nat.sub_self, List.getElem?_replicate, if_pos (by omega)]
        have jj := set_five (i := k) G2.out (.slice va vn vc)
        have hset : ((vs ++ List.replicate (n - k) (Value.slice none 0 0)).toArray.setIfInBounds k (.slice va vn vc)) = ((vs ++ [Value.slice va vn vc]) ++ List.replicate (n - (k + 1)) (Value.slice none 0 0)).toArray := by
          have hlen := HL.out
          rw [List.setIfInBounds_toArray, List.set_append_right _ _ (by omega), hlen, Nat.sub_self, show n - k = (n - (k + 1)) + 1 by omega, List.replicate_succ, List.set_cons_zero, List.append_assoc]
          rfl
        rw [hset] at jj
        have J := hid jj
        have sk : Keeps [w.heap.size] w2 (w2.setCell ⟨w.heap.size, k, none⟩ (.slice va vn vc)) := set_keep
        have SK := hid sk
        clear q1 q2 q3 q4 q5 q6 q7 cc jj hset sk hsz gF
        go_wp2_with fail
        go_roundw
        case rel =>
          have hK1 : Keeps F0 w (w2.setCell ⟨w.heap.size, k, none⟩ (.slice va vn vc)) := (HK.out.trans' Q4.out (fun i hi hm => by
            rcases HFn.out _ hm with h | h
            · exact h
            · omega)).trans' SK.out (fun i hi hm => by simp at hm; omega)
          have hHs : HeadsAt (w2.setCell ⟨w.heap.size, k, none⟩ (.slice va vn vc)) w.heap.size F' (vs ++ [Value.slice va vn vc]) ((List.range (k + 1)).map rows) := by
            rw [List.range_succ, List.map_append, List.map_cons, List.map_nil]
            have h2 := HH.out.keep (F' := F') Q4.out (fun b hb => by simp [hb]) (fun b hb => by
              rcases Q6.out b hb with h | h
              · exact .inl (by simp [h])
              · exact .inr h)
            exact (h2.snoc Q1.out Q2.out Q3.out).keep SK.out (fun b hb => by simp at hb; simp [hb]) (fun b hb => .inl (by simp [hb]))
          exact ⟨k + 1, F', vs ++ [Value.slice va vn vc], by omega, by go_num, hid (by simp [HL.out]), J, hid hHs, hid (HI.out _ _ _ _ Q5.out SK.out), hid hK1, hid (fun b hb => by
            rcases Q6.out b hb with h | h
            · exact HFn.out b h
            · exact .inr (by have := LG.out; omega)), hid (fun j hj => by
            rcases Nat.lt_or_ge j k with h | h
            · exact HNB.out j h
            · obtain rfl : j = k := by omega
              exact Q7.out)⟩
        case measure => simp [intOf]; omega
      · have Q1 := hid q1
        have Q4 := hid q4
        clear q1 q4
        unfold gaveUp
        go_wp2_with fail
        exact ⟨rfl, HK.out.trans' Q4.out (fun i hi hm => by
            rcases HFn.out _ hm with h | h
            · exact h
            · omega), .inr ⟨⟨k, hlt, Q1.out⟩, rfl⟩⟩
    · obtain rfl : k = n := by omega
      go_wp2_with fail
      go_ret
      refine ⟨HK.out, .inl ⟨F, vs, rfl, ?_, HH.out, HIk.out, HFn.out, HNB.out⟩⟩
      have := HG.out
      rw [Nat.sub_self, List.replicate_zero, List.append_nil] at this
      exact this
end Go.Proofs.Ytoglcohdanpciaa


/- layout: rows of rows in memory; Cut's two closures. -/
namespace Go.Proofs.Ytoglcohdanpciaa
open Go.RowKit Go.Shelf
set_option maxRecDepth 100000
set_option linter.unusedSimpArgs false
set_option linter.unusedVariables false

/-- A slice of rows: what they hold. -/
def RsAt (w : World) (v : Value) (ls : List (List Int)) : Prop := ∃ rs : List (El w), raws rs = ls ∧ RowsAt w v rs
theorem RowsAt.kept {w0 w w' : World} {v : Value} {rs : List (El w0)} (h : RowsAt w v rs) (k : Keeps [] w w') : RowsAt w' v rs := by
  obtain ⟨a, cap, rfl, h1, h2, h3, h4⟩ := h
  exact ⟨a, cap, rfl, h1, h2, h3, fun ad had j u hu => k.cell (h4 ad had j u hu) (by simp)⟩
theorem RsAt.keep {w w' : World} {v : Value} {ls : List (List Int)} (h : RsAt w v ls) (k : Keeps [] w w') : RsAt w' v ls := by
  obtain ⟨rs, rfl, hr⟩ := h
  exact ⟨rs.map (El.keep k), raws_keep k rs, (hr.kept k).moved k⟩
theorem HeadsAt.els {w : World} {g : Nat} {F : List Nat} {vs : List Value} {ls : List (List Int)} (h : HeadsAt w g F vs ls) : ∃ rs : List (El w), rs.map (fun r => r.1.1) = vs ∧ raws rs = ls := by
  have hlen := h.len
  obtain ⟨rs', e⟩ := els_of (w := w) (vs.zip ls) (fun r hr => by
    obtain ⟨i, hi, rfl⟩ := List.getElem_of_mem hr
    rw [List.getElem_zip]
    have h1 : i < vs.length := by rw [List.length_zip] at hi; omega
    have h2 : i < ls.length := by omega
    have hr := h.row i h1
    rw [List.getD_eq_getElem?_getD, List.getElem?_eq_getElem h2] at hr
    exact ⟨hr, h.few _ (List.getElem_mem h2)⟩)
  have e1 : rs'.map (fun r => r.1.1) = (rs'.map (fun r => r.1)).map Prod.fst := by rw [List.map_map]; rfl
  have e2 : raws rs' = (rs'.map (fun r => r.1)).map Prod.snd := by unfold raws; rw [List.map_map]; rfl
  refine ⟨rs', ?_, ?_⟩
  · rw [e1, e, List.map_fst_zip (by omega)]
  · rw [e2, e, List.map_snd_zip (by omega)]
/-- The heads of a block, owned. -/
theorem heads_own {w : World} {g B n : Nat} {vs : List Value} (hb : w.heap[g]? = some (.cells vs.toArray 34 (0, 0))) (hn : vs.length = n) (hB : B ≤ g) (hm : n ≤ maxLen) : w.ownsRow B 34 1 (.slice (some ⟨g, 0, none⟩) n n) n vs :=
  ⟨by simp [hn], Or.inr ⟨g, n, vs.toArray, rfl, hB, hb, Nat.le_refl _, hm, by simp [hn], by rw [← hn]; simp⟩⟩
theorem HeadsAt.rs {w : World} {g n : Nat} {F : List Nat} {vs : List Value} {ls : List (List Int)} (h : HeadsAt w g F vs ls) (hb : w.heap[g]? = some (.cells vs.toArray 34 (0, 0))) (hn : vs.length = n) (hm : n ≤ maxLen) : RsAt w (.slice (some ⟨g, 0, none⟩) n n) ls := by
  obtain ⟨rs, e1, e2⟩ := h.els
  refine ⟨rs, e2, ?_⟩
  have ho := heads_own (B := 0) hb hn (Nat.zero_le _) hm
  rw [← e1] at ho
  exact rows_of_own ho
/-- A part of a row. -/
theorem row_sub {w : World} {a : Option Addr} {len cap : Nat} {zs : List Int} (h : RowAt w (.slice a len cap) zs) (f n : Nat) (hn : f + n ≤ zs.length) :
    ∃ a1, (∀ W, (Instr.sliceAt 34 (.slice a len cap) (some (.int .i64 (f : Int))) (some (.int .i64 ((f + n : Nat) : Int))) none).run Try.prog W = .ok (.slice a1 n (cap - f)) W) ∧
      (∀ W, RowAt W (.slice a len cap) zs → RowAt W (.slice a1 n (cap - f)) ((zs.drop f).take n)) ∧ (∀ ad, a1 = some ad → ∃ ad', a = some ad' ∧ ad'.block = ad.block) := by
  obtain ⟨ad1, r1, r2, r3, r4⟩ := row_drop h f (by omega)
  obtain ⟨a', cap', hv, h1, h2, h3, h4, h5⟩ := id h
  injection hv with e1 e2 e3
  subst e1; subst e2; subst e3
  have hd := r3 w h
  obtain ⟨ad2, t1, t2, t3, t4⟩ := row_take hd n (by rw [List.length_drop]; omega)
  have hrun : ∀ W, (Instr.slice 34 (.slice a zs.length cap) (some (.int .i64 (f : Int))) (some (.int .i64 ((f + n : Nat) : Int))) none).run Try.prog W = .ok (.slice (if cap = f then a else a.map (·.add f)) n (cap - f)) W := by
    intro W
    rw [run_slice_lh W 34 a zs.length cap bytes_elem .i64 .i64 f (f + n : Nat) (by omega) (by omega) (by omega), bytes_el, size_u8]
    simp [Result.andThen, sliced]
    omega
  have hsl : ∀ W, (Instr.slice 34 (.slice a zs.length cap) (some (.int .i64 (f : Int))) none none).run Try.prog W = .ok (.slice (if cap = f then a else a.map (·.add f)) (zs.length - f) (cap - f)) W := by
    intro W
    rw [run_slice_l W 34 a zs.length cap bytes_elem .i64 f (by omega) (by omega), bytes_el, size_u8]
    simp [Result.andThen, sliced]
  have e1 : ad1 = if cap = f then a else a.map (·.add f) := by
    have := (r2 w).symm.trans (hsl w)
    injection this with this
    injection this
  refine ⟨_, fun W => by rw [run_sliceAt_slice W 34 _ _ _ _ bytes_elem]; exact hrun W, fun W hW => ?_, fun ad had => r4 ad (by rw [e1]; exact had)⟩
  have hdW := r3 W hW
  rw [e1] at hdW
  obtain ⟨a', cap', hv, g1, g2, g3, g4, g5⟩ := hdW
  injection hv with q1 q2 q3
  subst q1; subst q3
  have hl2 : ((zs.drop f).take n).length = n := by rw [List.length_take, List.length_drop]; omega
  refine ⟨_, cap - f, by rw [hl2], by rw [hl2]; omega, g2, g3, fun z hz => g4 z (List.mem_of_mem_take hz), fun ad had j u hu => g5 ad had j u ?_⟩
  rw [List.map_take, List.getElem?_take] at hu
  split at hu
  · exact hu
  · cases hu

/-- Nothing but the new heads was written since. -/
def KI (w : World) (_ : Nat) (F : List Nat) (W : World) : Prop := F = [] ∧ Keeps [w.heap.size] w W
theorem KI.start (w : World) : KI w 0 [] w := ⟨rfl, Keeps.refl _ _⟩
theorem KI.step (w : World) : ∀ k F W W', KI w k F W → Keeps [w.heap.size] W W' → KI w k F W' := fun _ _ _ _ h k => ⟨h.1, h.2.trans k⟩
theorem KI.cell {w : World} {k : Nat} {F : List Nat} {W : World} (h : KI w k F W) {b i : Nat} {v : Value} (hc : w.cell? ⟨b, i, none⟩ = some v) : W.cell? ⟨b, i, none⟩ = some v :=
  h.2.cell hc (by have := World.block_lt_of_cell? _ _ hc; simp at this ⊢; omega)
theorem KI.row {w : World} {k : Nat} {F : List Nat} {W : World} (h : KI w k F W) {v : Value} {zs : List Int} (hr : RowAt w v zs) : RowAt W v zs := hr.keep h.2 (off_oldB hr (Nat.le_refl _))
theorem KI.rs {w : World} {k : Nat} {F : List Nat} {W : World} (h : KI w k F W) {v : Value} {ls : List (List Int)} (hr : RsAt w v ls) : RsAt W v ls := by
  obtain ⟨rs, rfl, hr⟩ := hr
  obtain ⟨rs', e⟩ := els_of (w := W) (rs.map fun r => r.1) (fun r hr' => by
    obtain ⟨x, _, rfl⟩ := List.mem_map.1 hr'
    exact ⟨h.row x.2.1, x.2.2⟩)
  have e1 : rs'.map (fun r => r.1.1) = rs.map (fun r => r.1.1) := by
    have := congrArg (List.map Prod.fst) e
    rw [List.map_map, List.map_map] at this
    exact this
  have e2 : raws rs' = raws rs := by
    have := congrArg (List.map Prod.snd) e
    rw [List.map_map, List.map_map] at this
    exact this
  refine ⟨rs', e2, ?_⟩
  obtain ⟨a, cap, rfl, h1, h2, h3, h4⟩ := hr
  have hl : rs'.length = rs.length := by have := congrArg List.length e1; simpa using this
  refine ⟨a, cap, by rw [hl], by rw [hl]; exact h1, h2, h3, fun ad had j u hu => ?_⟩
  rw [e1] at hu
  have hc := h4 ad had j u hu
  refine h.2.cell hc ?_
  have := World.block_lt_of_cell? _ _ hc
  simp at this ⊢
  omega
theorem off_new13 {w : World} {M : List Nat} {a : Option Addr} {n c : Nat} {zs : List Int} (h : ∀ ad, a = some ad → w.heap.size ≤ ad.block) (hM : ∀ b ∈ M, b < w.heap.size) : Off M (.slice a n c) zs := fun ad n' c' e _ hm => by
  injection e with e _ _
  subst e
  have := h ad rfl
  have := hM _ hm
  omega
theorem row_old {w W : World} {u : Value} {zs : List Int} (h : RowAt w u zs) {g : Nat} (hg : w.heap.size ≤ g) : Off [g] u zs := off_oldB h hg
theorem off_part {v v1 : Value} {zs ys : List Int} {S : List Nat} (h : Off S v zs) (hb : ∀ ad n c, v1 = .slice (some ad) n c → ∃ ad' n' c', v = .slice (some ad') n' c' ∧ ad'.block = ad.block) (hne : ys ≠ [] → zs ≠ []) : Off S v1 ys := by
  intro ad n c e hy hm
  obtain ⟨ad', n', c', e', hb'⟩ := hb ad n c e
  exact h ad' n' c' e' (hne hy) (by rw [hb']; exact hm)
set_option maxHeartbeats 1600000 in
theorem cutA_any (w : World) (bz bn bd : Nat) (n : Nat) (dv : Value) (d : List Int) (h3 : 3 ≤ n) (h16 : n ≤ 16) (hl : d.length ≤ 400 * (n - 1)) (hd : RowAt w dv d)
    (cz0 : w.cell? ⟨bz, 0, none⟩ = some (.int .i64 (d.length : Int))) (cn0 : w.cell? ⟨bn, 0, none⟩ = some (.int .i64 (n : Int))) (cd0 : w.cell? ⟨bd, 0, none⟩ = some dv)
    (k : Nat) (F : List Nat) (W : World) (hk : k < n - 1) (hI : KI w k F W) :
    Calls Try.prog 55 (#[.int .i64 (k : Int)] ++ #[.pointer (some ⟨bz, 0, none⟩), .pointer (some ⟨bn, 0, none⟩), .pointer (some ⟨bd, 0, none⟩)]) W (CPost w.heap.size (KI w) (fun i => partL d i n) (fun _ => False) k F W) := by
  have cz := hI.cell cz0
  have cn := hI.cell cn0
  have cd := hI.cell cd0
  have hr := hI.row hd
  obtain ⟨hF, hk2⟩ := id hI
  subst hF
  obtain ⟨va, vc, rfl, _⟩ := id hr
  have hsm : SmallF (k : Int) (d.length : Int) (n : Int) := ⟨by omega, by omega, by omega, by omega, by omega, by omega⟩
  have hf := fromI_is (i := k) (z := d.length) h3 h16
  have ht := toI_is (i := k) (z := d.length) h3 h16
  have hle : fromN k d.length n + lenN k d.length n ≤ d.length := by unfold fromN lenN; omega
  obtain ⟨a1, s1, s2, s3⟩ := row_sub hr (fromN k d.length n) (lenN k d.length n) hle
  have S1 := hid s1
  have R1 := hid (s2 W hr)
  have A := lbounds_any W k d.length n hsm
  rw [hf, ht] at A
  have O := hid (off_part (S := [w.heap.size]) (v1 := .slice a1 (lenN k d.length n) (vc - fromN k d.length n)) (ys := partL d k n) (off_oldB hd (Nat.le_refl _)) (fun ad n' c' e => by
    injection e with e _ _
    obtain ⟨ad', e', hb⟩ := s3 ad e
    exact ⟨ad', _, _, by rw [e'], hb⟩) (fun hne he => hne (by unfold partL; rw [he]; simp)))
  have II := hid hk2
  have HLE := hid (show (partL d k n).length ≤ 140737488351232 by rw [partL_len]; omega)
  have TK := hid (show partL d k n = (d.drop (fromN k d.length n)).take (lenN k d.length n) from rfl)
  generalize fromN k d.length n = f at *
  generalize lenN k d.length n = m at *
  clear s1 s2 s3 hf ht hr hd hsm hle cz0 cn0 cd0 hI hk2
  simp only [List.push_toArray, List.append_toArray, List.nil_append, List.cons_append]
  go_enter Try.func55, Try.ntmps55
  go_wp2_with fail
  refine A.mono ?_
  rintro e w' ⟨rfl, rfl⟩
  clear A
  go_wp2_with (first | (refine wpList_is rfl _ _ (exec_sliceK 34 _ _ _ _ _ rfl (S1.out _)) ?_) | fail)
  go_ret
  have RR : RowAt W (.slice a1 m (vc - f)) (partL d k n) := by rw [TK.out]; exact R1.out
  exact .inl ⟨.slice a1 m (vc - f), [], rfl, RR, HLE.out, O.out, Keeps.refl _ _, ⟨rfl, II.out⟩, by simp, id⟩

theorem buildHd (s : Spe) (i n z : Int) (w : World) : (Instr.build 33 #[(0, .agg #[.int .i64 s.c, .int .i64 s.l, .int .i64 s.n]), (1, .int .i64 i), (2, .int .i64 n), (3, .int .i64 z)]).run Try.prog w = .ok (hdV13 ⟨s, i, n, z⟩) w := by kernel_rfl
theorem exec_buildHd {ρ : Operand → Value} {o : Oper} {w : World} (x0 x1 x2 x3 : Operand) (ho : o.op = .build 33 #[(0, x0), (1, x1), (2, x2), (3, x3)]) (s : Spe) (i n z : Int) (h0 : ρ x0 = .agg #[.int .i64 s.c, .int .i64 s.l, .int .i64 s.n]) (h1 : ρ x1 = .int .i64 i) (h2 : ρ x2 = .int .i64 n) (h3 : ρ x3 = .int .i64 z) :
    (execOp ρ o).run Try.prog w = .ok (.value (hdV13 ⟨s, i, n, z⟩)) w := by
  simp only [execOp, ho, List.map_toArray, List.map_cons, List.map_nil, h0, h1, h2, h3, Sem.run_bind, buildHd, Result.andThen_ok, Sem.run_pure]
/-- A fragment: its head and its bytes. -/
def fragL (s : Spe) (n : Nat) (z : Nat) (ls : List (List Int)) (i : Nat) : List Int := headB13 ⟨s, i, n, z⟩ ++ ls.getD i []
/-- The heads of rows of rows, one by one. -/
theorem RsAt.at {w : World} {v : Value} {ls : List (List Int)} (h : RsAt w v ls) {k : Nat} (hk : k < ls.length) : ∃ g off cap u, v = .slice (some ⟨g, off, none⟩) ls.length cap ∧ w.cell? ⟨g, off + k, none⟩ = some u ∧ RowAt w u (ls.getD k []) ∧ (ls.getD k []).length ≤ 140737488351232 ∧ ls.length ≤ cap := by
  obtain ⟨rs, rfl, hr⟩ := h
  have hl : (raws rs).length = rs.length := by simp [raws]
  rw [hl] at hk ⊢
  obtain ⟨g, off, cap, rfl, hc, hcs⟩ := hr.open (by omega)
  refine ⟨g, off, cap, rs[k].1.1, rfl, hcs k hk, ?_⟩
  have e : (raws rs).getD k [] = rs[k].1.2 := by
    rw [List.getD_eq_getElem?_getD, List.getElem?_eq_getElem (by rw [hl]; exact hk)]
    simp [raws]
  rw [e]
  exact ⟨rs[k].2.1, rs[k].2.2, hc⟩
set_option maxHeartbeats 3200000 in
theorem cutB_any (w : World) (bs bn bz br : Nat) (s : Spe) (n z : Nat) (rv : Value) (ls : List (List Int)) (h16 : n ≤ 16) (hls : ls.length = n) (hfew : ∀ l ∈ ls, l.length ≤ 400) (hfit : ∀ i : Nat, i < n → FitH ⟨s, i, n, z⟩)
    (cs0 : w.rangeAt bs 0 s.cells) (hbs : bs < w.heap.size) (cn0 : w.cell? ⟨bn, 0, none⟩ = some (.int .i64 (n : Int))) (cz0 : w.cell? ⟨bz, 0, none⟩ = some (.int .i64 (z : Int))) (cr0 : w.cell? ⟨br, 0, none⟩ = some rv) (hr0 : RsAt w rv ls)
    (k : Nat) (F : List Nat) (W : World) (hk : k < n) (hI : KI w k F W) (hgt : w.heap.size < W.heap.size) :
    Calls Try.prog 58 (#[.int .i64 (k : Int)] ++ #[.pointer (some ⟨bs, 0, none⟩), .pointer (some ⟨bn, 0, none⟩), .pointer (some ⟨bz, 0, none⟩), .pointer (some ⟨br, 0, none⟩)]) W (CPost w.heap.size (KI w) (fragL s n z ls) (fun _ => False) k F W) := by
  have hrW := hI.rs hr0
  obtain ⟨g, off, cap, u, rfl, cu, ru, lu, hcap⟩ := hrW.at (by rw [hls]; exact hk)
  have cn := hid (hI.cell cn0)
  have cz := hid (hI.cell cz0)
  have cr := hid (hI.cell cr0)
  have CS := hid (show W.rangeAt bs 0 s.cells from fun i v hv => hI.cell (cs0 i v hv))
  have CU := hid cu
  have RU := hid ru
  have HF := hid (hfit k hk)
  have FW := hid (hfew (ls.getD k []) (by rw [List.getD_eq_getElem?_getD, List.getElem?_eq_getElem (by omega)]; exact List.getElem_mem _))
  obtain ⟨hF, hk2⟩ := id hI
  subst hF
  have II := hid hk2
  have LS := hid (World.block_lt_of_cell? _ _ cu)
  have LB := hid (show ∀ b i v, W.cell? ⟨b, i, none⟩ = some v → b < W.heap.size from fun b i v h => World.block_lt_of_cell? _ _ h)
  have LBS := hid (Nat.lt_of_lt_of_le hbs hk2.size)
  have SZ := hid hgt
  have HLS := hid hls
  rw [hls] at hcap
  obtain ⟨ua, un, uc, hu⟩ : ∃ a n c, u = .slice a n c := by obtain ⟨a, c, e, _⟩ := ru; exact ⟨a, _, c, e⟩
  subst hu
  rw [hls] at cr
  clear hrW cu ru lu hfit hfew hI hk2 cs0 cn0 cz0 cr0 hr0 hbs hls hgt
  have KD := hid ((Keeps.refl [] W).drew)
  have fS := hid (show ∀ W1, KpS [] W.heap.size W.drew W1 → W1.rangeAt bs 0 s.cells from fun W1 h i v hv => h.cell (by rw [World.cell?_drew]; exact CS.out i v hv) LBS.out (by simp))
  have fC := hid (show ∀ b i v, W.cell? ⟨b, i, none⟩ = some v → ∀ W1, KpS [] W.heap.size W.drew W1 → W1.cell? ⟨b, i, none⟩ = some v from fun b i v hc W1 h => h.cell (by rw [World.cell?_drew]; exact hc) (LB.out _ _ _ hc) (by simp))
  simp only [List.push_toArray, List.append_toArray, List.nil_append, List.cons_append]
  go_enter Try.func58, Try.ntmps58
  go_wp2_with fail
  refine wp_region_any (by kernel_rfl) (wpAny_of_held (S := KpS [] W.heap.size W.drew) _ _ _ _ ?_)
  change wpAnyH _ _ _ _ _ _ _ _ W.drew
  have s0 : KpS [] W.heap.size W.drew W.drew := KpS.refl _ _ _
  refine held_take (i := 0) (v := .agg #[.int .i64 s.c, .int .i64 s.l, .int .i64 s.n]) rfl (by kernel_rfl) (by kernel_rfl) (by kernel_rfl) (fun _ _ _ h => h) rfl (fun W1 hW1 => exec_load _ _ _ _ rfl rfl (loadSpe W1 bs 0 s (fS.out W1 hW1))) (KpS.refl _ _ _) ?_
  simp only [Act.put, List.setIfInBounds_toArray, List.set_cons_zero, List.set_cons_succ]
  refine held_take (i := 1) (v := .int .i64 (k : Int)) rfl (by kernel_rfl) (by kernel_rfl) (by kernel_rfl) (fun _ _ _ h => h) rfl (fun W1 hW1 => rfl) (KpS.refl _ _ _) ?_
  simp only [Act.put, List.setIfInBounds_toArray, List.set_cons_zero, List.set_cons_succ]
  refine held_take (i := 2) (v := .int .i64 (n : Int)) rfl (by kernel_rfl) (by kernel_rfl) (by kernel_rfl) (fun _ _ _ h => h) rfl (fun W1 hW1 => exec_load _ _ _ _ rfl rfl (run_loadCell W1 _ _ _ (fC.out _ _ _ cn.out W1 hW1) (agg_no _ (by kernel_rfl)))) (KpS.refl _ _ _) ?_
  simp only [Act.put, List.setIfInBounds_toArray, List.set_cons_zero, List.set_cons_succ]
  refine held_take (i := 3) (v := .int .i64 (z : Int)) rfl (by kernel_rfl) (by kernel_rfl) (by kernel_rfl) (fun _ _ _ h => h) rfl (fun W1 hW1 => exec_load _ _ _ _ rfl rfl (run_loadCell W1 _ _ _ (fC.out _ _ _ cz.out W1 hW1) (agg_no _ (by kernel_rfl)))) (KpS.refl _ _ _) ?_
  simp only [Act.put, List.setIfInBounds_toArray, List.set_cons_zero, List.set_cons_succ]
  refine held_take (i := 4) (v := hdV13 ⟨s, k, n, z⟩) rfl (by kernel_rfl) (by kernel_rfl) (by kernel_rfl) (fun _ _ _ h => h) rfl (fun W1 hW1 => exec_buildHd _ _ _ _ rfl s k n z rfl rfl rfl rfl) (KpS.refl _ _ _) ?_
  simp only [Act.put, List.setIfInBounds_toArray, List.set_cons_zero, List.set_cons_succ]
  refine held_take (i := 5) (v := .slice (some ⟨g, off, none⟩) n cap) rfl (by kernel_rfl) (by kernel_rfl) (by kernel_rfl) (fun _ _ _ h => h) rfl (fun W1 hW1 => exec_load _ _ _ _ rfl rfl (run_loadCell W1 _ _ _ (fC.out _ _ _ cr.out W1 hW1) (agg_no _ (by kernel_rfl)))) (KpS.refl _ _ _) ?_
  simp only [Act.put, List.setIfInBounds_toArray, List.set_cons_zero, List.set_cons_succ]
  refine held_take (i := 6) (v := .int .i64 (k : Int)) rfl (by kernel_rfl) (by kernel_rfl) (by kernel_rfl) (fun _ _ _ h => h) rfl (fun W1 hW1 => rfl) (KpS.refl _ _ _) ?_
  simp only [Act.put, List.setIfInBounds_toArray, List.set_cons_zero, List.set_cons_succ]
  refine held_take (i := 7) (v := .pointer (some ⟨g, off + k, none⟩)) rfl (by kernel_rfl) (by kernel_rfl) (by kernel_rfl) (fun _ _ _ h => h) rfl (fun W1 hW1 => by go_simp) (KpS.refl _ _ _) ?_
  simp only [Act.put, List.setIfInBounds_toArray, List.set_cons_zero, List.set_cons_succ]
  refine held_take (i := 8) (v := .slice ua un uc) rfl (by kernel_rfl) (by kernel_rfl) (by kernel_rfl) (fun _ _ _ h => h) rfl (fun W1 hW1 => exec_load _ _ _ _ rfl rfl (run_loadCell W1 _ _ _ (fC.out _ _ _ CU.out W1 hW1) (agg_no _ (by kernel_rfl)))) (KpS.refl _ _ _) ?_
  simp only [Act.put, List.setIfInBounds_toArray, List.set_cons_zero, List.set_cons_succ]
  refine held_do (i := 9) (by kernel_rfl) rfl rfl (wp_enter (f := 59) (args := #[hdV13 ⟨s, k, n, z⟩, .slice ua un uc]) (by go_simp) (lform_any W.drew ⟨s, k, n, z⟩ (.slice ua un uc) (ls.getD k []) HF.out (RU.out.keep KD.out (by intro _ _ _ _ _; simp)) (by have := FW.out; omega)) ?_)
  rintro e w2 ⟨a2, c2, rfl, r2, n2, k2⟩
  have sb : KpS [] W.heap.size W.drew w2 := KpS.keeps s0 k2 (Nat.le_refl _) (by simp)
  refine ⟨_, rfl, sb, ?_⟩
  simp only [Act.put, List.setIfInBounds_toArray, List.set_cons_zero, List.set_cons_succ]
  refine held_take (i := 10) (v := .slice a2 (headB13 ⟨s, k, n, z⟩ ++ ls.getD k []).length c2) rfl (by kernel_rfl) (by kernel_rfl) (by kernel_rfl) (fun _ _ _ h => h) rfl (fun W1 hW1 => exec_asg _ rfl rfl) (sb) ?_
  simp only [Act.put, List.setIfInBounds_toArray, List.set_cons_zero, List.set_cons_succ]
  refine wpAnyH_done (by kernel_rfl) ?_ _
  have hlen : (headB13 ⟨s, k, n, z⟩ ++ ls.getD k []).length ≤ 140737488351232 := by rw [List.length_append, headB13_len]; have := FW.out; omega
  have hk : Keeps [] W w2 := KD.out.trans k2
  have HL := hid hlen
  have HK := hid hk
  have R2 := hid r2
  have N2 := hid n2
  clear s0 sb k2 r2 n2 hlen hk
  go_wp2_with fail
  go_ret
  exact .inl ⟨.slice a2 (headB13 ⟨s, k, n, z⟩ ++ ls.getD k []).length c2, [], rfl, R2.out, HL.out, off_new13 N2.out (fun b hb => by simp at hb; subst hb; exact SZ.out), HK.out, ⟨rfl, II.out.trans (HK.out.mono (by simp))⟩, by simp, id⟩
end Go.Proofs.Ytoglcohdanpciaa


/- layout: Cut. -/
namespace Go.Proofs.Ytoglcohdanpciaa
open Go.RowKit Go.Shelf
set_option maxRecDepth 100000
set_option linter.unusedSimpArgs false
set_option linter.unusedVariables false

/-- All fragments of a stripe. -/
def fragsL (s : Spe) (d : List Int) (n : Nat) : List (List Int) := (List.range n).map (fragL s n d.length (rowsL d n))
/-- What Cut answers. -/
def cutL (s : Spe) (d : List Int) (n : Int) : List (List Int) × Int :=
  if maySv n = true ∧ mayE s = true then (if 400 * (n - 1) < d.length then ([], 3) else (fragsL s d n.toNat, 0)) else ([], 1)
theorem fragsL_len (s : Spe) (d : List Int) (n : Nat) : (fragsL s d n).length = n := by simp [fragsL]
def CutPost (w : World) (r : List (List Int) × Int) (e : Ending) (w' : World) : Prop :=
  Keeps [] w w' ∧ ((r.2 ≠ 0 ∧ r.1 = [] ∧ e = .returned (.tuple #[.slice none 0 0, .int .i64 r.2])) ∨
    (r.2 = 0 ∧ ∃ g vs, e = .returned (.tuple #[.slice (some ⟨g, 0, none⟩) r.1.length r.1.length, .int .i64 0]) ∧ w'.heap[g]? = some (.cells vs.toArray 34 (0, 0)) ∧ HeadsAt w' g [] vs r.1 ∧ w.heap.size ≤ g))
/-- Heads that the call owns. -/
theorem rs_own {w : World} {B n : Nat} {v : Value} {vs : List Value} {ls : List (List Int)} (ho : w.ownsRow B 34 1 v n vs) (hn : vs.length = n) (hl : ls.length = n) (hr : ∀ j (h : j < vs.length), RowAt w vs[j] (ls.getD j [])) (hf : ∀ l ∈ ls, l.length ≤ 140737488351232) : RsAt w v ls := by
  obtain ⟨rs', e⟩ := els_of (w := w) (vs.zip ls) (fun r hr' => by
    obtain ⟨i, hi, rfl⟩ := List.getElem_of_mem hr'
    rw [List.getElem_zip]
    have h1 : i < vs.length := by rw [List.length_zip] at hi; omega
    have h2 : i < ls.length := by omega
    have hr := hr i h1
    rw [List.getD_eq_getElem?_getD, List.getElem?_eq_getElem h2] at hr
    exact ⟨hr, hf _ (List.getElem_mem h2)⟩)
  have e1 : rs'.map (fun r => r.1.1) = (rs'.map (fun r => r.1)).map Prod.fst := by rw [List.map_map]; rfl
  have e2 : raws rs' = (rs'.map (fun r => r.1)).map Prod.snd := by unfold raws; rw [List.map_map]; rfl
  rw [e, List.map_fst_zip (by omega)] at e1
  rw [e, List.map_snd_zip (by omega)] at e2
  refine ⟨rs', e2, ?_⟩
  rw [← e1] at ho
  obtain ⟨a, c, rfl⟩ := ownsRow_slice ho
  exact rows_of_own ho
/-- append onto heads that have no room: a new row. -/
theorem append_full (w : World) (g n : Nat) (vs : List Value) (a : Option Addr) (k c : Nat) (ty : TypeId) (b : Nat) (hb : w.heap[g]? = some (.cells vs.toArray 34 (0, 0))) (hn : vs.length = n) (hm : n ≤ 1000)
    (hx : w.cell? ⟨b, 0, none⟩ = some (.slice a k c)) :
    ∃ yc w', (Builtin.append_ #[26, 26] ty #[.slice (some ⟨g, 0, none⟩) n n, .slice (some ⟨b, 0, none⟩) 1 1]).run Try.prog w = .ok (.slice (some ⟨w.heap.size, 0, none⟩) (n + 1) yc) w' ∧
      w'.ownsRow w.heap.size 34 1 (.slice (some ⟨w.heap.size, 0, none⟩) (n + 1) yc) (n + 1) (vs ++ [.slice a k c]) ∧ Keeps [] w w' := by
  obtain ⟨i0, hi, hz0, hz1, hz2⟩ := info_parts info25
  have own := heads_own (B := 0) hb hn (Nat.zero_le _) (by unfold maxLen; omega)
  have hcell : ∀ ad, some (⟨b, 0, none⟩ : Addr) = some ad → ∀ j u, ([.slice a k c] : List Value)[j]? = some u → w.cell? (ad.add j) = some u := by
    rintro ad had j u hu
    obtain rfl := Option.some.inj had
    rw [Addr.add_lit]
    match j, hu with
    | 0, hu => simp at hu; subst hu; exact hx
  obtain ⟨ya, yc, w', hrun, ho, hg⟩ := run_append_src (P := Try.prog) w 0 26 ty 34 i0 (.slice none 0 0) 24 Try.underlying26 hi hz0 hz1 hz2 rfl (.slice (some ⟨g, 0, none⟩) n n) n vs own (some ⟨b, 0, none⟩) 1 1 [.slice a k c] rfl (by simp) (Nat.le_refl _)
    hcell (by simp [Value.oneCell']) (by unfold maxLen; omega) (by omega) (Nat.zero_le _)
  have hr2 := run_append_grow (P := Try.prog) w 26 ty 34 i0 (.slice none 0 0) Try.underlying26 hi hz0 ⟨g, 0, none⟩ n n vs (by rw [hz1]; omega) (own.cells (g := g) rfl) ⟨b, 0, none⟩ 1 1 [.slice a k c] (by rw [hz1]; rfl) (hcell _ rfl) (by omega) (by omega) (growslice_fits (by omega) (by rw [hz2]; omega))
  rw [hrun] at hr2
  injection hr2 with e1 e2
  injection e1 with e1 _ e3
  subst e1
  refine ⟨yc, w', hrun, ⟨ho.1, ?_⟩, ?_⟩
  · rcases ho.2 with ⟨h', _⟩ | ⟨g', cap, cur, h', _, rest⟩
    · simp at h'
    · injection h' with q1 q2 q3
      injection q1 with q1
      injection q1 with q1
      subst q1; subst q3
      exact Or.inr ⟨_, yc, cur, rfl, Nat.le_refl _, rest⟩
  · rw [e2]
    exact ((Keeps.refl [] w).drew).alloc _
theorem RsAt.xor {w : World} {v : Value} {ls : List (List Int)} (h : RsAt w v ls) (hl : ls.length ≤ 1099511627776) : Calls Try.prog 57 #[v] w (RowPost w (xorL ls)) := by
  obtain ⟨rs, rfl, hr⟩ := h
  exact xor_any w v rs hr (by simpa [raws] using hl)
theorem enters_cutA : Enters Try.prog 55 := enters_of Try.func55 (by kernel_rfl) rfl
theorem enters_cutB : Enters Try.prog 58 := enters_of Try.func58 (by kernel_rfl) rfl
theorem cut_no {w w' : World} {s : Spe} {d : List Int} {n : Int} {r : List (List Int) × Int} (hr : r = cutL s d n) (h : maySv n = false ∨ mayE s = false) (k : Keeps [] w w') : CutPost w r (.returned (.tuple #[.slice none 0 0, .int .i64 1])) w' := by
  subst hr
  unfold cutL
  rw [if_neg (by rcases h with h | h <;> rw [h] <;> simp)]
  exact ⟨k, .inl ⟨by decide, rfl, rfl⟩⟩
set_option maxHeartbeats 25600000 in
theorem lCut_any (w : World) (s : Spe) (v : Value) (d : List Int) (n : Int) (hd : RowAt w v d) (hl : d.length ≤ 140737488351232) :
    Calls Try.prog 17 #[.agg #[.int .i64 s.c, .int .i64 s.l, .int .i64 s.n], v, .int .i64 n] w (CutPost w (cutL s d n)) := by
  obtain ⟨va, vc, rfl, _⟩ := id hd
  obtain ⟨r, hr⟩ : ∃ r, r = cutL s d n := ⟨_, rfl⟩
  rw [← hr]
  have HR := hid hr
  have HL := hid hl
  clear hr hl
  obtain ⟨w3, hw3⟩ : ∃ x, x = ((w.alloc (.cells #[.int .i64 s.c, .int .i64 s.l, .int .i64 s.n] 30)).alloc (.cells #[.slice va d.length vc] 34)).alloc (.cells #[.int .i64 n] 3) := ⟨_, rfl⟩
  have HW3 := hid hw3
  have k1 : Keeps [] w (w.alloc (.cells #[.int .i64 s.c, .int .i64 s.l, .int .i64 s.n] 30)) := (Keeps.refl [] w).alloc _
  have k3 : Keeps [] w w3 := by rw [hw3]; exact (k1.alloc _).alloc _
  have B0 : w3.heap[w.heap.size]? = some (.cells #[.int .i64 s.c, .int .i64 s.l, .int .i64 s.n] 30 (0, 0)) := by
    rw [hw3]
    exact ((((Keeps.refl [] _).alloc _).alloc _).block w.heap.size (by simp) (by simp)).trans (heap_alloc_new w _)
  have B1 : w3.heap[w.heap.size + 1]? = some (.cells #[.slice va d.length vc] 34 (0, 0)) := by
    rw [hw3]
    have := heap_alloc_new (w.alloc (.cells #[.int .i64 s.c, .int .i64 s.l, .int .i64 s.n] 30)) (.cells #[.slice va d.length vc] 34)
    rw [World.size_alloc] at this
    exact (((Keeps.refl [] _).alloc _).block (w.heap.size + 1) (by simp) (by simp)).trans this
  have B2 : w3.heap[w.heap.size + 2]? = some (.cells #[.int .i64 n] 3 (0, 0)) := by
    rw [hw3]
    have := heap_alloc_new ((w.alloc (.cells #[.int .i64 s.c, .int .i64 s.l, .int .i64 s.n] 30)).alloc (.cells #[.slice va d.length vc] 34)) (.cells #[.int .i64 n] 3)
    rw [World.size_alloc, World.size_alloc] at this
    exact this
  have S3 := hid (show w3.heap.size = w.heap.size + 3 by rw [hw3]; simp)
  have K3 := hid k3
  have D3 := hid (hd.keep k3 (by intro _ _ _ _ _; simp))
  have C0 := hid B0
  have C1 := hid B1
  have C2 := hid B2
  have RS := hid (range_cells (cs := s.cells) B0)
  clear hw3 k1 k3 B0 B1 B2 hd
  cases hm : maySv n with
  | false =>
    have HM := hid hm
    clear hm
    go_enter Try.func17, Try.ntmps17
    go_wp2_with fail
    rw [← HW3.out]
    refine (lserve_as _ n false HM.out).mono ?_
    rintro e w' ⟨rfl, rfl⟩
    go_wp2_with fail
    go_ret2
    exact cut_no HR.out (.inl HM.out) K3.out
  | true =>
    have HM := hid hm
    obtain ⟨n3, n16⟩ := maySv_is.1 hm
    clear hm
    cases he : mayE s with
    | false =>
      have HE := hid he
      clear he
      go_enter Try.func17, Try.ntmps17
      go_wp2_with fail
      rw [← HW3.out]
      refine (lserve_as _ n true HM.out).mono ?_
      rintro e w' ⟨rfl, rfl⟩
      go_wp2_with (first | (refine wpList_isW rfl _ _ (exec_load _ _ _ _ rfl rfl (loadSpe _ w.heap.size 0 s RS.out)) ?_) | fail)
      refine (lbe_as _ s false HE.out).mono ?_
      rintro e w4 ⟨rfl, k4⟩
      have K4 := hid (K3.out.trans k4)
      clear k4
      go_wp2_with fail
      go_ret2
      exact cut_no HR.out (.inr HE.out) K4.out
    | true =>
      have HE := hid he
      clear he
      obtain ⟨m, rfl⟩ := Int.eq_ofNat_of_zero_le (show 0 ≤ n by omega)
      have n3' : 3 ≤ m := by omega
      have n16' : m ≤ 16 := by omega
      clear n3 n16
      go_enter Try.func17, Try.ntmps17
      go_wp2_with fail
      rw [← HW3.out]
      refine (lserve_as _ m true HM.out).mono ?_
      rintro e w' ⟨rfl, rfl⟩
      go_wp2_with (first | (refine wpList_isW rfl _ _ (exec_load _ _ _ _ rfl rfl (loadSpe _ w.heap.size 0 s RS.out)) ?_) | fail)
      refine (lbe_as _ s true HE.out).mono ?_
      rintro e w4 ⟨rfl, k4⟩
      have K4 := hid (K3.out.trans k4)
      have S4 := hid (show w.heap.size + 3 ≤ w4.heap.size by have := k4.size; have := S3.out; omega)
      have A0 := hid ((k4.block w.heap.size (by have := S3.out; omega) (by simp)).trans C0.out)
      have A1 := hid ((k4.block (w.heap.size + 1) (by have := S3.out; omega) (by simp)).trans C1.out)
      have A2 := hid ((k4.block (w.heap.size + 2) (by have := S3.out; omega) (by simp)).trans C2.out)
      have D4 := hid (D3.out.keep k4 (by intro _ _ _ _ _; simp))
      have c1 := (five_cells A1.out 0).1
      simp only [List.getElem?_toArray, List.getElem?_cons_zero] at c1
      clear k4
      -- the size's box
      have k5 : Keeps [] w4 (w4.alloc (.cells #[.int .i64 (d.length : Int)] 3)) := (Keeps.refl [] w4).alloc _
      have K5 := hid (K4.out.trans k5)
      have E0 := hid ((k5.block w.heap.size (by have := S4.out; omega) (by simp)).trans A0.out)
      have E1 := hid ((k5.block (w.heap.size + 1) (by have := S4.out; omega) (by simp)).trans A1.out)
      have E2 := hid ((k5.block (w.heap.size + 2) (by have := S4.out; omega) (by simp)).trans A2.out)
      have E3 := hid (heap_alloc_new w4 (.cells #[.int .i64 (d.length : Int)] 3))
      have D5 := hid (D4.out.keep k5 (by intro _ _ _ _ _; simp))
      obtain ⟨w5, hw5⟩ : ∃ x, x = w4.alloc (.cells #[.int .i64 (d.length : Int)] 3) := ⟨_, rfl⟩
      rw [← hw5] at K5 E0 E1 E2 E3 D5
      have HW5 := hid hw5
      obtain ⟨b3, hb3⟩ : ∃ b, b = w4.heap.size := ⟨_, rfl⟩
      rw [← hb3] at E3
      have S5 := hid (show w.heap.size + 3 ≤ b3 ∧ b3 < w5.heap.size by rw [hb3, hw5]; have := S4.out; simp; omega)
      have HB3 := hid hb3
      clear k5 hw5 hb3
      go_wp2_with fail
      clear c1
      rw [← HW5.out]
      try rw [← HB3.out]
      have c2 := (five_cells E2.out 0).1
      have c3 := (five_cells E3.out 0).1
      simp only [List.getElem?_toArray, List.getElem?_cons_zero] at c2 c3
      go_quiet ((go_at_call 53; exact Calls.quiet_of_same ((lmost_as _ m (by omega) (by omega)).mono fun e w' ⟨h, k⟩ => ⟨h, k.symm⟩)))
      have K6 := hid (K5.out.drewN nq)
      by_cases hlong : 400 * ((m : Int) - 1) < d.length
      · have HLG := hid hlong
        go_wp2_with fail
        go_ret2
        refine ⟨K6.out, .inl ⟨?_, ?_, ?_⟩⟩ <;> rw [HR.out] <;> unfold cutL <;> rw [if_pos ⟨HM.out, HE.out⟩, if_pos HLG.out] <;> simp
      · have HLN := hid (show d.length ≤ 400 * (m - 1) by omega)
        have HRR := hid (show r = (fragsL s d m, 0) by rw [HR.out]; unfold cutL; rw [if_pos ⟨HM.out, HE.out⟩, if_neg hlong, Int.toNat_natCast])
        go_wp2_with fail
        have hm1 : (m : Int) - 1 = ((m - 1 : Nat) : Int) := by omega
        rw [hm1]
        have HM1 := hid hm1
        clear hm1
        obtain ⟨w6, hw6⟩ : ∃ x, x = w5.drewN nq := ⟨_, rfl⟩
        rw [← hw6] at K6 ⊢
        have k56 : Keeps [] w5 w6 := by rw [hw6]; exact (Keeps.refl [] _).drewN _
        have sz6 : w6.heap.size = w5.heap.size := by rw [hw6]; rfl
        have G0 := hid ((k56.block w.heap.size (by have := S5.out; omega) (by simp)).trans E0.out)
        have G1 := hid ((k56.block (w.heap.size + 1) (by have := S5.out; omega) (by simp)).trans E1.out)
        have G2 := hid ((k56.block (w.heap.size + 2) (by have := S5.out; omega) (by simp)).trans E2.out)
        have G3 := hid ((k56.block b3 (by have := S5.out; omega) (by simp)).trans E3.out)
        have D6 := hid (D5.out.keep k56 (by intro _ _ _ _ _; simp))
        have S6 := hid (show w.heap.size + 3 ≤ b3 ∧ b3 < w6.heap.size by rw [sz6]; exact S5.out)
        clear c2 c3 hw6 k56 sz6
        refine (gather_any 55 _ (m - 1) w6 [] (KI w6) (fun i => partL d i m) (fun _ => False) enters_cutA (by omega) (by omega) (by simp) (KI.start w6) (KI.step w6) (fun k F W hk hI hg hFF => cutA_any w6 b3 (w.heap.size + 1 + 1) (w.heap.size + 1) m _ d n3' n16' HLN.out D6.out (five_cells G3.out 0).1 (five_cells G2.out 0).1 (five_cells G1.out 0).1 k F W hk hI)).mono ?_
        rintro e w7 ⟨k7, ⟨F, vs, rfl, hb7, hh7, ⟨rfl, _⟩, _, _⟩ | ⟨⟨_, _, hbad⟩, _⟩⟩
        rotate_left
        · exact hbad.elim
        obtain ⟨g, hg⟩ : ∃ g, g = w6.heap.size := ⟨_, rfl⟩
        rw [← hg] at hb7 hh7 ⊢
        have HG := hid hg
        have LV := hid (show vs.length = m - 1 by have := hh7.len; simpa using this)
        have HB7 := hid hb7
        have HH7 := hid hh7
        have RS7 := hid (show RsAt w7 (.slice (some ⟨g, 0, none⟩) (m - 1) (m - 1)) (dataL d m) from hh7.rs hb7 LV.out (by unfold maxLen; omega))
        have K7 := hid (K6.out.trans k7)
        have L7 := hid (lt_of_block hb7)
        have I0 := hid ((k7.block w.heap.size (by have := S6.out; omega) (by simp)).trans G0.out)
        have I2 := hid ((k7.block (w.heap.size + 2) (by have := S6.out; omega) (by simp)).trans G2.out)
        have I3 := hid ((k7.block b3 (by have := S6.out; omega) (by simp)).trans G3.out)
        clear hb7 hh7 k7 hg
        -- the rows' box
        have k8 : Keeps [] w7 (w7.alloc (.cells #[.slice (some ⟨g, 0, none⟩) (m - 1) (m - 1)] 26)) := (Keeps.refl [] w7).alloc _
        have T8 := hid (heap_alloc_new w7 (.cells #[.slice (some ⟨g, 0, none⟩) (m - 1) (m - 1)] 26))
        have SB8 := hid (show w7.heap.size < (w7.alloc (.cells #[.slice (some ⟨g, 0, none⟩) (m - 1) (m - 1)] 26)).heap.size by simp)
        obtain ⟨w8, hw8⟩ : ∃ x, x = w7.alloc (.cells #[.slice (some ⟨g, 0, none⟩) (m - 1) (m - 1)] 26) := ⟨_, rfl⟩
        obtain ⟨b9, hb9⟩ : ∃ b, b = w7.heap.size := ⟨_, rfl⟩
        rw [← hw8] at k8 T8 SB8
        rw [← hb9] at T8 SB8
        have HW8 := hid hw8
        have HB9 := hid hb9
        have K78 := hid k8
        have RS8 := hid (RS7.out.keep k8)
        have H8 := hid ((k8.block g L7.out (by simp)).trans HB7.out)
        clear k8 hw8 hb9
        go_wp2_with fail
        rw [← HW8.out]
        try rw [← HB9.out]
        have cT := hid (show ∀ W1, KpS [] w8.heap.size w8.drew W1 → W1.cell? ⟨b9, 0, none⟩ = some (.slice (some ⟨g, 0, none⟩) (m - 1) (m - 1)) from fun W1 h => h.cell (by rw [World.cell?_drew]; exact (five_cells T8.out 0).1) SB8.out (by simp))
        have s0 : KpS [] w8.heap.size w8.drew w8.drew := KpS.refl _ _ _
        refine wp_region_any (by kernel_rfl) (wpAny_of_late (late := [4, 5]) (S := KpS [] w8.heap.size w8.drew) _ _ _ _ ?_)
        change wpAnyT _ _ _ _ _ _ _ _ _ w8.drew
        refine late_take (i := 0) (v := .slice (some ⟨g, 0, none⟩) (m - 1) (m - 1)) rfl (by kernel_rfl) (by kernel_rfl) (by kernel_rfl) (by kernel_rfl) (by kernel_rfl) (fun _ _ _ h => h) rfl (fun W1 hW1 => exec_load _ _ _ _ rfl rfl (run_loadCell W1 _ _ _ (cT.out W1 hW1) (agg_no _ (by kernel_rfl)))) (KpS.refl _ _ _) ?_
        simp only [Act.put, List.setIfInBounds_toArray, List.set_cons_zero, List.set_cons_succ]
        refine late_take (i := 1) (v := .slice (some ⟨g, 0, none⟩) (m - 1) (m - 1)) rfl (by kernel_rfl) (by kernel_rfl) (by kernel_rfl) (by kernel_rfl) (by kernel_rfl) (fun _ _ _ h => h) rfl (fun W1 hW1 => exec_load _ _ _ _ rfl rfl (run_loadCell W1 _ _ _ (cT.out W1 hW1) (agg_no _ (by kernel_rfl)))) (KpS.refl _ _ _) ?_
        simp only [Act.put, List.setIfInBounds_toArray, List.set_cons_zero, List.set_cons_succ]
        refine late_do (i := 2) (by kernel_rfl) rfl rfl (wp_enter (f := 57) (args := #[.slice (some ⟨g, 0, none⟩) (m - 1) (m - 1)]) (by go_simp) ((RS8.out.keep ((Keeps.refl [] w8).drew)).xor (by rw [dataL_len]; omega)) ?_)
        rintro e w9 ⟨xa, xc, rfl, x1, x2, x3⟩
        have kp9 : KpS [] w8.heap.size w8.drew w9 := KpS.keeps s0 x3 (Nat.le_refl _) (by simp)
        refine ⟨_, rfl, Or.inr kp9, ?_⟩
        simp only [Act.put, List.setIfInBounds_toArray, List.set_cons_zero, List.set_cons_succ]
        have x3' : Keeps [] w8 w9 := (Keeps.refl [] w8).drew.trans x3
        refine late_do (i := 3) (by kernel_rfl) rfl rfl (wp_value (exec_oneRow _ xa (xorL (dataL d m)).length xc rfl rfl) ?_)
        refine ⟨Or.inr (kp9.alloc (by have := x3'.size; exact this) _), ?_⟩
        simp only [Act.put, List.setIfInBounds_toArray, List.set_cons_zero, List.set_cons_succ]
        have ka : Keeps [] w9 (w9.alloc (.cells #[.slice xa (xorL (dataL d m)).length xc] 34)) := (Keeps.refl [] w9).alloc _
        have hn10 := heap_alloc_new w9 (.cells #[.slice xa (xorL (dataL d m)).length xc] 34)
        obtain ⟨w10, hw10⟩ : ∃ x, x = w9.alloc (.cells #[.slice xa (xorL (dataL d m)).length xc] 34) := ⟨_, rfl⟩
        rw [← hw10] at ka hn10 ⊢
        have k810 : Keeps [] w8 w10 := x3'.trans ka
        obtain ⟨yc, w11, hrun, own11, k11⟩ := append_full w10 g (m - 1) vs xa (xorL (dataL d m)).length xc 26 w9.heap.size ((k810.block g (lt_of_block H8.out) (by simp)).trans H8.out) LV.out (by omega) (by rw [cell_of_row _ _ _ _ _ _ hn10]; rfl)
        refine late_do (i := 4) (by kernel_rfl) rfl rfl (wp_value (exec_appendT 26 _ _ rfl rfl rfl hrun) ?_)
        refine ⟨Or.inl rfl, ?_⟩
        simp only [Act.put, List.setIfInBounds_toArray, List.set_cons_zero, List.set_cons_succ]
        have k811 : Keeps [] w8 w11 := k810.trans k11
        have T11 := (k811.block b9 SB8.out (by simp)).trans T8.out
        obtain ⟨cb, fb⟩ := five_cells T11 0
        simp only [List.getElem?_toArray, List.getElem?_cons_zero] at cb
        refine late_do (i := 5) (by kernel_rfl) rfl rfl (wp_stored (w' := w11.setCell ⟨b9, 0, none⟩ (.slice (some ⟨w10.heap.size, 0, none⟩) (m - 1 + 1) yc)) (by go_simp) ⟨Or.inl rfl, ?_⟩)
        simp only [Act.put, List.setIfInBounds_toArray, List.set_cons_zero, List.set_cons_succ]
        refine wpAnyT_done (by kernel_rfl) ?_ _
        have sk : Keeps [b9] w11 (w11.setCell ⟨b9, 0, none⟩ (.slice (some ⟨w10.heap.size, 0, none⟩) (m - 1 + 1) yc)) := set_keep
        have k812 := (k811.mono (S' := [b9]) (by simp)).trans sk
        have hlt10 : b9 < w10.heap.size := Nat.lt_of_lt_of_le SB8.out k810.size
        have T12 := hid (set_five (i := 0) T11 (.slice (some ⟨w10.heap.size, 0, none⟩) (m - 1 + 1) yc))
        have own12 := ownsRow_setCell_other (a := ⟨b9, 0, none⟩) own11 (by simp [Value.ownBlock]; omega) (.slice (some ⟨w10.heap.size, 0, none⟩) (m - 1 + 1) yc)
        have hh12 : HeadsAt (w11.setCell ⟨b9, 0, none⟩ (.slice (some ⟨w10.heap.size, 0, none⟩) (m - 1 + 1) yc)) g [] vs (dataL d m) :=
          HH7.out.keep (M := []) (K78.out.trans' k812 (fun i hi hm => by simp at hm; have := HB9.out; omega)) (by simp) (fun b hb => by simp at hb)
        have xr12 : RowAt (w11.setCell ⟨b9, 0, none⟩ (.slice (some ⟨w10.heap.size, 0, none⟩) (m - 1 + 1) yc)) (.slice xa (xorL (dataL d m)).length xc) (xorL (dataL d m)) :=
          x1.keep ((ka.trans k11).mono (S' := [b9]) (by simp) |>.trans sk) (off_new13 x2 (fun b hb => by simp at hb; subst hb; exact SB8.out))
        have RS12 := hid (show RsAt (w11.setCell ⟨b9, 0, none⟩ (.slice (some ⟨w10.heap.size, 0, none⟩) (m - 1 + 1) yc)) (.slice (some ⟨w10.heap.size, 0, none⟩) (m - 1 + 1) yc) (rowsL d m) from by
          refine rs_own own12 (by simp [LV.out]) (by rw [rowsL_len n3']; omega) (fun j hj => ?_) (fun l hl => ?_)
          · unfold rowsL
            rw [List.getElem_append]
            split
            · rename_i hj'
              rw [List.getD_eq_getElem?_getD, List.getElem?_append_left (by rw [dataL_len]; have := LV.out; omega), ← List.getD_eq_getElem?_getD]
              exact hh12.row j hj'
            · rename_i hj'
              have hjj : j = m - 1 := by simp at hj; have := LV.out; omega
              subst hjj
              rw [List.getD_eq_getElem?_getD, List.getElem?_append_right (by rw [dataL_len]; exact Nat.le_refl _), dataL_len, Nat.sub_self]
              simpa [LV.out] using xr12
          · unfold rowsL at hl
            rcases List.mem_append.1 hl with hl | hl
            · exact hh12.few l hl
            · simp at hl; subst hl
              rw [xorL_length, longest_data n3']
              have := eN_most HLN.out
              omega)
        have K12 := hid ((K7.out.trans K78.out).trans' k812 (fun i hi hm => by simp at hm; have := HB9.out; have := K7.out.size; omega))
        have k712 : Keeps [] w7 (w11.setCell ⟨b9, 0, none⟩ (.slice (some ⟨w10.heap.size, 0, none⟩) (m - 1 + 1) yc)) := K78.out.trans' k812 (fun i hi hm => by simp at hm; have := HB9.out; omega)
        have L0 := hid (lt_of_block I0.out)
        have J0 := hid ((k712.block w.heap.size (lt_of_block I0.out) (by simp)).trans I0.out)
        have J2 := hid ((k712.block (w.heap.size + 2) (lt_of_block I2.out) (by simp)).trans I2.out)
        have J3 := hid ((k712.block b3 (lt_of_block I3.out) (by simp)).trans I3.out)
        obtain ⟨w12, hw12⟩ : ∃ x, x = w11.setCell ⟨b9, 0, none⟩ (.slice (some ⟨w10.heap.size, 0, none⟩) (m - 1 + 1) yc) := ⟨_, rfl⟩
        obtain ⟨y, hy⟩ : ∃ y, y = w10.heap.size := ⟨_, rfl⟩
        rw [← hw12] at T12 RS12 K12 J0 J2 J3 ⊢
        rw [← hy] at T12 RS12 ⊢
        have hm3 : m - 1 + 1 = m := by omega
        rw [hm3] at T12 RS12 ⊢
        clear hw12 hy hm3 k712 xr12 hh12 own12 hlt10 k812 sk cb fb T11 k811 own11 k11 hrun k810 hn10 ka x1 x2 x3 x3' s0 kp9 hw10
        have c2 := (five_cells J2.out 0).1
        simp only [List.getElem?_toArray, List.getElem?_cons_zero] at c2
        go_wp2_with fail
        refine (gather_any 58 _ m w12 [] (KI w12) (fragL s m d.length (rowsL d m)) (fun _ => False) enters_cutB (by omega) (by omega) (by simp) (KI.start w12) (KI.step w12) (fun k F W hk hI hg hFF => cutB_any w12 w.heap.size (w.heap.size + 1 + 1) b3 b9 s m d.length _ (rowsL d m) n16' (rowsL_len n3') (fun l hl => ?_) (fun i hi => fitH_of HE.out ⟨by omega, by omega, by omega, by have := HLN.out; omega, by omega, by omega⟩) (range_cells (cs := s.cells) J0.out) (lt_of_block J0.out) (five_cells J2.out 0).1 (five_cells J3.out 0).1 (five_cells T12.out 0).1 RS12.out k F W hk hI hg)).mono ?_
        · obtain ⟨i, hi, rfl⟩ := List.getElem_of_mem hl
          rw [rowsL_at n3' hi]
          exact Nat.le_trans (longN_le _ _ _) (eN_most HLN.out)
        rintro e w13 ⟨k13, ⟨F, fs, rfl, hb13, hh13, ⟨rfl, _⟩, _, _⟩ | ⟨⟨_, _, hbad⟩, _⟩⟩
        rotate_left
        · exact hbad.elim
        have HB13 := hid hb13
        have HH13 := hid hh13
        have K13 := hid (K12.out.trans k13)
        clear hb13 hh13 k13 c2
        go_wp2_with fail
        go_ret2
        refine ⟨K13.out, .inr ⟨by rw [HRR.out], w12.heap.size, fs, ?_, HB13.out, ?_, ?_⟩⟩
        · rw [HRR.out, fragsL_len]; rfl
        · rw [HRR.out]; exact HH13.out
        · have := K12.out.size; exact this
end Go.Proofs.Ytoglcohdanpciaa
