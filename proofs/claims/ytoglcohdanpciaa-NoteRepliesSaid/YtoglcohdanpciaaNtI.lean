/- note: Decode, DecodeReply. -/
import Derived.Test.YtoglcohdanpciaaNtH
namespace Go.Proofs.Ytoglcohdanpciaa
open Go.RowKit Go.Shelf
set_option maxRecDepth 100000
set_option linter.unusedSimpArgs false
set_option linter.unusedVariables false

/-- What a request has of its own. -/
def OwQ (w : World) (B : Nat) (vs vd : Value) (r : Rq) : Prop := OwnT KSz 144 w B vs r.ss ∧ OwnT KDl 149 w B vd r.dl
def OwP (w : World) (B : Nat) (ve vm : Value) (r : Rp) : Prop := OwnT KEnt 102 w B ve r.es ∧ ∃ am cm, vm = .slice am r.mp.length cm ∧ RowAt w (.slice am r.mp.length cm) r.mp ∧ ∀ ad, am = some ad → B ≤ ad.block
theorem OwQ.keep {w w' : World} {B : Nat} {vs vd : Value} {r : Rq} {S : List Nat} (h : OwQ w B vs vd r) (k : Keeps S w w') (hS : ∀ b ∈ S, b < B) : OwQ w' B vs vd r := ⟨h.1.keep k hS, h.2.keep k hS⟩
theorem OwQ.weak {w : World} {B B2 : Nat} {vs vd : Value} {r : Rq} (h : OwQ w B vs vd r) (hb : B2 ≤ B) : OwQ w B2 vs vd r := ⟨h.1.weak hb, h.2.weak hb⟩
theorem OwQ.one {w : World} {B : Nat} {vs vd : Value} {r : Rq} (h : OwQ w B vs vd r) : ∀ u ∈ r.cells vs vd, u.oneCell' = true := by
  obtain ⟨a, c, rfl⟩ := h.1.shape
  obtain ⟨a2, c2, rfl⟩ := h.2.shape
  exact one_rq r _ _ _ _ _ _
theorem OwP.keep {w w' : World} {B : Nat} {ve vm : Value} {r : Rp} {S : List Nat} (h : OwP w B ve vm r) (k : Keeps S w w') (hS : ∀ b ∈ S, b < B) : OwP w' B ve vm r := by
  obtain ⟨h1, am, cm, rfl, h2, h3⟩ := h
  refine ⟨h1.keep k hS, am, cm, rfl, h2.keep k (fun ad n c e hne hm => ?_), h3⟩
  injection e with e _ _
  have := h3 ad e
  have := hS _ hm
  omega
theorem OwP.weak {w : World} {B B2 : Nat} {ve vm : Value} {r : Rp} (h : OwP w B ve vm r) (hb : B2 ≤ B) : OwP w B2 ve vm r := by
  obtain ⟨h1, am, cm, rfl, h2, h3⟩ := h
  exact ⟨h1.weak hb, am, cm, rfl, h2, fun ad had => Nat.le_trans hb (h3 ad had)⟩
theorem OwP.one {w : World} {B : Nat} {ve vm : Value} {r : Rp} (h : OwP w B ve vm r) : ∀ u ∈ r.cells ve vm, u.oneCell' = true := by
  obtain ⟨a, c, rfl⟩ := h.1.shape
  obtain ⟨_, am, cm, rfl, _, _⟩ := h
  exact one_rp r _ _ _ _ _ _
theorem two_retN {fn : Func} {p q : Tmp} {T : TypeId} (hr : fn.results = #[.cell p T, .cell q 23]) (hu : ∃ d, Try.prog.underlying T = some d ∧ d.isRow = true) {tmps : Array Value} {w : World} {b : Nat} {d : Addr} {cs : List Value} {why : Value} (hs : (Try.prog.info? T).map (·.size) = some cs.length)
    (hp : tmps.getD p undef = .pointer (some ⟨b, 0, none⟩)) (hx : w.rangeAt b 0 cs) (hq : tmps.getD q undef = .pointer (some d)) (hd : w.cell? d = some why) : (results fn tmps).run Try.prog w = .ok (.tuple #[.agg cs.toArray, why]) w := by
  have hp' : tmps[p]?.getD undef = .pointer (some ⟨b, 0, none⟩) := by simpa using hp
  have hq' : tmps[q]?.getD undef = .pointer (some d) := by simpa using hq
  obtain ⟨dd, hdd, hrow⟩ := hu
  have hv : (loadVar T ⟨b, 0, none⟩).run Try.prog w = .ok (.agg cs.toArray) w := run_loadVar_mid w b 0 T cs dd hx hdd hrow (by rw [hs])
  have hw : (loadVar 23 d).run Try.prog w = .ok why w := loadErrN hd
  simp [results, hr, hp', hq', asAddr, hv, hw]
theorem mix_ret {fn : Func} {p s : Tmp} {T : TypeId} (hr : fn.results = #[.cell p T, .tmp s]) (hu : ∃ d, Try.prog.underlying T = some d ∧ d.isRow = true) {tmps : Array Value} {w : World} {b : Nat} {cs : List Value} {z : Value} (hs : (Try.prog.info? T).map (·.size) = some cs.length)
    (hp : tmps.getD p undef = .pointer (some ⟨b, 0, none⟩)) (hz : tmps.getD s undef = z) (hx : w.rangeAt b 0 cs) : (results fn tmps).run Try.prog w = .ok (.tuple #[.agg cs.toArray, z]) w := by
  have hp' : tmps[p]?.getD undef = .pointer (some ⟨b, 0, none⟩) := by simpa using hp
  have hs' : tmps[s]?.getD undef = z := by simpa using hz
  obtain ⟨dd, hdd, hrow⟩ := hu
  have hv : (loadVar T ⟨b, 0, none⟩).run Try.prog w = .ok (.agg cs.toArray) w := run_loadVar_mid w b 0 T cs dd hx hdd hrow (by rw [hs])
  simp [results, hr, hp', hs', asAddr, hv]

/-- What is built: a thing in new memory; or it gave up. -/
def BlQ (w : World) (y : Int) (r : Rq) (e : Ending) (w' : World) : Prop := Keeps [] w w' ∧ ((y = 0 ∧ ∃ v1 v2, e = .returned (rqV r v1 v2) ∧ OwQ w' w.heap.size v1 v2 r) ∨ (y ≠ 0 ∧ e = gaveUp y))
set_option maxHeartbeats 3200000 in
theorem decCQ_any (w : World) (b : Nat) (v : Value) (zs : List Int) (hb : w.cell? ⟨b, 0, none⟩ = some v) (h : RowAt w v zs) (hl : zs.length ≤ 35184372088832) :
    Calls Try.prog 84 #[.pointer (some ⟨b, 0, none⟩)] w (BlQ w (decW rqC zs) (rqC.g (zs, 0)).1) := by
  have KF := hid ((Keeps.refl [] w).alloc (.cells (rqZ.cells (.slice none 0 0) (.slice none 0 0)).toArray 82))
  have FB := hid (heap_alloc_new w (.cells (rqZ.cells (.slice none 0 0) (.slice none 0 0)).toArray 82))
  have HV := hid (h.keep KF.out (by intro _ _ _ _ _; simp))
  have hc := (KF.out).cell hb (by simp)
  have HL := hid hl
  obtain ⟨y, hy⟩ : ∃ y, y = decW rqC zs := ⟨_, rfl⟩
  obtain ⟨r, hr⟩ : ∃ r, r = (rqC.g (zs, 0)).1 := ⟨_, rfl⟩
  rw [← hy, ← hr]
  have HY := hid hy
  have HR := hid hr
  clear hy hr h hb hl
  go_enter Try.func84, Try.ntmps84
  go_wp2_with (first | (refine wpList_is rfl _ _ (exec_alloc 82 (rqZ.cells (.slice none 0 0) (.slice none 0 0)).toArray iReq rfl) ?_) | fail)
  clear hc
  obtain ⟨w1, hw1⟩ : ∃ x, x = w.alloc (.cells (rqZ.cells (.slice none 0 0) (.slice none 0 0)).toArray 82) := ⟨_, rfl⟩
  have SZ := hid (show w1.heap.size = w.heap.size + 1 by rw [hw1]; simp)
  rw [← hw1] at KF FB HV ⊢
  clear hw1
  refine (newEye_any w1 w1.heap.size v zs HV.out (Nat.le_refl _) HL.out).mono ?_
  rintro e w2 ⟨q, ve, rfl, hq, he, hk, _⟩
  have HQ := hid hq
  have K2 := hid hk
  have E2 : Hid (EyL w2 w2 w1.heap.size q ve (zs, 0)) := hid ⟨ve, he, SameBlk.refl _, fun g hg => off_oldB he.row hg⟩
  clear hq he hk
  go_wp2_with fail
  have A := ntRequest_any w2 w1.heap.size q ve (zs, 0) E2.out (Nat.le_refl _)
  rw [show decS rqC (zs, 0) = y from HY.out.symm, ← HR.out] at A
  refine A.mono ?_
  rintro e w3 ⟨k3, ⟨hy, vs, vd, rfl, o1, o2⟩ | ⟨hy, rfl⟩⟩
  · have HY0 := hid hy
    have OW : Hid (OwQ w3 w2.heap.size vs vd r) := hid ⟨o1, o2⟩
    have F3 := hid ((k3.block w.heap.size (by have := SZ.out; have := K2.out.size; omega) (by have := SZ.out; have := HQ.out; simp; omega)).trans ((K2.out.block w.heap.size (by have := SZ.out; omega) (by simp)).trans FB.out))
    have K3 := hid (show Keeps [] w w3 from (KF.out.trans K2.out).trans' k3 (fun i hi hm => by have := SZ.out; have := HQ.out; simp at hm; omega))
    obtain ⟨q1, q2⟩ := setRow_keepsN (cs := (r.cells vs vd).toArray) F3.out
    have Q1 := hid q1
    have Q2 := hid q2
    clear A k3 hy q1 q2 o1 o2
    go_wp2_with (first | (refine wpList_noval rfl _ (exec_storeWhole 82 _ _ rfl w.heap.size (rqZ.cells (.slice none 0 0) (.slice none 0 0)).toArray (r.cells vs vd) F3.out rfl rfl rfl (by kernel_rfl) OW.out.one) ?_) | fail)
    refine bodyPost_ret (one_ret (cs := r.cells vs vd) rfl uReq (by kernel_rfl) rfl (range_ofN Q1.out rfl)) rfl ?_
    exact ⟨K3.out.trans' Q2.out (fun i hi hm => by simp at hm; omega), Or.inl ⟨HY0.out, _, _, rfl, (OW.out.keep Q2.out (fun b hb => by simp at hb; have := SZ.out; have := K2.out.size; omega)).weak (by have := SZ.out; have := K2.out.size; omega)⟩⟩
  · have HY0 := hid hy
    have K3 := hid (show Keeps [] w w3 from (KF.out.trans K2.out).trans' k3 (fun i hi hm => by have := SZ.out; have := HQ.out; simp at hm; omega))
    clear A k3 hy
    unfold gaveUp
    go_wp2_with fail
    exact ⟨rfl, K3.out, Or.inr ⟨HY0.out, rfl⟩⟩
set_option maxHeartbeats 800000 in
theorem catchQ_panicking (b : Nat) (why : Int) (y : Value) (older : List PanicEntry) (w : World) (hb : w.heap[b]? = some (.cells #[y] 23 (0, 0))) :
    CallsD Try.prog 144 #[.pointer (some ⟨b, 0, none⟩)] (.panicking ({ v := .iface 23 (.int .i64 why), recovered := false } :: older)) w fun e u' w' =>
      e = .returned (.tuple #[]) ∧ u' = .panicking ({ v := .iface 23 (.int .i64 why), recovered := true } :: older) ∧ w' = w.setCell ⟨b, 0, none⟩ (.int .i64 why) := by
  have c0 : w.cell? ⟨b, 0, none⟩ = some y := by simp [World.cell?, hb]
  have f0 : w.frozen? ⟨b, 0, none⟩ = false := by simp [World.frozen?, hb]
  have t1 := ta_hit
  refine callsD_of_wpS Try.func144 rfl fun c₀ cs hu => ?_
  simp only [Try.ntmps144, List.size_toArray, List.length_cons, List.length_nil, Nat.reduceAdd, Nat.reduceSub, Array.replicate_succ,
     Array.replicate_zero, List.push_toArray, List.append_toArray, List.nil_append, List.cons_append]
  have hrec : recoverD (c₀ :: cs) = some (.iface 23 (.int .i64 why), { c₀ with mode := .panicking ({ v := .iface 23 (.int .i64 why), recovered := true } :: older) } :: cs) := by
    simp only [recoverD, hu]
  refine wpS_recover_lit rfl rfl (Or.inl hrec) ?_
  simp only [Act.put]
  go_wp2_with fail
  exact ⟨rfl, _, rfl, .tuple #[], results_none rfl _ _ _, rfl, rfl, rfl⟩
set_option maxHeartbeats 800000 in
theorem catchQ_idle (p : Addr) (w : World) :
    CallsD Try.prog 144 #[.pointer (some p)] .returning w fun e u' w' => e = .returned (.tuple #[]) ∧ u' = .returning ∧ w' = w := by
  have t1 := ta_nil
  refine callsD_of_wpS Try.func144 rfl fun c₀ cs hu => ?_
  simp only [Try.ntmps144, List.size_toArray, List.length_cons, List.length_nil, Nat.reduceAdd, Nat.reduceSub, Array.replicate_succ,
     Array.replicate_zero, List.push_toArray, List.append_toArray, List.nil_append, List.cons_append]
  have hrec : recoverD (c₀ :: cs) = none := by simp only [recoverD, hu]
  refine wpS_recover_lit rfl rfl (Or.inr ⟨hrec, rfl, rfl⟩) ?_
  simp only [Act.put]
  go_wp2_with fail
  refine ⟨rfl, .returning, ?_, .tuple #[], results_none rfl _ _ _, rfl, rfl, rfl⟩
  rw [← hu]
/-- What is answered of bytes. -/
def DeQ (w : World) (y : Int) (r : Rq) (e : Ending) (w' : World) : Prop :=
  Keeps [] w w' ∧ ((y = 0 ∧ ∃ v1 v2, e = .returned (.tuple #[rqV r v1 v2, .int .i64 0]) ∧ OwQ w' w.heap.size v1 v2 r) ∨ (y ≠ 0 ∧ e = .returned (.tuple #[rqV rqZ (.slice none 0 0) (.slice none 0 0), .int .i64 y])))
set_option maxHeartbeats 6400000 in
theorem attQ_any (w : World) (b : Nat) (v : Value) (zs : List Int) (hb : w.cell? ⟨b, 0, none⟩ = some v) (h : RowAt w v zs) (hl : zs.length ≤ 35184372088832) :
    Calls Try.prog 83 #[.func (.func 84) #[] #[.pointer (some ⟨b, 0, none⟩)]] w (DeQ w (decW rqC zs) (rqC.g (zs, 0)).1) := by
  have hmf : ∀ (fn : Fn) (first cap : Array Value) (w : World), (Instr.makeFunc fn first cap).run Try.prog w = .ok (.func fn first cap) w := fun _ _ _ _ => rfl
  have ka : Keeps [] w (w.alloc (.cells (rqZ.cells (.slice none 0 0) (.slice none 0 0)).toArray 82)) := (Keeps.refl [] w).alloc _
  have kb : Keeps [] w ((w.alloc (.cells (rqZ.cells (.slice none 0 0) (.slice none 0 0)).toArray 82)).alloc (.cells #[.int .i64 0] 23)) := ka.alloc _
  have EB := hid (heap_alloc_new (w.alloc (.cells (rqZ.cells (.slice none 0 0) (.slice none 0 0)).toArray 82)) (.cells #[.int .i64 0] 23))
  rw [World.size_alloc] at EB
  have FB : Hid (((w.alloc (.cells (rqZ.cells (.slice none 0 0) (.slice none 0 0)).toArray 82)).alloc (.cells #[.int .i64 0] 23)).heap[w.heap.size]? = some (.cells (rqZ.cells (.slice none 0 0) (.slice none 0 0)).toArray 82 (0, 0))) :=
    hid ((((Keeps.refl [] _).alloc _).block w.heap.size (by simp) (by simp)).trans (heap_alloc_new w _))
  have KB := hid kb
  have HV := hid (h.keep kb (by intro _ _ _ _ _; simp))
  have hc := hid (kb.cell hb (by simp))
  have HL := hid hl
  have HS0 := hid (show ((w.alloc (.cells (rqZ.cells (.slice none 0 0) (.slice none 0 0)).toArray 82)).alloc (.cells #[.int .i64 0] 23)).heap.size = w.heap.size + 2 by simp)
  obtain ⟨y, hy⟩ : ∃ y, y = decW rqC zs := ⟨_, rfl⟩
  obtain ⟨r, hr⟩ : ∃ r, r = (rqC.g (zs, 0)).1 := ⟨_, rfl⟩
  have A := decCQ_any _ b v zs hc.out HV.out HL.out
  rw [← hy, ← hr] at A ⊢
  have AH := hid A
  clear hy hr h hb ka kb A
  go_enter_defers Try.func83, Try.ntmps83
  go_wp2_with (first | (refine wpList_is rfl _ _ (exec_alloc 82 (rqZ.cells (.slice none 0 0) (.slice none 0 0)).toArray iReq rfl) ?_) | fail)
  refine AH.out.mono ?_
  rintro e w2 ⟨k2, ⟨hy, vs, vd, rfl, ow⟩ | ⟨hy, rfl⟩⟩
  · have HY := hid hy
    have K2 := hid (KB.out.trans k2)
    have F2 := hid ((k2.block w.heap.size (by simp; omega) (by simp)).trans FB.out)
    have E2 := hid ((k2.block (w.heap.size + 1) (by simp) (by simp)).trans EB.out)
    have OW := hid ow
    obtain ⟨q1, q2⟩ := setRow_keepsN (cs := (r.cells vs vd).toArray) F2.out
    have E3 := hid ((q2.block (w.heap.size + 1) (lt_of_block E2.out) (by simp)).trans E2.out)
    have Q1 := hid q1
    have Q2 := hid (K2.out.trans' q2 (fun i hi hm => by simp at hm; omega))
    have OW3 := hid (OW.out.keep q2 (fun b hb => by have := HS0.out; simp at hb; omega))
    obtain ⟨w3, hw3⟩ : ∃ x, x = w2.setRow w.heap.size (r.cells vs vd).toArray := ⟨_, rfl⟩
    rw [← hw3] at E3 Q1 Q2 OW3
    have HW3 := hid hw3
    obtain ⟨cc, ff⟩ := five_cells E3.out 0
    simp only [List.getElem?_toArray, List.getElem?_cons_zero] at cc
    clear q1 q2 ow hy hw3 k2
    go_wp2_with (first | (refine wpList_noval rfl _ (exec_storeWhole 82 _ _ rfl w.heap.size (rqZ.cells (.slice none 0 0) (.slice none 0 0)).toArray (r.cells vs vd) F2.out rfl rfl rfl (by kernel_rfl) OW.out.one) ?_; rw [← HW3.out]) | fail)
    refine leaves_cons (f := 144) (args := #[.pointer (some ⟨w.heap.size + 1, 0, none⟩)]) (by simp) (by simp [go_sem]) ?_
    refine (catchQ_idle _ _).mono ?_
    rintro e u' w4 ⟨rfl, rfl, rfl⟩
    have sk : Keeps [w.heap.size + 1] w3 (w3.setCell ⟨w.heap.size + 1, 0, none⟩ (.int .i64 0)) := set_keep
    have LT := lt_of_block Q1.out
    have q1 := (sk.block w.heap.size LT (by simp)).trans Q1.out
    have q3 := set_five (i := 0) E3.out (.int .i64 0)
    refine ⟨_, two_retN (cs := r.cells vs vd) (why := .int .i64 0) rfl uReq (by kernel_rfl) rfl (range_ofN q1 rfl) rfl (five_cells q3 0).1, Q2.out.trans' sk (fun i hi hm => by simp at hm; omega), Or.inl ⟨HY.out, vs, vd, rfl, (OW3.out.keep sk (fun b hb => by have := HS0.out; simp at hb; omega)).weak (by have := HS0.out; omega)⟩⟩
  · have HY := hid hy
    have K2 := hid (KB.out.trans k2)
    have F2 := hid ((k2.block w.heap.size (by simp; omega) (by simp)).trans FB.out)
    have E2 := hid ((k2.block (w.heap.size + 1) (by simp) (by simp)).trans EB.out)
    clear hy k2
    unfold gaveUp
    go_wp2_with fail
    refine leaves_cons (f := 144) (args := #[.pointer (some ⟨w.heap.size + 1, 0, none⟩)]) (by simp) (by simp [go_sem]) ?_
    refine (catchQ_panicking (w.heap.size + 1) _ _ [] w2 E2.out).mono ?_
    rintro e u' w4 ⟨rfl, rfl, rfl⟩
    have sk : Keeps [w.heap.size + 1] w2 (w2.setCell ⟨w.heap.size + 1, 0, none⟩ (.int .i64 y)) := set_keep
    have q1 := (sk.block w.heap.size (lt_of_block F2.out) (by simp)).trans F2.out
    have q3 := set_five (i := 0) E2.out (.int .i64 y)
    refine ⟨_, two_retN (cs := rqZ.cells (.slice none 0 0) (.slice none 0 0)) (why := .int .i64 y) rfl uReq (by kernel_rfl) rfl (range_ofN q1 rfl) rfl (five_cells q3 0).1, K2.out.trans' sk (fun i hi hm => by simp at hm; omega), Or.inr ⟨HY.out, rfl⟩⟩
set_option maxHeartbeats 6400000 in
theorem decQ_any (w : World) (v : Value) (zs : List Int) (h : RowAt w v zs) (hl : zs.length ≤ 35184372088832) :
    Calls Try.prog 40 #[v] w (DeQ w (decW rqC zs) (rqC.g (zs, 0)).1) := by
  have hmf : ∀ (fn : Fn) (first cap : Array Value) (w : World), (Instr.makeFunc fn first cap).run Try.prog w = .ok (.func fn first cap) w := fun _ _ _ _ => rfl
  obtain ⟨a0, c0, rfl⟩ : ∃ a c, v = .slice a zs.length c := by obtain ⟨a, c, e, _⟩ := h; exact ⟨a, c, e⟩
  have ka : Keeps [] w (w.alloc (.cells #[.slice a0 zs.length c0] 34)) := (Keeps.refl [] w).alloc _
  have kb : Keeps [] w ((w.alloc (.cells #[.slice a0 zs.length c0] 34)).alloc (.cells (rqZ.cells (.slice none 0 0) (.slice none 0 0)).toArray 82)) := ka.alloc _
  have CB : ((w.alloc (.cells #[.slice a0 zs.length c0] 34)).alloc (.cells (rqZ.cells (.slice none 0 0) (.slice none 0 0)).toArray 82)).cell? ⟨w.heap.size, 0, none⟩ = some (.slice a0 zs.length c0) := ((Keeps.refl [] _).alloc _).cell (five_cells (heap_alloc_new w (.cells #[.slice a0 zs.length c0] 34)) 0).1 (by simp)
  have FB := hid (heap_alloc_new (w.alloc (.cells #[.slice a0 zs.length c0] 34)) (.cells (rqZ.cells (.slice none 0 0) (.slice none 0 0)).toArray 82))
  rw [World.size_alloc] at FB
  have KB := hid kb
  have A := hid (attQ_any _ w.heap.size _ zs CB (h.keep kb (by intro _ _ _ _ _; simp)) hl)
  have HS0 := hid (show ((w.alloc (.cells #[.slice a0 zs.length c0] 34)).alloc (.cells (rqZ.cells (.slice none 0 0) (.slice none 0 0)).toArray 82)).heap.size = w.heap.size + 2 by simp)
  obtain ⟨y, hy⟩ : ∃ y, y = decW rqC zs := ⟨_, rfl⟩
  obtain ⟨r, hr⟩ : ∃ r, r = (rqC.g (zs, 0)).1 := ⟨_, rfl⟩
  rw [← hy, ← hr] at A ⊢
  clear hy hr h hl ka kb CB
  go_enter Try.func40, Try.ntmps40
  go_wp2_with (first | (refine wpList_is rfl _ _ (exec_alloc 82 (rqZ.cells (.slice none 0 0) (.slice none 0 0)).toArray iReq rfl) ?_) | fail)
  refine A.out.mono ?_
  rintro e w2 ⟨k2, ⟨hy, vs, vd, rfl, ow⟩ | ⟨hy, rfl⟩⟩
  · have HY := hid hy
    have K2 := hid (KB.out.trans k2)
    have F2 := hid ((k2.block (w.heap.size + 1) (by have := HS0.out; omega) (by simp)).trans FB.out)
    have OW := hid ow
    obtain ⟨q1, q2⟩ := setRow_keepsN (cs := (r.cells vs vd).toArray) F2.out
    have Q1 := hid q1
    have Q2 := hid q2
    clear q1 q2 ow hy k2
    go_wp2_with (first | (refine wpList_noval rfl _ (exec_storeWhole 82 _ _ rfl (w.heap.size + 1) (rqZ.cells (.slice none 0 0) (.slice none 0 0)).toArray (r.cells vs vd) F2.out rfl rfl rfl (by kernel_rfl) OW.out.one) ?_) | fail)
    refine bodyPost_ret (mix_ret (cs := r.cells vs vd) (z := .int .i64 0) rfl uReq (by kernel_rfl) rfl rfl (range_ofN Q1.out rfl)) rfl ?_
    exact ⟨K2.out.trans' Q2.out (fun i hi hm => by simp at hm; omega), Or.inl ⟨HY.out, vs, vd, rfl, (OW.out.keep Q2.out (fun b hb => by have := HS0.out; simp at hb; omega)).weak (by have := HS0.out; omega)⟩⟩
  · have HY := hid hy
    have K2 := hid (KB.out.trans k2)
    have F2 := hid ((k2.block (w.heap.size + 1) (by have := HS0.out; omega) (by simp)).trans FB.out)
    obtain ⟨q1, q2⟩ := setRow_keepsN (cs := (rqZ.cells (.slice none 0 0) (.slice none 0 0)).toArray) F2.out
    have Q1 := hid q1
    have Q2 := hid q2
    clear q1 q2 hy k2
    go_wp2_with (first | (refine wpList_noval rfl _ (exec_storeWhole 82 _ _ rfl (w.heap.size + 1) (rqZ.cells (.slice none 0 0) (.slice none 0 0)).toArray (rqZ.cells (.slice none 0 0) (.slice none 0 0)) F2.out rfl rfl rfl (by kernel_rfl) (one_rq _ _ _ _ _ _ _)) ?_) | fail)
    refine bodyPost_ret (mix_ret (cs := rqZ.cells (.slice none 0 0) (.slice none 0 0)) (z := .int .i64 y) rfl uReq (by kernel_rfl) rfl rfl (range_ofN Q1.out rfl)) rfl ?_
    exact ⟨K2.out.trans' Q2.out (fun i hi hm => by simp at hm; omega), Or.inr ⟨HY.out, rfl⟩⟩

/-- What is built: a thing in new memory; or it gave up. -/
def BlP (w : World) (y : Int) (r : Rp) (e : Ending) (w' : World) : Prop := Keeps [] w w' ∧ ((y = 0 ∧ ∃ v1 v2, e = .returned (rpV r v1 v2) ∧ OwP w' w.heap.size v1 v2 r) ∨ (y ≠ 0 ∧ e = gaveUp y))
set_option maxHeartbeats 3200000 in
theorem decCP_any (w : World) (b : Nat) (v : Value) (zs : List Int) (hb : w.cell? ⟨b, 0, none⟩ = some v) (h : RowAt w v zs) (hl : zs.length ≤ 35184372088832) :
    Calls Try.prog 79 #[.pointer (some ⟨b, 0, none⟩)] w (BlP w (decW rpC zs) (rpC.g (zs, 0)).1) := by
  have KF := hid ((Keeps.refl [] w).alloc (.cells (rpZ.cells (.slice none 0 0) (.slice none 0 0)).toArray 73))
  have FB := hid (heap_alloc_new w (.cells (rpZ.cells (.slice none 0 0) (.slice none 0 0)).toArray 73))
  have HV := hid (h.keep KF.out (by intro _ _ _ _ _; simp))
  have hc := (KF.out).cell hb (by simp)
  have HL := hid hl
  obtain ⟨y, hy⟩ : ∃ y, y = decW rpC zs := ⟨_, rfl⟩
  obtain ⟨r, hr⟩ : ∃ r, r = (rpC.g (zs, 0)).1 := ⟨_, rfl⟩
  rw [← hy, ← hr]
  have HY := hid hy
  have HR := hid hr
  clear hy hr h hb hl
  go_enter Try.func79, Try.ntmps79
  go_wp2_with (first | (refine wpList_is rfl _ _ (exec_alloc 73 (rpZ.cells (.slice none 0 0) (.slice none 0 0)).toArray iRep rfl) ?_) | fail)
  clear hc
  obtain ⟨w1, hw1⟩ : ∃ x, x = w.alloc (.cells (rpZ.cells (.slice none 0 0) (.slice none 0 0)).toArray 73) := ⟨_, rfl⟩
  have SZ := hid (show w1.heap.size = w.heap.size + 1 by rw [hw1]; simp)
  rw [← hw1] at KF FB HV ⊢
  clear hw1
  refine (newEye_any w1 w1.heap.size v zs HV.out (Nat.le_refl _) HL.out).mono ?_
  rintro e w2 ⟨q, ve, rfl, hq, he, hk, _⟩
  have HQ := hid hq
  have K2 := hid hk
  have E2 : Hid (EyL w2 w2 w1.heap.size q ve (zs, 0)) := hid ⟨ve, he, SameBlk.refl _, fun g hg => off_oldB he.row hg⟩
  clear hq he hk
  go_wp2_with fail
  have A := ntReply_any w2 w1.heap.size q ve (zs, 0) E2.out (Nat.le_refl _)
  rw [show decS rpC (zs, 0) = y from HY.out.symm, ← HR.out] at A
  refine A.mono ?_
  rintro e w3 ⟨k3, ⟨hy, vs, am, cm, rfl, o1, o2, o3⟩ | ⟨hy, rfl⟩⟩
  · have HY0 := hid hy
    have OW : Hid (OwP w3 w2.heap.size vs (.slice am r.mp.length cm) r) := hid ⟨o1, am, cm, rfl, o2, o3⟩
    have F3 := hid ((k3.block w.heap.size (by have := SZ.out; have := K2.out.size; omega) (by have := SZ.out; have := HQ.out; simp; omega)).trans ((K2.out.block w.heap.size (by have := SZ.out; omega) (by simp)).trans FB.out))
    have K3 := hid (show Keeps [] w w3 from (KF.out.trans K2.out).trans' k3 (fun i hi hm => by have := SZ.out; have := HQ.out; simp at hm; omega))
    obtain ⟨q1, q2⟩ := setRow_keepsN (cs := (r.cells vs (.slice am r.mp.length cm)).toArray) F3.out
    have Q1 := hid q1
    have Q2 := hid q2
    clear A k3 hy q1 q2 o1 o2 o3
    go_wp2_with (first | (refine wpList_noval rfl _ (exec_storeWhole 73 _ _ rfl w.heap.size (rpZ.cells (.slice none 0 0) (.slice none 0 0)).toArray (r.cells vs (.slice am r.mp.length cm)) F3.out rfl rfl rfl (by kernel_rfl) OW.out.one) ?_) | fail)
    refine bodyPost_ret (one_ret (cs := r.cells vs (.slice am r.mp.length cm)) rfl uRep (by kernel_rfl) rfl (range_ofN Q1.out rfl)) rfl ?_
    exact ⟨K3.out.trans' Q2.out (fun i hi hm => by simp at hm; omega), Or.inl ⟨HY0.out, _, _, rfl, (OW.out.keep Q2.out (fun b hb => by simp at hb; have := SZ.out; have := K2.out.size; omega)).weak (by have := SZ.out; have := K2.out.size; omega)⟩⟩
  · have HY0 := hid hy
    have K3 := hid (show Keeps [] w w3 from (KF.out.trans K2.out).trans' k3 (fun i hi hm => by have := SZ.out; have := HQ.out; simp at hm; omega))
    clear A k3 hy
    unfold gaveUp
    go_wp2_with fail
    exact ⟨rfl, K3.out, Or.inr ⟨HY0.out, rfl⟩⟩
set_option maxHeartbeats 800000 in
theorem catchP_panicking (b : Nat) (why : Int) (y : Value) (older : List PanicEntry) (w : World) (hb : w.heap[b]? = some (.cells #[y] 23 (0, 0))) :
    CallsD Try.prog 129 #[.pointer (some ⟨b, 0, none⟩)] (.panicking ({ v := .iface 23 (.int .i64 why), recovered := false } :: older)) w fun e u' w' =>
      e = .returned (.tuple #[]) ∧ u' = .panicking ({ v := .iface 23 (.int .i64 why), recovered := true } :: older) ∧ w' = w.setCell ⟨b, 0, none⟩ (.int .i64 why) := by
  have c0 : w.cell? ⟨b, 0, none⟩ = some y := by simp [World.cell?, hb]
  have f0 : w.frozen? ⟨b, 0, none⟩ = false := by simp [World.frozen?, hb]
  have t1 := ta_hit
  refine callsD_of_wpS Try.func129 rfl fun c₀ cs hu => ?_
  simp only [Try.ntmps129, List.size_toArray, List.length_cons, List.length_nil, Nat.reduceAdd, Nat.reduceSub, Array.replicate_succ,
     Array.replicate_zero, List.push_toArray, List.append_toArray, List.nil_append, List.cons_append]
  have hrec : recoverD (c₀ :: cs) = some (.iface 23 (.int .i64 why), { c₀ with mode := .panicking ({ v := .iface 23 (.int .i64 why), recovered := true } :: older) } :: cs) := by
    simp only [recoverD, hu]
  refine wpS_recover_lit rfl rfl (Or.inl hrec) ?_
  simp only [Act.put]
  go_wp2_with fail
  exact ⟨rfl, _, rfl, .tuple #[], results_none rfl _ _ _, rfl, rfl, rfl⟩
set_option maxHeartbeats 800000 in
theorem catchP_idle (p : Addr) (w : World) :
    CallsD Try.prog 129 #[.pointer (some p)] .returning w fun e u' w' => e = .returned (.tuple #[]) ∧ u' = .returning ∧ w' = w := by
  have t1 := ta_nil
  refine callsD_of_wpS Try.func129 rfl fun c₀ cs hu => ?_
  simp only [Try.ntmps129, List.size_toArray, List.length_cons, List.length_nil, Nat.reduceAdd, Nat.reduceSub, Array.replicate_succ,
     Array.replicate_zero, List.push_toArray, List.append_toArray, List.nil_append, List.cons_append]
  have hrec : recoverD (c₀ :: cs) = none := by simp only [recoverD, hu]
  refine wpS_recover_lit rfl rfl (Or.inr ⟨hrec, rfl, rfl⟩) ?_
  simp only [Act.put]
  go_wp2_with fail
  refine ⟨rfl, .returning, ?_, .tuple #[], results_none rfl _ _ _, rfl, rfl, rfl⟩
  rw [← hu]
/-- What is answered of bytes. -/
def DeP (w : World) (y : Int) (r : Rp) (e : Ending) (w' : World) : Prop :=
  Keeps [] w w' ∧ ((y = 0 ∧ ∃ v1 v2, e = .returned (.tuple #[rpV r v1 v2, .int .i64 0]) ∧ OwP w' w.heap.size v1 v2 r) ∨ (y ≠ 0 ∧ e = .returned (.tuple #[rpV rpZ (.slice none 0 0) (.slice none 0 0), .int .i64 y])))
set_option maxHeartbeats 6400000 in
theorem attP_any (w : World) (b : Nat) (v : Value) (zs : List Int) (hb : w.cell? ⟨b, 0, none⟩ = some v) (h : RowAt w v zs) (hl : zs.length ≤ 35184372088832) :
    Calls Try.prog 78 #[.func (.func 79) #[] #[.pointer (some ⟨b, 0, none⟩)]] w (DeP w (decW rpC zs) (rpC.g (zs, 0)).1) := by
  have hmf : ∀ (fn : Fn) (first cap : Array Value) (w : World), (Instr.makeFunc fn first cap).run Try.prog w = .ok (.func fn first cap) w := fun _ _ _ _ => rfl
  have ka : Keeps [] w (w.alloc (.cells (rpZ.cells (.slice none 0 0) (.slice none 0 0)).toArray 73)) := (Keeps.refl [] w).alloc _
  have kb : Keeps [] w ((w.alloc (.cells (rpZ.cells (.slice none 0 0) (.slice none 0 0)).toArray 73)).alloc (.cells #[.int .i64 0] 23)) := ka.alloc _
  have EB := hid (heap_alloc_new (w.alloc (.cells (rpZ.cells (.slice none 0 0) (.slice none 0 0)).toArray 73)) (.cells #[.int .i64 0] 23))
  rw [World.size_alloc] at EB
  have FB : Hid (((w.alloc (.cells (rpZ.cells (.slice none 0 0) (.slice none 0 0)).toArray 73)).alloc (.cells #[.int .i64 0] 23)).heap[w.heap.size]? = some (.cells (rpZ.cells (.slice none 0 0) (.slice none 0 0)).toArray 73 (0, 0))) :=
    hid ((((Keeps.refl [] _).alloc _).block w.heap.size (by simp) (by simp)).trans (heap_alloc_new w _))
  have KB := hid kb
  have HV := hid (h.keep kb (by intro _ _ _ _ _; simp))
  have hc := hid (kb.cell hb (by simp))
  have HL := hid hl
  have HS0 := hid (show ((w.alloc (.cells (rpZ.cells (.slice none 0 0) (.slice none 0 0)).toArray 73)).alloc (.cells #[.int .i64 0] 23)).heap.size = w.heap.size + 2 by simp)
  obtain ⟨y, hy⟩ : ∃ y, y = decW rpC zs := ⟨_, rfl⟩
  obtain ⟨r, hr⟩ : ∃ r, r = (rpC.g (zs, 0)).1 := ⟨_, rfl⟩
  have A := decCP_any _ b v zs hc.out HV.out HL.out
  rw [← hy, ← hr] at A ⊢
  have AH := hid A
  clear hy hr h hb ka kb A
  go_enter_defers Try.func78, Try.ntmps78
  go_wp2_with (first | (refine wpList_is rfl _ _ (exec_alloc 73 (rpZ.cells (.slice none 0 0) (.slice none 0 0)).toArray iRep rfl) ?_) | fail)
  refine AH.out.mono ?_
  rintro e w2 ⟨k2, ⟨hy, vs, vd, rfl, ow⟩ | ⟨hy, rfl⟩⟩
  · have HY := hid hy
    have K2 := hid (KB.out.trans k2)
    have F2 := hid ((k2.block w.heap.size (by simp; omega) (by simp)).trans FB.out)
    have E2 := hid ((k2.block (w.heap.size + 1) (by simp) (by simp)).trans EB.out)
    have OW := hid ow
    obtain ⟨q1, q2⟩ := setRow_keepsN (cs := (r.cells vs vd).toArray) F2.out
    have E3 := hid ((q2.block (w.heap.size + 1) (lt_of_block E2.out) (by simp)).trans E2.out)
    have Q1 := hid q1
    have Q2 := hid (K2.out.trans' q2 (fun i hi hm => by simp at hm; omega))
    have OW3 := hid (OW.out.keep q2 (fun b hb => by have := HS0.out; simp at hb; omega))
    obtain ⟨w3, hw3⟩ : ∃ x, x = w2.setRow w.heap.size (r.cells vs vd).toArray := ⟨_, rfl⟩
    rw [← hw3] at E3 Q1 Q2 OW3
    have HW3 := hid hw3
    obtain ⟨cc, ff⟩ := five_cells E3.out 0
    simp only [List.getElem?_toArray, List.getElem?_cons_zero] at cc
    clear q1 q2 ow hy hw3 k2
    go_wp2_with (first | (refine wpList_noval rfl _ (exec_storeWhole 73 _ _ rfl w.heap.size (rpZ.cells (.slice none 0 0) (.slice none 0 0)).toArray (r.cells vs vd) F2.out rfl rfl rfl (by kernel_rfl) OW.out.one) ?_; rw [← HW3.out]) | fail)
    refine leaves_cons (f := 129) (args := #[.pointer (some ⟨w.heap.size + 1, 0, none⟩)]) (by simp) (by simp [go_sem]) ?_
    refine (catchP_idle _ _).mono ?_
    rintro e u' w4 ⟨rfl, rfl, rfl⟩
    have sk : Keeps [w.heap.size + 1] w3 (w3.setCell ⟨w.heap.size + 1, 0, none⟩ (.int .i64 0)) := set_keep
    have LT := lt_of_block Q1.out
    have q1 := (sk.block w.heap.size LT (by simp)).trans Q1.out
    have q3 := set_five (i := 0) E3.out (.int .i64 0)
    refine ⟨_, two_retN (cs := r.cells vs vd) (why := .int .i64 0) rfl uRep (by kernel_rfl) rfl (range_ofN q1 rfl) rfl (five_cells q3 0).1, Q2.out.trans' sk (fun i hi hm => by simp at hm; omega), Or.inl ⟨HY.out, vs, vd, rfl, (OW3.out.keep sk (fun b hb => by have := HS0.out; simp at hb; omega)).weak (by have := HS0.out; omega)⟩⟩
  · have HY := hid hy
    have K2 := hid (KB.out.trans k2)
    have F2 := hid ((k2.block w.heap.size (by simp; omega) (by simp)).trans FB.out)
    have E2 := hid ((k2.block (w.heap.size + 1) (by simp) (by simp)).trans EB.out)
    clear hy k2
    unfold gaveUp
    go_wp2_with fail
    refine leaves_cons (f := 129) (args := #[.pointer (some ⟨w.heap.size + 1, 0, none⟩)]) (by simp) (by simp [go_sem]) ?_
    refine (catchP_panicking (w.heap.size + 1) _ _ [] w2 E2.out).mono ?_
    rintro e u' w4 ⟨rfl, rfl, rfl⟩
    have sk : Keeps [w.heap.size + 1] w2 (w2.setCell ⟨w.heap.size + 1, 0, none⟩ (.int .i64 y)) := set_keep
    have q1 := (sk.block w.heap.size (lt_of_block F2.out) (by simp)).trans F2.out
    have q3 := set_five (i := 0) E2.out (.int .i64 y)
    refine ⟨_, two_retN (cs := rpZ.cells (.slice none 0 0) (.slice none 0 0)) (why := .int .i64 y) rfl uRep (by kernel_rfl) rfl (range_ofN q1 rfl) rfl (five_cells q3 0).1, K2.out.trans' sk (fun i hi hm => by simp at hm; omega), Or.inr ⟨HY.out, rfl⟩⟩
set_option maxHeartbeats 6400000 in
theorem decP_any (w : World) (v : Value) (zs : List Int) (h : RowAt w v zs) (hl : zs.length ≤ 35184372088832) :
    Calls Try.prog 38 #[v] w (DeP w (decW rpC zs) (rpC.g (zs, 0)).1) := by
  have hmf : ∀ (fn : Fn) (first cap : Array Value) (w : World), (Instr.makeFunc fn first cap).run Try.prog w = .ok (.func fn first cap) w := fun _ _ _ _ => rfl
  obtain ⟨a0, c0, rfl⟩ : ∃ a c, v = .slice a zs.length c := by obtain ⟨a, c, e, _⟩ := h; exact ⟨a, c, e⟩
  have ka : Keeps [] w (w.alloc (.cells #[.slice a0 zs.length c0] 34)) := (Keeps.refl [] w).alloc _
  have kb : Keeps [] w ((w.alloc (.cells #[.slice a0 zs.length c0] 34)).alloc (.cells (rpZ.cells (.slice none 0 0) (.slice none 0 0)).toArray 73)) := ka.alloc _
  have CB : ((w.alloc (.cells #[.slice a0 zs.length c0] 34)).alloc (.cells (rpZ.cells (.slice none 0 0) (.slice none 0 0)).toArray 73)).cell? ⟨w.heap.size, 0, none⟩ = some (.slice a0 zs.length c0) := ((Keeps.refl [] _).alloc _).cell (five_cells (heap_alloc_new w (.cells #[.slice a0 zs.length c0] 34)) 0).1 (by simp)
  have FB := hid (heap_alloc_new (w.alloc (.cells #[.slice a0 zs.length c0] 34)) (.cells (rpZ.cells (.slice none 0 0) (.slice none 0 0)).toArray 73))
  rw [World.size_alloc] at FB
  have KB := hid kb
  have A := hid (attP_any _ w.heap.size _ zs CB (h.keep kb (by intro _ _ _ _ _; simp)) hl)
  have HS0 := hid (show ((w.alloc (.cells #[.slice a0 zs.length c0] 34)).alloc (.cells (rpZ.cells (.slice none 0 0) (.slice none 0 0)).toArray 73)).heap.size = w.heap.size + 2 by simp)
  obtain ⟨y, hy⟩ : ∃ y, y = decW rpC zs := ⟨_, rfl⟩
  obtain ⟨r, hr⟩ : ∃ r, r = (rpC.g (zs, 0)).1 := ⟨_, rfl⟩
  rw [← hy, ← hr] at A ⊢
  clear hy hr h hl ka kb CB
  go_enter Try.func38, Try.ntmps38
  go_wp2_with (first | (refine wpList_is rfl _ _ (exec_alloc 73 (rpZ.cells (.slice none 0 0) (.slice none 0 0)).toArray iRep rfl) ?_) | fail)
  refine A.out.mono ?_
  rintro e w2 ⟨k2, ⟨hy, vs, vd, rfl, ow⟩ | ⟨hy, rfl⟩⟩
  · have HY := hid hy
    have K2 := hid (KB.out.trans k2)
    have F2 := hid ((k2.block (w.heap.size + 1) (by have := HS0.out; omega) (by simp)).trans FB.out)
    have OW := hid ow
    obtain ⟨q1, q2⟩ := setRow_keepsN (cs := (r.cells vs vd).toArray) F2.out
    have Q1 := hid q1
    have Q2 := hid q2
    clear q1 q2 ow hy k2
    go_wp2_with (first | (refine wpList_noval rfl _ (exec_storeWhole 73 _ _ rfl (w.heap.size + 1) (rpZ.cells (.slice none 0 0) (.slice none 0 0)).toArray (r.cells vs vd) F2.out rfl rfl rfl (by kernel_rfl) OW.out.one) ?_) | fail)
    refine bodyPost_ret (mix_ret (cs := r.cells vs vd) (z := .int .i64 0) rfl uRep (by kernel_rfl) rfl rfl (range_ofN Q1.out rfl)) rfl ?_
    exact ⟨K2.out.trans' Q2.out (fun i hi hm => by simp at hm; omega), Or.inl ⟨HY.out, vs, vd, rfl, (OW.out.keep Q2.out (fun b hb => by have := HS0.out; simp at hb; omega)).weak (by have := HS0.out; omega)⟩⟩
  · have HY := hid hy
    have K2 := hid (KB.out.trans k2)
    have F2 := hid ((k2.block (w.heap.size + 1) (by have := HS0.out; omega) (by simp)).trans FB.out)
    obtain ⟨q1, q2⟩ := setRow_keepsN (cs := (rpZ.cells (.slice none 0 0) (.slice none 0 0)).toArray) F2.out
    have Q1 := hid q1
    have Q2 := hid q2
    clear q1 q2 hy k2
    go_wp2_with (first | (refine wpList_noval rfl _ (exec_storeWhole 73 _ _ rfl (w.heap.size + 1) (rpZ.cells (.slice none 0 0) (.slice none 0 0)).toArray (rpZ.cells (.slice none 0 0) (.slice none 0 0)) F2.out rfl rfl rfl (by kernel_rfl) (one_rp _ _ _ _ _ _ _)) ?_) | fail)
    refine bodyPost_ret (mix_ret (cs := rpZ.cells (.slice none 0 0) (.slice none 0 0)) (z := .int .i64 y) rfl uRep (by kernel_rfl) rfl rfl (range_ofN Q1.out rfl)) rfl ?_
    exact ⟨K2.out.trans' Q2.out (fun i hi hm => by simp at hm; omega), Or.inr ⟨HY.out, rfl⟩⟩

end Go.Proofs.Ytoglcohdanpciaa
