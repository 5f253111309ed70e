/- NtQ, NtV, NtO, NtS, NtU, NtX1, NtX, NtY, NtAskW, NtT, NtAsks. -/
import Derived.Test.YtoglcohdanpciaaNtL
import Derived.Test.YtoglcohdanpciaaNtK
import Derived.Test.YtoglcohdanpciaaJB2
import Derived.Test.YtoglcohdanpciaaDeJ
import Derived.Test.YtoglcohdanpciaaJR
import Derived.Test.YtoglcohdanpciaaJP
import Derived.Test.YtoglcohdanpciaaNtI
import Derived.Test.YtoglcohdanpciaaBkEc
import Derived.Test.YtoglcohdanpciaaDeH
import Derived.Deep.CutBlock
import Derived.Deep.Cut
import Derived.Test.YtoglcohdanpciaaNtP
import Derived.Test.YtoglcohdanpciaaNtG
import Derived.Deep.Strs
import Derived.ChangeSame
import Derived.ChangeMaps5
/- note: Small. -/
namespace Go.Proofs.Ytoglcohdanpciaa
open Go.RowKit Go.Shelf
set_option maxRecDepth 100000
set_option linter.unusedSimpArgs false
set_option linter.unusedVariables false

/-- A request is small. -/
def SmQ (r : Rq) : Prop := r.pa.size ≤ 300 ∧ r.tp.size ≤ 300 ∧ r.ss.length ≤ 60 ∧ r.dl.length ≤ 100
set_option maxHeartbeats 6400000 in
theorem smallQ_any (w : World) (r : Rq) (v1 v2 : Value) (h1 : LsAt KSz w v1 r.ss) (h2 : LsAt KDl w v2 r.dl) : Calls Try.prog 41 #[rqV r v1 v2] w (PIff w (SmQ r)) := by
  have F1 := h1.few
  have F2 := h2.few
  unfold maxLen at F1 F2
  obtain ⟨a, m, rfl⟩ := h1.shape
  obtain ⟨b, n, rfl⟩ := h2.shape
  have RA := krange_new w (r.cells (.slice a r.ss.length m) (.slice b r.dl.length n)) 88
  have KA := hid (show Keeps [] w (w.alloc (.cells (r.cells (.slice a r.ss.length m) (.slice b r.dl.length n)).toArray 88)) from (Keeps.refl [] w).alloc _)
  have c4 := ask_cell RA (show _ = some (.string r.pa) from rfl) (j := 4)
  have c5 := ask_cell RA (show _ = some (.string r.tp) from rfl) (j := 5)
  have c12 := ask_cell RA (show _ = some (.slice a r.ss.length m) from rfl) (j := 12)
  have c13 := ask_cell RA (show _ = some (.slice b r.dl.length n) from rfl) (j := 13)
  clear RA h1 h2
  go_enter Try.func41, Try.ntmps41
  go_wp2_with (first | (refine wpList_is rfl _ _ (exec_box 88 _ (r.cells (.slice a r.ss.length m) (.slice b r.dl.length n)).toArray rfl rfl) ?_; refine Hid.out ?_) | fail)
  refine hid ?_
  by_cases q0 : r.pa.size ≤ 300
  case neg =>
    have NE := hid (show ¬ SmQ r from fun e => q0 e.1)
    have d0 : decide ((r.pa.size : Int) ≤ 300) = false := by simp; omega
    clear q0
    go_wp2_with fail
    go_ret
    exact ⟨false, rfl, ⟨fun h => (by cases h), fun h => absurd h NE.out⟩, KA.out⟩
  have Q0 := hid q0
  have d0 : decide ((r.pa.size : Int) ≤ 300) = true := by simp; omega
  clear q0
  by_cases q1 : r.tp.size ≤ 300
  case neg =>
    have NE := hid (show ¬ SmQ r from fun e => q1 e.2.1)
    have d1 : decide ((r.tp.size : Int) ≤ 300) = false := by simp; omega
    clear q1
    go_wp2_with fail
    go_ret
    exact ⟨false, rfl, ⟨fun h => (by cases h), fun h => absurd h NE.out⟩, KA.out⟩
  have Q1 := hid q1
  have d1 : decide ((r.tp.size : Int) ≤ 300) = true := by simp; omega
  clear q1
  by_cases q2 : r.ss.length ≤ 60
  case neg =>
    have NE := hid (show ¬ SmQ r from fun e => q2 e.2.2.1)
    have d2 : decide ((r.ss.length : Int) ≤ 60) = false := by simp; omega
    clear q2
    go_wp2_with fail
    go_ret
    exact ⟨false, rfl, ⟨fun h => (by cases h), fun h => absurd h NE.out⟩, KA.out⟩
  have Q2 := hid q2
  have d2 : decide ((r.ss.length : Int) ≤ 60) = true := by simp; omega
  clear q2
  by_cases q3 : r.dl.length ≤ 100
  case neg =>
    have NE := hid (show ¬ SmQ r from fun e => q3 e.2.2.2)
    have d3 : decide ((r.dl.length : Int) ≤ 100) = false := by simp; omega
    clear q3
    go_wp2_with fail
    go_ret
    exact ⟨false, rfl, ⟨fun h => (by cases h), fun h => absurd h NE.out⟩, KA.out⟩
  have Q3 := hid q3
  have d3 : decide ((r.dl.length : Int) ≤ 100) = true := by simp; omega
  clear q3
  go_wp2_with fail
  go_ret
  exact ⟨true, rfl, ⟨fun _ => ⟨Q0.out, Q1.out, Q2.out, Q3.out⟩, fun _ => rfl⟩, KA.out⟩
end Go.Proofs.Ytoglcohdanpciaa


/- note: bytes of one's own, cut, longer; how long a request's and a reply's bytes are. -/
namespace Go.Proofs.Ytoglcohdanpciaa
open Go.RowKit Go.Shelf
set_option maxRecDepth 100000
set_option linter.unusedSimpArgs false
set_option linter.unusedVariables false
theorem exec_sliceN {ρ : Operand → Value} {o : Oper} {w : World} (t : TypeId) (x : Operand) (lo hi mx : Option Operand) (v : Value) (ho : o.op = .slice t x lo hi mx) (h : (Instr.sliceAt t (ρ x) (lo.map ρ) (hi.map ρ) (mx.map ρ)).run Try.prog w = .ok v w) : (execOp ρ o).run Try.prog w = .ok (.value v) w := by
  simp [execOp, ho, h, Result.andThen]
theorem append_bN {w : World} {B : Nat} {v : Value} {zs es : List Int} (h : w.ownsRow B 5 1 v zs.length (zs.map (Value.int .u8))) (A : Option Addr) (n c : Nat) (hs : RowAt w (.slice A n c) es) (hl : zs.length + es.length ≤ 100000) (hB : B ≤ w.heap.size) (ty : TypeId) :
    ∃ a' c' w', (Builtin.append_ #[34, 34] ty #[v, .slice A n c]).run Try.prog w = .ok (.slice a' (zs ++ es).length c') w' ∧ w'.ownsRow B 5 1 (.slice a' (zs ++ es).length c') (zs ++ es).length ((zs ++ es).map (Value.int .u8)) ∧ Keeps v.ownBlock.toList w w' := by
  obtain ⟨i, hi, hz, hz3, hz40⟩ := info_parts info5
  obtain ⟨a0, c0, hv0, h1, h2, h0, hb, h4⟩ := id hs
  injection hv0 with e1 e2 e3
  subst e1; subst e2; subst e3
  obtain ⟨a', c', w', hr, ho, hg, hn⟩ := run_append_rowsO (P := Try.prog) w B 34 ty 5 i _ 1 1 Try.underlying34 hi hz hz3 hz40 rfl (by omega) v zs.length (zs.map (Value.int .u8)) h A es.length c (es.map (Value.int .u8)) (by simp) h0 h1
    (fun ad had j u hu => h4 ad had j u hu) (fun u hu => by obtain ⟨z, _, rfl⟩ := List.mem_map.1 hu; rfl) (by unfold maxLen; omega) (by omega) hB
  rw [← List.length_append] at hr ho
  exact ⟨a', c', w', hr, by rw [List.map_append]; exact ho, (Keeps.refl _ _).grown hg (fun k hk => Or.inl (by simp [hk]))⟩
theorem exec_oneB {ρ : Operand → Value} {o : Oper} {w : World} (x : Operand) (c : Int) (ho : o.op = .buildSlice 34 1 #[(0, x)]) (hx : ρ x = .int .u8 c) :
    (execOp ρ o).run Try.prog w = .ok (.value (.slice (some ⟨w.heap.size, 0, none⟩) 1 1)) (w.alloc (.cells #[.int .u8 c] 5)) := by
  obtain ⟨ie, hie, hz, hs, _⟩ := info_parts info5
  have h : (Instr.buildSlice 34 1 #[(0, .int .u8 c)]).run Try.prog w = .ok (.slice (some ⟨w.heap.size, 0, none⟩) 1 1) (w.alloc (.cells #[.int .u8 c] 5)) := by
    refine run_buildSlice w _ _ 1 _ _ ie _ Try.underlying34 hie hz (by rw [hs]; decide) (by rw [hs]; decide) ?_
    rw [hs]
    have e : (Array.range (1 * 1)) = #[0] := rfl
    have e2 : (Value.int .u8 0).cells = #[.int .u8 0] := rfl
    have e3 : ∀ c, (Value.int .u8 c).cells = #[.int .u8 c] := fun _ => rfl
    simp only [Instr.fill, e, e2, e3]
    simp
  simp only [execOp, ho, List.map_toArray, List.map_cons, List.map_nil, hx, Sem.run_bind, h, Result.andThen_ok, Sem.run_pure]
theorem wrap8N (x : Int) : 0 ≤ IntKind.u8.wrap x ∧ IntKind.u8.wrap x ≤ 255 := by
  have : IntKind.u8.wrap x = x % 256 := rfl
  omega
theorem flat_le {α : Type} (f : α → List Int) (k : Nat) : ∀ l : List α, (∀ x ∈ l, (f x).length ≤ k) → (l.flatMap f).length ≤ l.length * k
  | [], _ => by simp
  | x :: l, h => by
    rw [List.flatMap_cons, List.length_append, List.length_cons, Nat.add_mul, Nat.one_mul]
    have h1 := h x (by simp)
    have h2 := flat_le f k l (fun y hy => h y (by simp [hy]))
    omega
theorem szB_len (x : Sz) : (szC.b x).length = 10 := by
  show (be x.c 1 ++ (be x.l 3 ++ (be x.n 4 ++ be x.s 2))).length = 10
  simp [be_length]
theorem enB_len (x : Ent) : (enC.b x).length = 5 + x.nm.size := by
  show ((be x.nm.size 2 ++ codes x.nm) ++ (be x.ino 2 ++ be (bitI x.dir) 1)).length = _
  simp [be_length, codes_length]
  omega
theorem rqB_len {r : Rq} (h1 : r.pa.size ≤ 300) (h2 : r.tp.size ≤ 300) (h3 : r.ss.length ≤ 4000) (h4 : r.dl.length ≤ 500) : (rqC.b r).length ≤ 60000 := by
  have a := flat_le szC.b 10 r.ss (fun x _ => by rw [szB_len]; omega)
  have b := flat_le bytesD 28 r.dl (fun x _ => (bytesD_len x).2)
  show (be r.cl 1 ++ (be r.lf 3 ++ (be r.sq 4 ++ (be r.dO 1 ++ ((be r.pa.size 2 ++ codes r.pa) ++ ((be r.tp.size 2 ++ codes r.tp) ++ (be (bitI r.di) 1 ++ (be (bitI r.wr) 1 ++ (be (bitI r.cz) 1 ++ (be r.ha 1 ++ (be r.nx 4 ++ (be r.sw 3 ++ ((be r.ss.length 2 ++ r.ss.flatMap szC.b) ++ (be r.dl.length 2 ++ r.dl.flatMap bytesD)))))))))))))).length ≤ 60000
  simp only [List.length_append, be_length, codes_length]
  omega
theorem rpB_len {r : Rp} (h1 : r.mp.length ≤ 2000) (h2 : r.es.length ≤ 100) (h3 : ∀ x ∈ r.es, x.nm.size ≤ 100) : (rpC.b r).length ≤ 20000 := by
  have a := flat_le enC.b 105 r.es (fun x hx => by rw [enB_len]; have := h3 x hx; omega)
  show (be r.e 1 ++ (be r.ino 2 ++ (be r.sz 2 ++ (be r.ha 1 ++ (be r.sw 3 ++ (be (bitI r.di) 1 ++ ((be r.es.length 2 ++ r.es.flatMap enC.b) ++ (be r.mp.length 2 ++ r.mp)))))))).length ≤ 20000
  simp only [List.length_append, be_length]
  omega
/-- Replies of whatever E a byte holds. -/
def rp0C : Cdc Rp := mapC (seqC (nC 1) (seqC (nC 2) (seqC (nC 2) (seqC (nC 1) (seqC (nC 3) (seqC boC (seqC (lsC enC) rowC))))))) Rp.of Rp.t
theorem rp0C_ok : rp0C.Ok := mapC_ok (seqC_ok (nC_ok (by decide) (by decide)) (seqC_ok (nC_ok (by decide) (by decide)) (seqC_ok (nC_ok (by decide) (by decide)) (seqC_ok (nC_ok (by decide) (by decide)) (seqC_ok (nC_ok (by decide) (by decide)) (seqC_ok boC_ok (seqC_ok (lsC_ok enC_ok) rowC_ok))))))) (fun _ => rfl) (fun _ => rfl)
theorem encP_ok0 {r : Rp} (h : (encP r).2 = 0) : (encP r).1 = rpC.b r ∧ rp0C.f r := by
  unfold encP at h ⊢
  by_cases h3 : 4000 < r.es.length
  · rw [if_pos h3] at h; cases h
  · rw [if_neg h3] at h ⊢
    have hz : (rpC.p r ([], 0)).2 = 0 := h
    obtain ⟨e1, e2⟩ := rpC_ok.pok r [] hz
    refine ⟨?_, ?_⟩
    · unfold endS
      rw [e1]
      simp
    · obtain ⟨f1, f2, f3, f4, f5, f6, f7, f8⟩ := e2
      exact ⟨f1, f2, f3, f4, f5, f6, ⟨by show r.es.length ≤ 4000; omega, fun x hx => f7.2 x hx⟩, f8⟩
theorem rp_inj {r q : Rp} (h1 : rp0C.f r) (h2 : rp0C.f q) (h : rpC.b r = rpC.b q) : r = q := inj_b rp0C_ok h1 h2 h
end Go.Proofs.Ytoglcohdanpciaa


/- note: the law's Request. -/
namespace Go.Proofs.Ytoglcohdanpciaa
open Go.RowKit Go.Shelf
set_option maxRecDepth 100000
set_option linter.unusedSimpArgs false
set_option linter.unusedVariables false

/-- A request as the program has it: its stripes in new memory. -/
def CvQ (w : World) (r : Rq) (v2 : Value) (e : Ending) (w' : World) : Prop := ∃ a c, e = .returned (rqV r (.slice a r.ss.length c) v2) ∧ LsAt KSz w' (.slice a r.ss.length c) r.ss ∧ Keeps [] w w'
theorem bld_st3 (a b c : Int) (w : World) : (Instr.build 78 #[(0, .int .i64 a), (1, .int .i64 b), (2, .int .i64 c)]).run Try.prog w = .ok (.agg #[.int .i64 a, .int .i64 b, .int .i64 c]) w := by kernel_rfl
theorem exec_st3 {ρ : Operand → Value} {o : Oper} {w : World} (x y z : Operand) (a b c : Int) (ho : o.op = .build 78 #[(0, x), (1, y), (2, z)]) (h0 : ρ x = .int .i64 a) (h1 : ρ y = .int .i64 b) (h2 : ρ z = .int .i64 c) : (execOp ρ o).run Try.prog w = .ok (.value (.agg #[.int .i64 a, .int .i64 b, .int .i64 c])) w := by
  simp only [execOp, ho, List.map_toArray, List.map_cons, List.map_nil, h0, h1, h2, Sem.run_bind, bld_st3, Result.andThen_ok, Sem.run_pure]
theorem bld_lawRq (r : Rq) (b : Option Addr) (n d : Nat) (w : World) : (Instr.build 82 #[(0, .agg #[.int .i64 r.cl, .int .i64 r.lf, .int .i64 r.sq]), (1, .int .i64 r.dO), (2, .string r.pa), (3, .string r.tp), (4, .bool r.di), (5, .bool r.wr), (6, .bool r.cz), (7, .int .i64 r.ha), (8, .int .i64 r.nx), (9, .int .i64 r.sw), (11, .slice b n d)]).run Try.prog w = .ok (rqV r (.slice none 0 0) (.slice b n d)) w := by kernel_rfl
theorem exec_lawRq {ρ : Operand → Value} {o : Oper} {w : World} (x0 x1 x2 x3 x4 x5 x6 x7 x8 x9 x11 : Operand) (r : Rq) (b : Option Addr) (n d : Nat) (ho : o.op = .build 82 #[(0, x0), (1, x1), (2, x2), (3, x3), (4, x4), (5, x5), (6, x6), (7, x7), (8, x8), (9, x9), (11, x11)])
    (h0 : ρ x0 = .agg #[.int .i64 r.cl, .int .i64 r.lf, .int .i64 r.sq]) (h1 : ρ x1 = .int .i64 r.dO) (h2 : ρ x2 = .string r.pa) (h3 : ρ x3 = .string r.tp) (h4 : ρ x4 = .bool r.di) (h5 : ρ x5 = .bool r.wr) (h6 : ρ x6 = .bool r.cz) (h7 : ρ x7 = .int .i64 r.ha) (h8 : ρ x8 = .int .i64 r.nx) (h9 : ρ x9 = .int .i64 r.sw) (h11 : ρ x11 = .slice b n d) :
    (execOp ρ o).run Try.prog w = .ok (.value (rqV r (.slice none 0 0) (.slice b n d))) w := by
  simp only [execOp, ho, List.map_toArray, List.map_cons, List.map_nil, h0, h1, h2, h3, h4, h5, h6, h7, h8, h9, h11, Sem.run_bind, bld_lawRq, Result.andThen_ok, Sem.run_pure]
theorem bld_nsz (x : Sz) (w : World) : (Instr.build 144 #[(0, .agg #[.int .i64 x.c, .int .i64 x.l, .int .i64 x.n]), (1, .int .i64 x.s)]).run Try.prog w = .ok (KSz.v x) w := by kernel_rfl
theorem exec_nsz {ρ : Operand → Value} {o : Oper} {w : World} (x0 x1 : Operand) (x : Sz) (ho : o.op = .build 144 #[(0, x0), (1, x1)]) (h0 : ρ x0 = .agg #[.int .i64 x.c, .int .i64 x.l, .int .i64 x.n]) (h1 : ρ x1 = .int .i64 x.s) : (execOp ρ o).run Try.prog w = .ok (.value (KSz.v x)) w := by
  simp only [execOp, ho, List.map_toArray, List.map_cons, List.map_nil, h0, h1, Sem.run_bind, bld_nsz, Result.andThen_ok, Sem.run_pure]
theorem load_st3 (W : World) (g off : Nat) (x : Sz) (h : W.rangeAt g off (KSz.cells x)) : (Instr.loadAt 30 (.pointer (some ⟨g, off, none⟩))).run Try.prog W = .ok (.agg #[.int .i64 x.c, .int .i64 x.l, .int .i64 x.n]) W := by
  obtain ⟨d, hd, hr⟩ : ∃ d, Try.prog.underlying 30 = some d ∧ d.isRow = true := ⟨_, Try.underlying30, rfl⟩
  refine run_loadAt_mid W g off 30 [.int .i64 x.c, .int .i64 x.l, .int .i64 x.n] d (fun j u hu => h j u ?_) hd hr (by kernel_rfl)
  match j, hu with
  | 0, hu => exact hu
  | 1, hu => exact hu
  | 2, hu => exact hu
set_option maxHeartbeats 25600000 in
theorem lawRequest_any (w : World) (r : Rq) (v1 v2 : Value) (h1 : LsAt KSz w v1 r.ss) (h2 : LsAt KDl w v2 r.dl) (hl : r.ss.length ≤ 60) : Calls Try.prog 42 #[rqV r v1 v2] w (CvQ w r v2) := by
  obtain ⟨av, cv, rfl⟩ := h1.shape
  obtain ⟨b, d, hv2⟩ := h2.shape
  obtain ⟨n, hn⟩ : ∃ z, z = r.dl.length := ⟨_, rfl⟩
  rw [← hn] at hv2
  subst hv2
  clear hn h2
  have FL := hid hl
  have H1 := hid h1
  have ka : Keeps [] w (((w.alloc (.cells (r.cells (.slice av r.ss.length cv) (.slice b n d)).toArray 88)).alloc (.cells (rqZ.cells (.slice none 0 0) (.slice none 0 0)).toArray 82)).alloc (.cells (rqZ.cells (.slice none 0 0) (.slice none 0 0)).toArray 82)) := (((Keeps.refl [] w).alloc _).alloc _).alloc _
  have RA := hid (krange_keep (krange_new w (r.cells (.slice av r.ss.length cv) (.slice b n d)) 88) ((Keeps.refl [] _).alloc (.cells (rqZ.cells (.slice none 0 0) (.slice none 0 0)).toArray 82)) (by simp))
  have kb : Keeps [] ((w.alloc (.cells (r.cells (.slice av r.ss.length cv) (.slice b n d)).toArray 88)).alloc (.cells (rqZ.cells (.slice none 0 0) (.slice none 0 0)).toArray 82)) (((w.alloc (.cells (r.cells (.slice av r.ss.length cv) (.slice b n d)).toArray 88)).alloc (.cells (rqZ.cells (.slice none 0 0) (.slice none 0 0)).toArray 82)).alloc (.cells (rqZ.cells (.slice none 0 0) (.slice none 0 0)).toArray 82)) := (Keeps.refl [] _).alloc _
  have FB0 := heap_alloc_new (w.alloc (.cells (r.cells (.slice av r.ss.length cv) (.slice b n d)).toArray 88)) (.cells (rqZ.cells (.slice none 0 0) (.slice none 0 0)).toArray 82)
  rw [World.size_alloc] at FB0
  have FB1 := (kb.block (w.heap.size + 1) (by simp) (by simp)).trans FB0
  have FC0 := heap_alloc_new ((w.alloc (.cells (r.cells (.slice av r.ss.length cv) (.slice b n d)).toArray 88)).alloc (.cells (rqZ.cells (.slice none 0 0) (.slice none 0 0)).toArray 82)) (.cells (rqZ.cells (.slice none 0 0) (.slice none 0 0)).toArray 82)
  rw [World.size_alloc, World.size_alloc] at FC0
  have RC := hid (krange_keep RA.out kb (by simp))
  obtain ⟨q1, q2⟩ := setRow_keepsN (cs := (r.cells (.slice none 0 0) (.slice b n d)).toArray) FC0
  have RD := hid (krange_keep RC.out q2 (show w.heap.size ∉ [w.heap.size + 1 + 1] by simp; omega))
  have FZ := hid ((q2.block (w.heap.size + 1) (by simp) (by simp)).trans FB1)
  have FT := hid q1
  have FC := hid FC0
  have KW := hid (ka.trans' q2 (S := []) (fun i hi hm => by simp at hm; omega))
  have HS := hid (show w.heap.size + 2 < ((((w.alloc (.cells (r.cells (.slice av r.ss.length cv) (.slice b n d)).toArray 88)).alloc (.cells (rqZ.cells (.slice none 0 0) (.slice none 0 0)).toArray 82)).alloc (.cells (rqZ.cells (.slice none 0 0) (.slice none 0 0)).toArray 82)).setRow (w.heap.size + 1 + 1) (r.cells (.slice none 0 0) (.slice b n d)).toArray).heap.size by have := q2.size; simp at this ⊢; try omega)
  clear q1 q2 FC0 FB1 FB0 ka kb h1
  have c0 := ask_cell RA.out (show _ = some (.int .i64 r.cl) from rfl) (j := 0)
  have c1 := ask_cell RA.out (show _ = some (.int .i64 r.lf) from rfl) (j := 1)
  have c2 := ask_cell RA.out (show _ = some (.int .i64 r.sq) from rfl) (j := 2)
  have c3 := ask_cell RA.out (show _ = some (.int .i64 r.dO) from rfl) (j := 3)
  have c4 := ask_cell RA.out (show _ = some (.string r.pa) from rfl) (j := 4)
  have c5 := ask_cell RA.out (show _ = some (.string r.tp) from rfl) (j := 5)
  have c6 := ask_cell RA.out (show _ = some (.bool r.di) from rfl) (j := 6)
  have c7 := ask_cell RA.out (show _ = some (.bool r.wr) from rfl) (j := 7)
  have c8 := ask_cell RA.out (show _ = some (.bool r.cz) from rfl) (j := 8)
  have c9 := ask_cell RA.out (show _ = some (.int .i64 r.ha) from rfl) (j := 9)
  have c10 := ask_cell RA.out (show _ = some (.int .i64 r.nx) from rfl) (j := 10)
  have c11 := ask_cell RA.out (show _ = some (.int .i64 r.sw) from rfl) (j := 11)
  have c13 := ask_cell RA.out (show _ = some (.slice b n d) from rfl) (j := 13)
  go_enter Try.func42, Try.ntmps42
  go_wp2_with (first | (refine wpList_is rfl _ _ (exec_box 88 _ (r.cells (.slice av r.ss.length cv) (.slice b n d)).toArray rfl rfl) ?_) | (refine wpList_is rfl _ _ (exec_alloc 82 (rqZ.cells (.slice none 0 0) (.slice none 0 0)).toArray iReq rfl) ?_; try simp only [World.size_alloc]) | (refine wpList_is rfl _ _ (exec_st3 _ _ _ r.cl r.lf r.sq rfl rfl rfl rfl) ?_) | (refine wpList_is rfl _ _ (exec_lawRq _ _ _ _ _ _ _ _ _ _ _ r b n d rfl rfl rfl rfl rfl rfl rfl rfl rfl rfl rfl rfl) ?_) | (refine wpList_noval rfl _ (exec_storeWhole 82 _ _ rfl (w.heap.size + 1 + 1) (rqZ.cells (.slice none 0 0) (.slice none 0 0)).toArray (r.cells (.slice none 0 0) (.slice b n d)) FC.out rfl rfl rfl (by kernel_rfl) (one_rq r _ _ _ _ _ _)) ?_; refine Hid.out ?_) | fail)
  refine hid ?_
  clear FC RA RC c0 c1 c2 c3 c4 c5 c6 c7 c8 c9 c10 c11 c13
  obtain ⟨W, hW⟩ : ∃ z, z = (((w.alloc (.cells (r.cells (.slice av r.ss.length cv) (.slice b n d)).toArray 88)).alloc (.cells (rqZ.cells (.slice none 0 0) (.slice none 0 0)).toArray 82)).alloc (.cells (rqZ.cells (.slice none 0 0) (.slice none 0 0)).toArray 82)).setRow (w.heap.size + 1 + 1) (r.cells (.slice none 0 0) (.slice b n d)).toArray := ⟨_, rfl⟩
  rw [← hW] at RD FZ FT KW HS ⊢
  clear hW
  obtain ⟨n0, hn0⟩ : ∃ z, z = w.heap.size := ⟨_, rfl⟩
  obtain ⟨n1, hn1⟩ : ∃ z, z = w.heap.size + 1 := ⟨_, rfl⟩
  obtain ⟨n2, hn2⟩ : ∃ z, z = w.heap.size + 1 + 1 := ⟨_, rfl⟩
  have NN := hid (show n0 = w.heap.size ∧ n1 = n0 + 1 ∧ n2 = n0 + 2 by omega)
  rw [← hn2] at FT ⊢
  rw [← hn1] at FZ ⊢
  rw [← hn0] at RD ⊢
  clear hn0 hn1 hn2
  go_wp2_with fail
  go_loopw [4] (fun iv wr => ∃ (i : Nat) (ao : Option Addr) (co : Nat), iv = .int .i64 (i : Int) ∧ i ≤ r.ss.length ∧ Hid (OwnT KSz 144 wr W.heap.size (.slice ao i co) (r.ss.take i)) ∧ Hid (wr.heap[n2]? = some (.cells (r.cells (.slice ao i co) (.slice b n d)).toArray 82 (0, 0))) ∧ Hid (Keeps [n2] W wr)) (fun iv _ => r.ss.length - (intOf iv).toNat)
  case atStart => exact ⟨0, none, 0, rfl, by omega, hid (OwnT.nil _ _ _ _), FT, hid (Keeps.refl _ _)⟩
  case round =>
    obtain ⟨i, ao, co, rfl, hi, HO, HF, HK⟩ := hrel
    have HNE := hid (show n0 ∉ [n2] ∧ n1 ∉ [n2] by have := NN.out; simp; omega)
    have RW := hid (krange_keep RD.out HK.out HNE.out.1)
    have ca := ask_cell RW.out (show _ = some (.slice av r.ss.length cv) from rfl) (j := 12)
    have HZW := hid HK.out.size
    by_cases hlt : i < r.ss.length
    · obtain ⟨g, off, e1, hg, R0⟩ := H1.out.at i hlt
      subst e1
      obtain ⟨x, hx⟩ : ∃ x, x = r.ss[i]'hlt := ⟨_, rfl⟩
      rw [← hx] at R0
      have HX := hid hx
      have HG := hid (show g < wr.heap.size by have := KW.out.size; have := HZW.out; omega)
      have OB := hid (show ∀ k ∈ (Value.slice ao i co).ownBlock.toList, W.heap.size ≤ k ∧ k < wr.heap.size from fun k hk => HO.out.blk k (by simpa using hk))
      have R := hid (krange_keep (krange_keep R0 KW.out (by simp)) HK.out (show g ∉ [n2] by have := NN.out; simp; omega))
      have NG := hid (show g ∉ (Value.slice ao i co).ownBlock.toList from fun hm => by have := (OB.out g hm).1; have := KW.out.size; omega)
      have N0 := hid (show n0 ∉ (Value.slice ao i co).ownBlock.toList from fun hm => by have := (OB.out n0 hm).1; have := HS.out; have := NN.out; omega)
      have N2 := hid (show n2 ∉ (Value.slice ao i co).ownBlock.toList from fun hm => by have := (OB.out n2 hm).1; have := HS.out; have := NN.out; omega)
      have HLT := hid hlt
      have L0 := hid (show n0 < wr.heap.size ∧ n2 < wr.heap.size by have := HS.out; have := HZW.out; have := NN.out; omega)
      obtain ⟨cc, ff⟩ := five_cells HF.out 12
      change wr.cell? ⟨n2, 12, none⟩ = some (.slice ao i co) at cc
      have CC := hid cc
      have CA := hid ca
      clear R0 hx hg cc ff
      go_wp2_with fail
      refine wp_region_any (by kernel_rfl) (wpAny_of_late (late := [18]) (S := KpS (Value.slice ao i co).ownBlock.toList wr.heap.size wr.drew) _ _ _ _ ?_)
      change wpAnyT _ _ _ _ _ _ _ _ _ wr.drew
      have cA : ∀ W1, KpS (Value.slice ao i co).ownBlock.toList wr.heap.size wr.drew W1 → W1.cell? ⟨n0, 12, none⟩ = some (.slice (some ⟨g, off, none⟩) r.ss.length cv) := fun W1 h => h.cell (by rw [World.cell?_drew]; exact CA.out) L0.out.1 N0.out
      have cT : ∀ W1, KpS (Value.slice ao i co).ownBlock.toList wr.heap.size wr.drew W1 → W1.cell? ⟨n2, 12, none⟩ = some (.slice ao i co) := fun W1 h => h.cell (by rw [World.cell?_drew]; exact CC.out) L0.out.2 N2.out
      have cR : ∀ W1, KpS (Value.slice ao i co).ownBlock.toList wr.heap.size wr.drew W1 → W1.rangeAt g (off + i * 4) (KSz.cells x) := fun W1 h j u hu => h.cell (by rw [World.cell?_drew]; exact R.out j u hu) HG.out NG.out
      refine late_take (i := 0) (v := .pointer (some ⟨n2, 12, none⟩)) rfl (by kernel_rfl) (by kernel_rfl) (by kernel_rfl) (by kernel_rfl) (by kernel_rfl) (fun _ _ _ h => h) rfl (fun W1 hW1 => by go_simp) (KpS.refl _ _ _) ?_
      simp only [Act.put, List.setIfInBounds_toArray, List.set_cons_zero, List.set_cons_succ]
      refine late_take (i := 1) (v := .slice ao i co) rfl (by kernel_rfl) (by kernel_rfl) (by kernel_rfl) (by kernel_rfl) (by kernel_rfl) (fun _ _ _ h => h) rfl (fun W1 hW1 => exec_load _ _ _ _ rfl rfl (run_loadCell W1 _ _ _ (cT W1 hW1) (agg_no _ (by kernel_rfl)))) (KpS.refl _ _ _) ?_
      simp only [Act.put, List.setIfInBounds_toArray, List.set_cons_zero, List.set_cons_succ]
      refine late_take (i := 2) (v := .pointer (some ⟨n0, 12, none⟩)) rfl (by kernel_rfl) (by kernel_rfl) (by kernel_rfl) (by kernel_rfl) (by kernel_rfl) (fun _ _ _ h => h) rfl (fun W1 hW1 => by go_simp) (KpS.refl _ _ _) ?_
      simp only [Act.put, List.setIfInBounds_toArray, List.set_cons_zero, List.set_cons_succ]
      refine late_take (i := 3) (v := .slice (some ⟨g, off, none⟩) r.ss.length cv) rfl (by kernel_rfl) (by kernel_rfl) (by kernel_rfl) (by kernel_rfl) (by kernel_rfl) (fun _ _ _ h => h) rfl (fun W1 hW1 => exec_load _ _ _ _ rfl rfl (run_loadCell W1 _ _ _ (cA W1 hW1) (agg_no _ (by kernel_rfl)))) (KpS.refl _ _ _) ?_
      simp only [Act.put, List.setIfInBounds_toArray, List.set_cons_zero, List.set_cons_succ]
      refine late_take (i := 4) (v := .int .i64 (i : Int)) rfl (by kernel_rfl) (by kernel_rfl) (by kernel_rfl) (by kernel_rfl) (by kernel_rfl) (fun _ _ _ h => h) rfl (fun W1 hW1 => rfl) (KpS.refl _ _ _) ?_
      simp only [Act.put, List.setIfInBounds_toArray, List.set_cons_zero, List.set_cons_succ]
      refine late_take (i := 5) (v := .pointer (some ⟨g, off + i * 4, none⟩)) rfl (by kernel_rfl) (by kernel_rfl) (by kernel_rfl) (by kernel_rfl) (by kernel_rfl) (fun _ _ _ h => h) rfl (fun W1 hW1 => by go_simp) (KpS.refl _ _ _) ?_
      simp only [Act.put, List.setIfInBounds_toArray, List.set_cons_zero, List.set_cons_succ]
      refine late_take (i := 6) (v := .pointer (some ⟨g, off + i * 4, none⟩)) rfl (by kernel_rfl) (by kernel_rfl) (by kernel_rfl) (by kernel_rfl) (by kernel_rfl) (fun _ _ _ h => h) rfl (fun W1 hW1 => by go_simp) (KpS.refl _ _ _) ?_
      simp only [Act.put, List.setIfInBounds_toArray, List.set_cons_zero, List.set_cons_succ]
      refine late_take (i := 7) (v := .agg #[.int .i64 x.c, .int .i64 x.l, .int .i64 x.n]) rfl (by kernel_rfl) (by kernel_rfl) (by kernel_rfl) (by kernel_rfl) (by kernel_rfl) (fun _ _ _ h => h) rfl (fun W1 hW1 => exec_load _ _ _ _ rfl rfl (load_st3 W1 g (off + i * 4) x (cR W1 hW1))) (KpS.refl _ _ _) ?_
      simp only [Act.put, List.setIfInBounds_toArray, List.set_cons_zero, List.set_cons_succ]
      refine late_take (i := 8) (v := .pointer (some ⟨n0, 12, none⟩)) rfl (by kernel_rfl) (by kernel_rfl) (by kernel_rfl) (by kernel_rfl) (by kernel_rfl) (fun _ _ _ h => h) rfl (fun W1 hW1 => by go_simp) (KpS.refl _ _ _) ?_
      simp only [Act.put, List.setIfInBounds_toArray, List.set_cons_zero, List.set_cons_succ]
      refine late_take (i := 9) (v := .slice (some ⟨g, off, none⟩) r.ss.length cv) rfl (by kernel_rfl) (by kernel_rfl) (by kernel_rfl) (by kernel_rfl) (by kernel_rfl) (fun _ _ _ h => h) rfl (fun W1 hW1 => exec_load _ _ _ _ rfl rfl (run_loadCell W1 _ _ _ (cA W1 hW1) (agg_no _ (by kernel_rfl)))) (KpS.refl _ _ _) ?_
      simp only [Act.put, List.setIfInBounds_toArray, List.set_cons_zero, List.set_cons_succ]
      refine late_take (i := 10) (v := .int .i64 (i : Int)) rfl (by kernel_rfl) (by kernel_rfl) (by kernel_rfl) (by kernel_rfl) (by kernel_rfl) (fun _ _ _ h => h) rfl (fun W1 hW1 => rfl) (KpS.refl _ _ _) ?_
      simp only [Act.put, List.setIfInBounds_toArray, List.set_cons_zero, List.set_cons_succ]
      refine late_take (i := 11) (v := .pointer (some ⟨g, off + i * 4, none⟩)) rfl (by kernel_rfl) (by kernel_rfl) (by kernel_rfl) (by kernel_rfl) (by kernel_rfl) (fun _ _ _ h => h) rfl (fun W1 hW1 => by go_simp) (KpS.refl _ _ _) ?_
      simp only [Act.put, List.setIfInBounds_toArray, List.set_cons_zero, List.set_cons_succ]
      refine late_take (i := 12) (v := .pointer (some ⟨g, off + i * 4 + 3, none⟩)) rfl (by kernel_rfl) (by kernel_rfl) (by kernel_rfl) (by kernel_rfl) (by kernel_rfl) (fun _ _ _ h => h) rfl (fun W1 hW1 => by go_simp) (KpS.refl _ _ _) ?_
      simp only [Act.put, List.setIfInBounds_toArray, List.set_cons_zero, List.set_cons_succ]
      refine late_take (i := 13) (v := .int .i64 x.s) rfl (by kernel_rfl) (by kernel_rfl) (by kernel_rfl) (by kernel_rfl) (by kernel_rfl) (fun _ _ _ h => h) rfl (fun W1 hW1 => exec_load _ _ _ _ rfl rfl (run_loadCell W1 _ _ _ (cR W1 hW1 3 _ rfl) (agg_no _ (by kernel_rfl)))) (KpS.refl _ _ _) ?_
      simp only [Act.put, List.setIfInBounds_toArray, List.set_cons_zero, List.set_cons_succ]
      refine late_take (i := 14) (v := KSz.v x) rfl (by kernel_rfl) (by kernel_rfl) (by kernel_rfl) (by kernel_rfl) (by kernel_rfl) (fun _ _ _ h => h) rfl (fun W1 hW1 => exec_nsz _ _ x rfl rfl rfl) (KpS.refl _ _ _) ?_
      simp only [Act.put, List.setIfInBounds_toArray, List.set_cons_zero, List.set_cons_succ]
      refine late_do (i := 15) (by kernel_rfl) rfl rfl (wp_value (exec_oneT cSz _ x rfl rfl) ?_)
      have kB : Keeps [] wr (wr.drew.alloc (.cells (KSz.cells x).toArray 144)) := (Keeps.refl [] wr).drew.alloc _
      have sB : KpS (Value.slice ao i co).ownBlock.toList wr.heap.size wr.drew (wr.drew.alloc (.cells (KSz.cells x).toArray 144)) := (KpS.refl _ _ _).alloc (by simp) _
      have oB := one_ls wr.drew x 144 (K := KSz)
      refine ⟨Or.inr sB, ?_⟩
      simp only [Act.put, List.setIfInBounds_toArray, List.set_cons_zero, List.set_cons_succ]
      have eS : wr.drew.heap.size = wr.heap.size := rfl
      rw [eS] at oB ⊢
      generalize wr.drew.alloc (.cells (KSz.cells x).toArray 144) = wB at kB sB oB ⊢
      have lt : (r.ss.take i).length = i := by rw [List.length_take]; have := HLT.out; omega
      have hzB := kB.size
      obtain ⟨a3, c3, wD, run2, o2, k2, _⟩ := append_ls cSz (HO.out.keep kB (by simp)) _ 1 1 oB (by rw [lt]; have := HLT.out; have := FL.out; simp; omega) (by have := HZW.out; omega) 79
      rw [lt] at run2 o2
      have sD : KpS (Value.slice ao i co).ownBlock.toList wr.heap.size wr.drew wD := sB.keeps k2 kB.size (fun j hj _ => hj)
      refine late_do (i := 16) (by kernel_rfl) rfl rfl (wp_value (exec_appendT 79 _ _ rfl rfl rfl run2) ?_)
      refine ⟨Or.inr sD, ?_⟩
      simp only [Act.put, List.setIfInBounds_toArray, List.set_cons_zero, List.set_cons_succ]
      refine late_take (i := 17) (v := .pointer (some ⟨n2, 12, none⟩)) rfl (by kernel_rfl) (by kernel_rfl) (by kernel_rfl) (by kernel_rfl) (by kernel_rfl) (fun _ _ _ h => h) rfl (fun W1 hW1 => by go_simp) (sD) ?_
      simp only [Act.put, List.setIfInBounds_toArray, List.set_cons_zero, List.set_cons_succ]
      have hD : wD.heap[n2]? = some (.cells (r.cells (.slice ao i co) (.slice b n d)).toArray 82 (0, 0)) := (k2.block n2 (by have := L0.out.2; omega) N2.out).trans ((kB.block n2 L0.out.2 (by simp)).trans HF.out)
      obtain ⟨cd, fd⟩ := five_cells hD 12
      change wD.cell? ⟨n2, 12, none⟩ = some (.slice ao i co) at cd
      refine late_do (i := 18) (by kernel_rfl) rfl rfl (wp_stored (w' := wD.setCell ⟨n2, 12, none⟩ (.slice a3 (i + 1) c3)) (by go_simp) ⟨Or.inl rfl, ?_⟩)
      simp only [Act.put]
      refine wpAnyT_done (by kernel_rfl) ?_ _
      have J := set_five (i := 12) hD (.slice a3 (i + 1) c3)
      have sk : Keeps [n2] wD (wD.setCell ⟨n2, 12, none⟩ (.slice a3 (i + 1) c3)) := set_keep
      have kD : Keeps [] W wr → True := fun _ => trivial
      have O9 : Hid (OwnT KSz 144 (wD.setCell ⟨n2, 12, none⟩ (.slice a3 (i + 1) c3)) W.heap.size (.slice a3 (i + 1) c3) (r.ss.take (i + 1))) := hid (by
        rw [List.take_succ_eq_append_getElem HLT.out, ← HX.out]
        exact o2.keep sk (fun k hk => by simp at hk; subst hk; have := HS.out; have := NN.out; omega))
      have F9 : Hid ((wD.setCell ⟨n2, 12, none⟩ (.slice a3 (i + 1) c3)).heap[n2]? = some (.cells (r.cells (.slice a3 (i + 1) c3) (.slice b n d)).toArray 82 (0, 0))) := hid J
      have K9 : Hid (Keeps [n2] W (wD.setCell ⟨n2, 12, none⟩ (.slice a3 (i + 1) c3))) := hid (((HK.out.trans (kB.mono (by simp))).trans' k2 (fun j hj hm => by have := (OB.out j (by simpa using hm)).1; omega)).trans sk)
      clear cA cT cR kB sB oB eS lt run2 o2 k2 sD hD cd fd J sk kD hzB CC CA ca
      generalize wD.setCell ⟨n2, 12, none⟩ (.slice a3 (i + 1) c3) = wE at O9 F9 K9 ⊢
      go_wp2_with fail
      go_roundw
      case rel => exact ⟨i + 1, a3, c3, by go_num, by have := HLT.out; omega, O9, F9, K9⟩
      case measure => have := HLT.out; simp [intOf]; omega
    · obtain rfl : i = r.ss.length := by omega
      have RT := hid (range_ofN HF.out rfl)
      have FB := hid ((HK.out.block n1 (by have := HS.out; have := NN.out; omega) HNE.out.2).trans FZ.out)
      obtain ⟨q1, q2⟩ := setRow_keepsN (cs := (r.cells (.slice ao r.ss.length co) (.slice b n d)).toArray) FB.out
      have Q1 := hid q1
      have Q2 := hid q2
      clear q1 q2
      go_wp2_with (first | (refine wpList_is rfl _ _ (exec_load 82 _ _ _ rfl rfl (loadRq 82 uReq sReq _ _ r _ _ RT.out)) ?_) | (refine wpList_noval rfl _ (exec_storeWhole 82 _ _ rfl n1 (rqZ.cells (.slice none 0 0) (.slice none 0 0)).toArray (r.cells (.slice ao r.ss.length co) (.slice b n d)) FB.out rfl rfl rfl (by kernel_rfl) (one_rq r _ _ _ _ _ _)) ?_) | fail)
      refine bodyPost_ret (one_ret (cs := r.cells (.slice ao r.ss.length co) (.slice b n d)) rfl uReq (by kernel_rfl) rfl (range_ofN Q1.out rfl)) rfl ?_
      have oo := (HO.out.keep Q2.out (fun k hk => by simp at hk; subst hk; have := HS.out; have := NN.out; omega)).at cSz
      rw [List.take_length] at oo
      exact ⟨ao, co, rfl, oo, (KW.out.trans' HK.out (fun k hk hm => by simp at hm; have := NN.out; omega)).trans' Q2.out (fun k hk hm => by simp at hm; have := NN.out; omega)⟩
end Go.Proofs.Ytoglcohdanpciaa


/- note: the reference's Encode. -/
namespace Go.Proofs.Ytoglcohdanpciaa
open Go.RowKit Go.Shelf
set_option maxRecDepth 100000
set_option linter.unusedSimpArgs false
set_option linter.unusedVariables false

set_option maxHeartbeats 12800000 in
theorem rPutSt_any (w : World) (B p : Nat) (v : Value) (s : PSt) (x : Sz) (P : PenAt w B 151 5 p v s.1 s.2) (hB : B ≤ w.heap.size) :
    Calls Try.prog 90 #[.pointer (some ⟨p, 0, none⟩), .agg #[.int .i64 x.c, .int .i64 x.l, .int .i64 x.n]] w (PenPost w B 151 5 p v (refNum x.n 4 (refNum x.l 3 (refNum x.c 1 s)))) := by
  have ka : Keeps [] w (w.alloc (.cells ([.int .i64 x.c, .int .i64 x.l, .int .i64 x.n] : List Value).toArray 30)) := (Keeps.refl [] w).alloc _
  have KA := hid ka
  have NI := hid (show w.heap.size ∉ p :: v.ownBlock.toList from fun hm => by
    rcases List.mem_cons.1 hm with e | hm
    · have := P.lt; omega
    · have := (P.own.lt _ (by simpa using hm)).2; omega)
  have RA := hid (krange_new w [.int .i64 x.c, .int .i64 x.l, .int .i64 x.n] 30)
  have P0 := hid (P.keep ka (by simp) (by simp))
  have HB := hid (Nat.le_trans hB ka.size)
  obtain ⟨sz, hsz⟩ : ∃ z, z = refNum x.n 4 (refNum x.l 3 (refNum x.c 1 s)) := ⟨_, rfl⟩
  rw [← hsz]
  have HSZ := hid hsz
  clear ka P hB hsz
  go_enter Try.func90, Try.ntmps90
  go_wp2_with (first | (refine wpList_is rfl _ _ (exec_box 30 _ ([.int .i64 x.c, .int .i64 x.l, .int .i64 x.n] : List Value).toArray rfl rfl) ?_; refine Hid.out ?_) | fail)
  refine hid ?_
  obtain ⟨n0, hn0⟩ : ∃ z, z = w.heap.size := ⟨_, rfl⟩
  obtain ⟨W, hW⟩ : ∃ z, z = w.alloc (.cells ([.int .i64 x.c, .int .i64 x.l, .int .i64 x.n] : List Value).toArray 30) := ⟨_, rfl⟩
  rw [← hn0] at RA NI ⊢
  rw [← hW] at RA KA P0 HB ⊢
  clear hn0 hW
  have c0 := ask_cell RA.out (show _ = some (.int .i64 x.c) from rfl) (j := 0)
  go_wp2_with fail
  clear c0
  refine (rnum_any W B p v s.1 s.2 x.c 1 P0.out HB.out).mono ?_
  intro e w1 hq
  obtain ⟨rfl, v1, p1, k1, n1⟩ := PenPost.then (Keeps.refl _ _) (Or.inl rfl) hq
  have P1 := hid p1
  have K1 := hid k1
  have N1 := hid n1
  clear hq p1 k1 n1
  have c1 := ask_cell (krange_keep RA.out K1.out NI.out) (show _ = some (.int .i64 x.l) from rfl) (j := 1)
  go_wp2_with fail
  clear c1
  refine (rnum_any w1 B p v1 _ _ x.l 3 P1.out (Nat.le_trans HB.out K1.out.size)).mono ?_
  intro e w2 hq
  obtain ⟨rfl, v2, p2, k2, n2⟩ := PenPost.then K1.out N1.out hq
  have P2 := hid p2
  have K2 := hid k2
  have N2 := hid n2
  clear hq p2 k2 n2
  have c2 := ask_cell (krange_keep RA.out K2.out NI.out) (show _ = some (.int .i64 x.n) from rfl) (j := 2)
  go_wp2_with fail
  clear c2
  refine (rnum_any w2 B p v2 _ _ x.n 4 P2.out (Nat.le_trans HB.out K2.out.size)).mono ?_
  intro e w3 hq
  have hq2 := PenPost.then K2.out N2.out hq
  have hq3 := PenPost.then (KA.out.mono (by simp)) (Or.inl rfl) hq2
  obtain ⟨rfl, _⟩ := hq2
  have HQ := hid hq3
  clear hq hq3
  go_wp2_with fail
  go_end0
  rw [HSZ.out]
  exact HQ.out
set_option maxHeartbeats 51200000 in
theorem rnEnc_any (w : World) (r : Rq) (vs vd : Value) (hs : LsAt KSz w vs r.ss) (hd : LsAt KDl w vd r.dl) (hp : r.pa.size ≤ 35184372088832) (ht : r.tp.size ≤ 35184372088832) :
    Calls Try.prog 43 #[rqV r vs vd] w (EncPost w (rencQ r)) := by
  have HF := hs.few
  have HF2 := hd.few
  unfold maxLen at HF HF2
  obtain ⟨av, cv, rfl⟩ := hs.shape
  obtain ⟨au, cu, rfl⟩ := hd.shape
  have RA := hid (krange_new w (r.cells (.slice av r.ss.length cv) (.slice au r.dl.length cu)) 88)
  have ka : Keeps [] w (w.alloc (.cells (r.cells (.slice av r.ss.length cv) (.slice au r.dl.length cu)).toArray 88)) := (Keeps.refl [] w).alloc _
  have KA := hid ka
  have HS := hid (hs.keep ka)
  have HD := hid (hd.keep ka)
  have HPA := hid hp
  have HTP := hid ht
  clear hs hd hp ht ka
  obtain ⟨res, hr⟩ : ∃ z, z = rencQ r := ⟨_, rfl⟩
  rw [← hr]
  have HR := hid hr
  clear hr
  go_enter Try.func43, Try.ntmps43
  go_wp2_with (first | (refine wpList_is rfl _ _ (exec_box 88 _ (r.cells (.slice av r.ss.length cv) (.slice au r.dl.length cu)).toArray rfl rfl) ?_; refine Hid.out ?_) | fail)
  refine hid ?_
  obtain ⟨n0, hn0⟩ : ∃ z, z = w.heap.size := ⟨_, rfl⟩
  obtain ⟨W, hW⟩ : ∃ z, z = w.alloc (.cells (r.cells (.slice av r.ss.length cv) (.slice au r.dl.length cu)).toArray 88) := ⟨_, rfl⟩
  rw [← hn0] at RA ⊢
  rw [← hW] at RA KA HS HD ⊢
  clear hn0 hW
  have c3 := ask_cell RA.out (show _ = some (.int .i64 r.dO) from rfl) (j := 3)
  by_cases o1 : 1 ≤ r.dO
  case neg =>
    have d1 : decide (r.dO < 1) = true := by simp; omega
    have OK := hid (show okDo r.dO = false by unfold okDo; simp; omega)
    clear o1
    go_wp2_with fail
    go_ret2
    rw [HR.out]
    unfold rencQ
    rw [if_pos OK.out]
    exact ⟨none, 0, rfl, row_nil _, by simp, KA.out⟩
  have d1 : decide (r.dO < 1) = false := by simp; omega
  by_cases o2 : r.dO ≤ 11
  case neg =>
    have d2 : decide (11 < r.dO) = true := by simp; omega
    have OK := hid (show okDo r.dO = false by unfold okDo; simp; omega)
    clear o1 o2
    go_wp2_with fail
    go_ret2
    rw [HR.out]
    unfold rencQ
    rw [if_pos OK.out]
    exact ⟨none, 0, rfl, row_nil _, by simp, KA.out⟩
  have d2 : decide (11 < r.dO) = false := by simp; omega
  have OK := hid (show okDo r.dO = true by unfold okDo; simp; omega)
  clear o1 o2
  go_wp2_with fail
  clear c3 d1 d2
  go_loopw [4] (fun iv wr => ∃ k : Nat, k ≤ r.dl.length ∧ iv = .int .i64 (k : Int) ∧ Hid (∀ j (hj : j < r.dl.length), j < k → mayL r.dl[j] = true) ∧ Hid (Keeps [] W wr)) (fun iv _ => r.dl.length - (intOf iv).toNat)
  case atStart => exact ⟨0, by omega, rfl, hid (fun j _ h => absurd h (Nat.not_lt_zero _)), hid (Keeps.refl _ _)⟩
  case round =>
    obtain ⟨k, hk, rfl, HA, K⟩ := hrel
    have c13 := ask_cell (krange_keep RA.out K.out (by simp)) (show _ = some (.slice au r.dl.length cu) from rfl) (j := 13)
    by_cases hlt : k < r.dl.length
    · obtain ⟨g, off, e1, hg, R0⟩ := (HD.out.keep K.out).at k hlt
      subst e1
      obtain ⟨x, hx⟩ : ∃ x, x = r.dl[k]'hlt := ⟨_, rfl⟩
      rw [← hx] at R0
      have R := hid R0
      have HX := hid hx
      clear hg R0 hx
      cases hm : mayL x with
      | true =>
        have HM := hid hm
        clear hm
        go_wp2_with (first | (refine wpList_isW rfl _ _ (exec_load _ _ _ _ rfl rfl (loadDl_run _ g (off + k * 14) x R.out)) ?_) | fail)
        refine (rdMay_any _ x).mono ?_
        rintro e w2 ⟨rfl, k2⟩
        rw [HM.out]
        have K2 := hid (K.out.trans k2)
        clear k2
        go_wp2_with fail
        go_roundw
        case rel => exact ⟨k + 1, by omega, by go_num, hid (fun j hj hjk => by
          rcases Nat.lt_or_ge j k with h | h
          · exact HA.out j hj h
          · obtain rfl : j = k := by omega
            rw [← HX.out]; exact HM.out), K2⟩
        case measure => simp [intOf]; omega
      | false =>
        have HM := hid hm
        clear hm
        go_wp2_with (first | (refine wpList_isW rfl _ _ (exec_load _ _ _ _ rfl rfl (loadDl_run _ g (off + k * 14) x R.out)) ?_) | fail)
        refine (rdMay_any _ x).mono ?_
        rintro e w2 ⟨rfl, k2⟩
        rw [HM.out]
        have K2 := hid (K.out.trans k2)
        clear k2
        go_wp2_with fail
        go_ret2
        rw [HR.out]
        unfold rencQ
        rw [if_neg (by rw [OK.out]; simp), if_pos (badL_at hlt (by rw [← HX.out]; exact HM.out))]
        exact ⟨none, 0, rfl, row_nil _, by simp, KA.out.trans K2.out⟩
    · obtain rfl : k = r.dl.length := by omega
      have HB : Hid (badL r.dl = false) := hid (badL_no (fun j hj => HA.out j hj hj))
      clear HA
      have KW := hid (KA.out.trans K.out)
      have c12 := ask_cell (krange_keep RA.out K.out (by simp)) (show _ = some (.slice av r.ss.length cv) from rfl) (j := 12)
      by_cases o3 : 4000 < r.ss.length
      · have d3 : decide ((4000 : Int) < (r.ss.length : Int)) = true := by simp; omega
        have O3 := hid o3
        clear o3
        go_wp2_with fail
        go_ret2
        rw [HR.out]
        unfold rencQ
        rw [if_neg (by rw [OK.out]; simp), if_neg (by rw [HB.out]; simp), if_pos (Or.inl O3.out)]
        exact ⟨none, 0, rfl, row_nil _, by simp, KW.out⟩
      have d3 : decide ((4000 : Int) < (r.ss.length : Int)) = false := by simp; omega
      by_cases o4 : 4000 < r.dl.length
      · have d4 : decide ((4000 : Int) < (r.dl.length : Int)) = true := by simp; omega
        have O4 := hid o4
        clear o3 o4
        go_wp2_with fail
        go_ret2
        rw [HR.out]
        unfold rencQ
        rw [if_neg (by rw [OK.out]; simp), if_neg (by rw [HB.out]; simp), if_pos (Or.inr O4.out)]
        exact ⟨none, 0, rfl, row_nil _, by simp, KW.out⟩
      have d4 : decide ((4000 : Int) < (r.dl.length : Int)) = false := by simp; omega
      have O34 := hid (show ¬ (4000 < r.ss.length ∨ 4000 < r.dl.length) by omega)
      clear o3 o4
      have P0 := hid (PenSince.new W K.out 151)
      have c0 := ask_cell (krange_keep RA.out P0.out.kept (by simp)) (show _ = some (.int .i64 r.cl) from rfl) (j := 0)
      go_wp2_with fail
      obtain ⟨p, hp⟩ : ∃ z, z = wr.heap.size := ⟨_, rfl⟩
      obtain ⟨w0, hw0⟩ : ∃ z, z = wr.alloc (.cells #[.slice none 0 0, .int .i64 0] 151) := ⟨_, rfl⟩
      rw [← hw0] at P0 ⊢
      rw [← hp] at P0 ⊢
      obtain ⟨s0, hs0⟩ : ∃ z : PSt, z = ([], 0) := ⟨_, rfl⟩
      obtain ⟨v0, hv0⟩ : ∃ z : Value, z = .slice none 0 0 := ⟨_, rfl⟩
      replace P0 : Hid (PenSince W w0 151 p v0 s0.1 s0.2) := hid (by rw [hs0, hv0]; exact P0.out)
      have HS0 := hid hs0
      clear hp hw0 c0 c12 c13 d3 d4 hs0 hv0
      refine (rnum_any w0 W.heap.size p v0 s0.1 s0.2 r.cl 1 P0.out.pen P0.out.kept.size).mono ?_
      intro e w1 hq
      obtain ⟨rfl, v1, q4⟩ := P0.out.step hq
      obtain ⟨s1, hs1⟩ : ∃ z, z = refNum r.cl 1 s0 := ⟨_, rfl⟩
      rw [show refNum r.cl 1 (s0.1, s0.2) = s1 from hs1.symm] at q4
      have P1 := hid q4
      have HS1 := hid hs1
      clear q4 hq hs1
      have c1 := ask_cell (krange_keep RA.out P1.out.kept (by simp)) (show _ = some (.int .i64 r.lf) from rfl) (j := 1)
      go_wp2_with fail
      clear c1
      refine (rnum_any w1 W.heap.size p v1 s1.1 s1.2 r.lf 3 P1.out.pen P1.out.kept.size).mono ?_
      intro e w2 hq
      obtain ⟨rfl, v2, q4⟩ := P1.out.step hq
      obtain ⟨s2, hs2⟩ : ∃ z, z = refNum r.lf 3 s1 := ⟨_, rfl⟩
      rw [show refNum r.lf 3 (s1.1, s1.2) = s2 from hs2.symm] at q4
      have P2 := hid q4
      have HS2 := hid hs2
      clear q4 hq hs2
      have c2 := ask_cell (krange_keep RA.out P2.out.kept (by simp)) (show _ = some (.int .i64 r.sq) from rfl) (j := 2)
      go_wp2_with fail
      clear c2
      refine (rnum_any w2 W.heap.size p v2 s2.1 s2.2 r.sq 4 P2.out.pen P2.out.kept.size).mono ?_
      intro e w3 hq
      obtain ⟨rfl, v3, q4⟩ := P2.out.step hq
      obtain ⟨s3, hs3⟩ : ∃ z, z = refNum r.sq 4 s2 := ⟨_, rfl⟩
      rw [show refNum r.sq 4 (s2.1, s2.2) = s3 from hs3.symm] at q4
      have P3 := hid q4
      have HS3 := hid hs3
      clear q4 hq hs3
      have c3 := ask_cell (krange_keep RA.out P3.out.kept (by simp)) (show _ = some (.int .i64 r.dO) from rfl) (j := 3)
      go_wp2_with fail
      clear c3
      refine (rnum_any w3 W.heap.size p v3 s3.1 s3.2 r.dO 1 P3.out.pen P3.out.kept.size).mono ?_
      intro e w4 hq
      obtain ⟨rfl, v4, q4⟩ := P3.out.step hq
      obtain ⟨s4, hs4⟩ : ∃ z, z = refNum r.dO 1 s3 := ⟨_, rfl⟩
      rw [show refNum r.dO 1 (s3.1, s3.2) = s4 from hs4.symm] at q4
      have P4 := hid q4
      have HS4 := hid hs4
      clear q4 hq hs4
      have c4 := ask_cell (krange_keep RA.out P4.out.kept (by simp)) (show _ = some (.string r.pa) from rfl) (j := 4)
      have hcv := fun w => run_bytes_of_string (P := Try.prog) w 9 34 5 r.pa Try.underlying9 Try.underlying34 Try.underlying5
      go_wp2_with fail
      clear c4 hcv
      have hc1 := grownCap_ge w4 r.pa.size 0 5
      have hc2 := grownCap_le_maxLen w4 r.pa.size 0 5 (by have := HPA.out; unfold maxLen; omega)
      generalize grownCap w4 r.pa.size 0 5 = nn at hc1 hc2 ⊢
      have K0 := ((Keeps.refl [] w4).alloc (.cells (bytesRow r.pa nn) 5 ((bytesRow r.pa nn).size, (bytesRow r.pa nn).size + 1))).drew
      have RR : RowAt ((w4.alloc (.cells (bytesRow r.pa nn) 5 ((bytesRow r.pa nn).size, (bytesRow r.pa nn).size + 1))).drew) (.slice (some ⟨w4.heap.size, 0, none⟩) r.pa.size nn) (codes r.pa) :=
        (row_of_string w4 r.pa nn 5 _ hc1 hc2).keep (S := []) (Keeps.refl _ _).drew (by intro _ _ _ _ _; simp)
      have PB := P4.out.keepD K0
      have OF : Off (p :: v4.ownBlock.toList) (.slice (some ⟨w4.heap.size, 0, none⟩) r.pa.size nn) (codes r.pa) := by
        intro ad _ _ hs _ hm
        injection hs with e1 _ _
        obtain rfl := Option.some.inj e1
        rcases List.mem_cons.1 hm with hm | hm
        · have := P4.out.pen.lt
          simp at hm; omega
        · have := (P4.out.pen.own.lt _ (by simpa using hm)).2
          simp at this
      refine (rraw_any _ W.heap.size p v4 s4.1 s4.2 _ (codes r.pa) PB.pen RR OF PB.kept.size (by rw [codes_length]; exact HPA.out)).mono ?_
      intro e w5 hq
      obtain ⟨rfl, v5, q4⟩ := PB.step hq
      obtain ⟨s5, ht1⟩ : ∃ z, z = refRaw (codes r.pa) s4 := ⟨_, rfl⟩
      rw [show refRaw (codes r.pa) (s4.1, s4.2) = s5 from ht1.symm] at q4
      have P5 := hid q4
      have HS5 := hid ht1
      clear q4 hq ht1 K0 RR PB OF hc1 hc2
      have c5 := ask_cell (krange_keep RA.out P5.out.kept (by simp)) (show _ = some (.string r.tp) from rfl) (j := 5)
      have hcv := fun w => run_bytes_of_string (P := Try.prog) w 9 34 5 r.tp Try.underlying9 Try.underlying34 Try.underlying5
      go_wp2_with fail
      clear c5 hcv
      have hc1 := grownCap_ge w5 r.tp.size 0 5
      have hc2 := grownCap_le_maxLen w5 r.tp.size 0 5 (by have := HTP.out; unfold maxLen; omega)
      generalize grownCap w5 r.tp.size 0 5 = nn at hc1 hc2 ⊢
      have K0 := ((Keeps.refl [] w5).alloc (.cells (bytesRow r.tp nn) 5 ((bytesRow r.tp nn).size, (bytesRow r.tp nn).size + 1))).drew
      have RR : RowAt ((w5.alloc (.cells (bytesRow r.tp nn) 5 ((bytesRow r.tp nn).size, (bytesRow r.tp nn).size + 1))).drew) (.slice (some ⟨w5.heap.size, 0, none⟩) r.tp.size nn) (codes r.tp) :=
        (row_of_string w5 r.tp nn 5 _ hc1 hc2).keep (S := []) (Keeps.refl _ _).drew (by intro _ _ _ _ _; simp)
      have PB := P5.out.keepD K0
      have OF : Off (p :: v5.ownBlock.toList) (.slice (some ⟨w5.heap.size, 0, none⟩) r.tp.size nn) (codes r.tp) := by
        intro ad _ _ hs _ hm
        injection hs with e1 _ _
        obtain rfl := Option.some.inj e1
        rcases List.mem_cons.1 hm with hm | hm
        · have := P5.out.pen.lt
          simp at hm; omega
        · have := (P5.out.pen.own.lt _ (by simpa using hm)).2
          simp at this
      refine (rraw_any _ W.heap.size p v5 s5.1 s5.2 _ (codes r.tp) PB.pen RR OF PB.kept.size (by rw [codes_length]; exact HTP.out)).mono ?_
      intro e w6 hq
      obtain ⟨rfl, v6, q4⟩ := PB.step hq
      obtain ⟨s6, ht1⟩ : ∃ z, z = refRaw (codes r.tp) s5 := ⟨_, rfl⟩
      rw [show refRaw (codes r.tp) (s5.1, s5.2) = s6 from ht1.symm] at q4
      have P6 := hid q4
      have HS6 := hid ht1
      clear q4 hq ht1 K0 RR PB OF hc1 hc2
      have c6 := ask_cell (krange_keep RA.out P6.out.kept (by simp)) (show _ = some (.bool r.di) from rfl) (j := 6)
      go_wp2_with fail
      clear c6
      refine (rbool_any w6 W.heap.size p v6 s6.1 s6.2 r.di P6.out.pen P6.out.kept.size).mono ?_
      intro e w7 hq
      obtain ⟨rfl, v7, q4⟩ := P6.out.step hq
      obtain ⟨s7, hs7⟩ : ∃ z, z = refBool r.di s6 := ⟨_, rfl⟩
      rw [show refBool r.di (s6.1, s6.2) = s7 from hs7.symm] at q4
      have P7 := hid q4
      have HS7 := hid hs7
      clear q4 hq hs7
      have c7 := ask_cell (krange_keep RA.out P7.out.kept (by simp)) (show _ = some (.bool r.wr) from rfl) (j := 7)
      go_wp2_with fail
      clear c7
      refine (rbool_any w7 W.heap.size p v7 s7.1 s7.2 r.wr P7.out.pen P7.out.kept.size).mono ?_
      intro e w8 hq
      obtain ⟨rfl, v8, q4⟩ := P7.out.step hq
      obtain ⟨s8, hs8⟩ : ∃ z, z = refBool r.wr s7 := ⟨_, rfl⟩
      rw [show refBool r.wr (s7.1, s7.2) = s8 from hs8.symm] at q4
      have P8 := hid q4
      have HS8 := hid hs8
      clear q4 hq hs8
      have c8 := ask_cell (krange_keep RA.out P8.out.kept (by simp)) (show _ = some (.bool r.cz) from rfl) (j := 8)
      go_wp2_with fail
      clear c8
      refine (rbool_any w8 W.heap.size p v8 s8.1 s8.2 r.cz P8.out.pen P8.out.kept.size).mono ?_
      intro e w9 hq
      obtain ⟨rfl, v9, q4⟩ := P8.out.step hq
      obtain ⟨s9, hs9⟩ : ∃ z, z = refBool r.cz s8 := ⟨_, rfl⟩
      rw [show refBool r.cz (s8.1, s8.2) = s9 from hs9.symm] at q4
      have P9 := hid q4
      have HS9 := hid hs9
      clear q4 hq hs9
      have c9 := ask_cell (krange_keep RA.out P9.out.kept (by simp)) (show _ = some (.int .i64 r.ha) from rfl) (j := 9)
      go_wp2_with fail
      clear c9
      refine (rnum_any w9 W.heap.size p v9 s9.1 s9.2 r.ha 1 P9.out.pen P9.out.kept.size).mono ?_
      intro e w10 hq
      obtain ⟨rfl, v10, q4⟩ := P9.out.step hq
      obtain ⟨s10, hs10⟩ : ∃ z, z = refNum r.ha 1 s9 := ⟨_, rfl⟩
      rw [show refNum r.ha 1 (s9.1, s9.2) = s10 from hs10.symm] at q4
      have P10 := hid q4
      have HS10 := hid hs10
      clear q4 hq hs10
      have c10 := ask_cell (krange_keep RA.out P10.out.kept (by simp)) (show _ = some (.int .i64 r.nx) from rfl) (j := 10)
      go_wp2_with fail
      clear c10
      refine (rnum_any w10 W.heap.size p v10 s10.1 s10.2 r.nx 4 P10.out.pen P10.out.kept.size).mono ?_
      intro e w11 hq
      obtain ⟨rfl, v11, q4⟩ := P10.out.step hq
      obtain ⟨s11, hs11⟩ : ∃ z, z = refNum r.nx 4 s10 := ⟨_, rfl⟩
      rw [show refNum r.nx 4 (s10.1, s10.2) = s11 from hs11.symm] at q4
      have P11 := hid q4
      have HS11 := hid hs11
      clear q4 hq hs11
      have c11 := ask_cell (krange_keep RA.out P11.out.kept (by simp)) (show _ = some (.int .i64 r.sw) from rfl) (j := 11)
      go_wp2_with fail
      clear c11
      refine (rnum_any w11 W.heap.size p v11 s11.1 s11.2 r.sw 3 P11.out.pen P11.out.kept.size).mono ?_
      intro e w12 hq
      obtain ⟨rfl, v12, q4⟩ := P11.out.step hq
      obtain ⟨s12, hs12⟩ : ∃ z, z = refNum r.sw 3 s11 := ⟨_, rfl⟩
      rw [show refNum r.sw 3 (s11.1, s11.2) = s12 from hs12.symm] at q4
      have P12 := hid q4
      have HS12 := hid hs12
      clear q4 hq hs12
      have c12 := ask_cell (krange_keep RA.out P12.out.kept (by simp)) (show _ = some (.slice av r.ss.length cv) from rfl) (j := 12)
      go_wp2_with fail
      clear c12
      refine (rnum_any w12 W.heap.size p v12 s12.1 s12.2 (r.ss.length : Int) 2 P12.out.pen P12.out.kept.size).mono ?_
      intro e w13 hq
      obtain ⟨rfl, v13, q4⟩ := P12.out.step hq
      obtain ⟨s13, hs13⟩ : ∃ z, z = refNum (r.ss.length : Int) 2 s12 := ⟨_, rfl⟩
      rw [show refNum (r.ss.length : Int) 2 (s12.1, s12.2) = s13 from hs13.symm] at q4
      have P13 := hid q4
      have HS13 := hid hs13
      clear q4 hq hs13
      go_wp2_with fail
      go_loopw [6] (fun iv wr => ∃ (k : Nat) (v8 : Value), k ≤ r.ss.length ∧ iv = .int .i64 (k : Int) ∧ Hid (PenSince W wr 151 p v8 (lsP szC.q (r.ss.take k) s13).1 (lsP szC.q (r.ss.take k) s13).2)) (fun iv _ => r.ss.length - (intOf iv).toNat)
      case atStart => exact ⟨0, v13, by omega, rfl, P13⟩
      case round =>
        obtain ⟨k, v8, hk, rfl, P8⟩ := hrel
        have c6 := ask_cell (krange_keep RA.out P8.out.kept (by simp)) (show _ = some (.slice av r.ss.length cv) from rfl) (j := 12)
        by_cases hlt : k < r.ss.length
        · have hk64 : k < 4000 := by have := O34.out; omega
          obtain ⟨g, off, e1, hg, R0⟩ := HS.out.at k hlt
          subst e1
          obtain ⟨x, hx⟩ : ∃ x, x = r.ss[k]'hlt := ⟨_, rfl⟩
          rw [← hx] at R0
          have R := hid R0
          have HX := hid hx
          have HLT := hid hlt
          clear hg R0 hx
          obtain ⟨t0, ht0⟩ : ∃ z, z = lsP szC.q (r.ss.take k) s13 := ⟨_, rfl⟩
          rw [← ht0] at P8
          have HT0 := hid ht0
          clear ht0
          have RK := krange_keep R.out P8.out.kept (by simp)
          have cx0 : wr.cell? ⟨g, off + k * 4, none⟩ = some (.int .i64 x.c) := RK 0 _ rfl
          have cx1 : wr.cell? ⟨g, off + k * 4 + 1, none⟩ = some (.int .i64 x.l) := RK 1 _ rfl
          have cx2 : wr.cell? ⟨g, off + k * 4 + 2, none⟩ = some (.int .i64 x.n) := RK 2 _ rfl
          clear RK
          go_wp2_with fail
          clear cx0 cx1 cx2 c6
          refine (rPutSt_any _ W.heap.size p v8 t0 x P8.out.pen P8.out.kept.size).mono ?_
          intro e y1 hq
          obtain ⟨rfl, u1, q4⟩ := P8.out.step hq
          obtain ⟨t1, ht1⟩ : ∃ z, z = refNum x.n 4 (refNum x.l 3 (refNum x.c 1 t0)) := ⟨_, rfl⟩
          rw [← ht1] at q4
          have Q1 := hid q4
          have HT1 := hid ht1
          clear q4 hq ht1
          have c6 := ask_cell (krange_keep RA.out Q1.out.kept (by simp)) (show _ = some (.slice (some ⟨g, off, none⟩) r.ss.length cv) from rfl) (j := 12)
          have ci : y1.cell? ⟨g, off + k * 4 + 3, none⟩ = some (.int .i64 x.s) := (krange_keep R.out Q1.out.kept (by simp)) 3 _ rfl
          go_wp2_with fail
          clear c6 ci
          refine (rnum_any y1 W.heap.size p u1 t1.1 t1.2 x.s 2 Q1.out.pen Q1.out.kept.size).mono ?_
          intro e y2 hq
          obtain ⟨rfl, u2, q4⟩ := Q1.out.step hq
          have Q2 := hid q4
          clear q4 hq
          have NX : lsP szC.q (r.ss.take (k + 1)) s13 = refNum x.s 2 (t1.1, t1.2) := by
            rw [List.take_succ_eq_append_getElem HLT.out, ← HX.out]
            unfold lsP
            rw [List.foldl_append]
            show szC.q x (lsP szC.q (r.ss.take k) s13) = _
            rw [← HT0.out, HT1.out]
            rfl
          have P9 : Hid (PenSince W y2 151 p u2 (lsP szC.q (r.ss.take (k + 1)) s13).1 (lsP szC.q (r.ss.take (k + 1)) s13).2) := hid (by rw [NX]; exact Q2.out)
          clear NX
          go_wp2_with fail
          go_roundw
          case rel => exact ⟨k + 1, u2, by have := HLT.out; omega, by go_num, P9⟩
          case measure => have := HLT.out; simp [intOf]; omega
        · obtain rfl : k = r.ss.length := by omega
          rw [List.take_length] at P8
          obtain ⟨t0, ht0⟩ : ∃ z, z = lsP szC.q r.ss s13 := ⟨_, rfl⟩
          rw [← ht0] at P8
          have HT0 := hid ht0
          clear ht0
          have c7 := ask_cell (krange_keep RA.out P8.out.kept (by simp)) (show _ = some (.slice au r.dl.length cu) from rfl) (j := 13)
          go_wp2_with fail
          clear c7 c6
          refine (rnum_any _ W.heap.size p v8 t0.1 t0.2 (r.dl.length : Int) 2 P8.out.pen P8.out.kept.size).mono ?_
          intro e z1 hq
          obtain ⟨rfl, v9, q4⟩ := P8.out.step hq
          obtain ⟨t1, ht1⟩ : ∃ z, z = refNum (r.dl.length : Int) 2 t0 := ⟨_, rfl⟩
          rw [show refNum (r.dl.length : Int) 2 (t0.1, t0.2) = t1 from ht1.symm] at q4
          have Q1 := hid q4
          have HT1 := hid ht1
          clear q4 hq ht1
          go_wp2_with fail
          go_loopw [7] (fun iv wr => ∃ (k : Nat) (v8 : Value), k ≤ r.dl.length ∧ iv = .int .i64 (k : Int) ∧ Hid (PenSince W wr 151 p v8 (lsP dlC.q (r.dl.take k) t1).1 (lsP dlC.q (r.dl.take k) t1).2)) (fun iv _ => r.dl.length - (intOf iv).toNat)
          case atStart => exact ⟨0, v9, by omega, rfl, Q1⟩
          case round =>
            obtain ⟨k, va, hk, rfl, PA⟩ := hrel
            have c6 := ask_cell (krange_keep RA.out PA.out.kept (by simp)) (show _ = some (.slice au r.dl.length cu) from rfl) (j := 13)
            by_cases hlt : k < r.dl.length
            · have hk64 : k < 4000 := by have := O34.out; omega
              obtain ⟨g, off, e1, hg, R0⟩ := (HD.out.keep PA.out.kept).at k hlt
              subst e1
              obtain ⟨x, hx⟩ : ∃ x, x = r.dl[k]'hlt := ⟨_, rfl⟩
              rw [← hx] at R0
              have R := hid R0
              have HX := hid hx
              have HLT := hid hlt
              clear hg R0 hx
              obtain ⟨t2, ht2⟩ : ∃ z, z = lsP dlC.q (r.dl.take k) t1 := ⟨_, rfl⟩
              rw [← ht2] at PA
              have HT2 := hid ht2
              clear ht2
              go_wp2_with (first | (refine wpList_isW rfl _ _ (exec_load _ _ _ _ rfl rfl (loadDl_run _ g (off + k * 14) x R.out)) ?_) | fail)
              clear c6
              refine (rdPut_any _ W.heap.size p va t2 x PA.out.pen PA.out.kept.size).mono ?_
              intro e y2 hq
              obtain ⟨rfl, u2, q4⟩ := PA.out.step hq
              have Q2 := hid q4
              clear q4 hq
              have NX : lsP dlC.q (r.dl.take (k + 1)) t1 = rputD x t2 := by
                rw [List.take_succ_eq_append_getElem HLT.out, ← HX.out]
                unfold lsP
                rw [List.foldl_append]
                show dlC.q x (lsP dlC.q (r.dl.take k) t1) = _
                rw [← HT2.out]
                rfl
              have P9 : Hid (PenSince W y2 151 p u2 (lsP dlC.q (r.dl.take (k + 1)) t1).1 (lsP dlC.q (r.dl.take (k + 1)) t1).2) := hid (by rw [NX]; exact Q2.out)
              clear NX
              go_wp2_with fail
              go_roundw
              case rel => exact ⟨k + 1, u2, by have := HLT.out; omega, by go_num, P9⟩
              case measure => have := HLT.out; simp [intOf]; omega
            · obtain rfl : k = r.dl.length := by omega
              rw [List.take_length] at PA
              obtain ⟨t2, ht2⟩ : ∃ z, z = lsP dlC.q r.dl t1 := ⟨_, rfl⟩
              rw [← ht2] at PA
              have HT2 := hid ht2
              clear ht2
              go_wp2_with fail
              refine (rbytes_any _ W.heap.size p va t2.1 t2.2 PA.out.pen).mono ?_
              rintro e w7' ⟨a7, c7, q0, q1, q2, q3⟩
              simp only at q0 q1
              obtain ⟨zs, hzs⟩ : ∃ z, z = (if t2.2 = 0 then t2.1 else []) := ⟨_, rfl⟩
              rw [← hzs] at q0 q1
              have HZS := hid hzs
              clear hzs
              subst q0
              have RR := hid q1
              have KK := hid (KA.out.trans (PA.out.kept.trans q3))
              have N := hid (fun ad (h : a7 = some ad) => Nat.le_trans KA.out.size (Nat.le_trans PA.out.kept.size (q2 ad h)))
              clear q1 q2 q3
              go_wp2_with fail
              go_ret2
              have ER : res = (zs, t2.2) := by
                rw [HR.out]
                unfold rencQ
                rw [if_neg (by rw [OK.out]; simp), if_neg (by rw [HB.out]; simp), if_neg O34.out]
                have e1 : rqC.q r ([], 0) = t2 := by
                  rw [HT2.out, HT1.out, HT0.out, HS13.out, HS12.out, HS11.out, HS10.out, HS9.out, HS8.out, HS7.out, HS6.out, HS5.out, HS4.out, HS3.out, HS2.out, HS1.out, HS0.out]
                  rfl
                rw [e1]
                unfold endS
                rw [HZS.out]
              rw [ER]
              exact ⟨a7, c7, rfl, RR.out, N.out, KK.out⟩
end Go.Proofs.Ytoglcohdanpciaa


/- note: the reference's DecodeReply. -/
namespace Go.Proofs.Ytoglcohdanpciaa
open Go.RowKit Go.Shelf
set_option maxRecDepth 100000
set_option linter.unusedSimpArgs false
set_option linter.unusedVariables false

theorem bld_ent (t : ByteArray) (w : World) : (Instr.build 102 #[(0, .string t)]).run Try.prog w = .ok (KEnt.v ⟨t, 0, false⟩) w := by kernel_rfl
theorem exec_ent {ρ : Operand → Value} {o : Oper} {w : World} (x : Operand) (t : ByteArray) (ho : o.op = .build 102 #[(0, x)]) (hx : ρ x = .string t) : (execOp ρ o).run Try.prog w = .ok (.value (KEnt.v ⟨t, 0, false⟩)) w := by
  simp only [execOp, ho, List.map_toArray, List.map_cons, List.map_nil, hx, Sem.run_bind, bld_ent, Result.andThen_ok, Sem.run_pure]
theorem numE_pos {st s : PSt} {x : Int} (h : numE 2 st = (x, s)) (hx : x ≠ 0) : s.2 = 0 := by
  by_cases h1 : st.2 ≠ 0
  · rw [numE_stay 2 h1] at h
    injection h with h _
    exact absurd h.symm hx
  · have h1' : st.2 = 0 := by simpa using h1
    unfold numE after rdNum at h
    rw [if_neg h1] at h
    rw [if_neg (show ¬ ¬ ((1 : Int) ≤ 2 ∧ (2 : Int) ≤ 7) by decide)] at h
    by_cases h2 : st.1.length < Int.toNat 2
    · rw [if_pos h2] at h
      injection h with h _
      exact absurd (show x = 0 from h.symm) hx
    · rw [if_neg h2] at h
      injection h with _ h
      rw [← h]
/-- What the reference answers of a reply's bytes. -/
def RDeP (w : World) (y : Int) (r : Rp) (e : Ending) (w' : World) : Prop :=
  Keeps [] w w' ∧ ((y = 0 ∧ ∃ ve am cm, e = .returned (.tuple #[rpV r ve (.slice am r.mp.length cm), .int .i64 0]) ∧ LsAt KEnt w' ve r.es ∧ RowAt w' (.slice am r.mp.length cm) r.mp) ∨ (y ≠ 0 ∧ e = .returned (.tuple #[rpV rpZ (.slice none 0 0) (.slice none 0 0), .int .i64 y])))
end Go.Proofs.Ytoglcohdanpciaa


/- note: the reference reads a stripe; how reading many ends. -/
namespace Go.Proofs.Ytoglcohdanpciaa
open Go.RowKit Go.Shelf
set_option maxRecDepth 100000
set_option linter.unusedSimpArgs false
set_option linter.unusedVariables false

/-- Where there are too many. -/
def fallS (s : PSt) (c : Nat) : PSt := if 4000 < c then (if s.2 = 0 then (s.1, 3) else s) else s
theorem fallS_ok {st s : PSt} {c : Nat} (h : numE 2 st = ((c : Int), s)) (h0 : (fallS s c).2 = 0) : c ≤ 4000 ∧ fallS s c = s := by
  by_cases h4 : 4000 < c
  · exfalso
    unfold fallS at h0
    rw [if_pos h4, if_pos (numE_pos h (by omega))] at h0
    exact absurd h0 (by show ¬ (3 : Int) = 0; decide)
  · exact ⟨by omega, by unfold fallS; rw [if_neg h4]⟩
theorem ls_exit {α : Type} {c : Cdc α} (hc : c.Ok) {st s sF : PSt} {n k : Nat} (h : numE 2 st = ((n : Int), s)) (hF : sF = fallS s n) (hk : k ≤ n) (hx : k = n ∨ (itG c.g sF k).2.2 ≠ 0) :
    (lsG c.g st).2 = (itG c.g sF k).2 ∧ ((itG c.g sF k).2.2 = 0 → (lsG c.g st).1 = (itG c.g sF k).1) := by
  by_cases h4 : 4000 < n
  · have hs : sF = (s.1, 3) := by rw [hF]; unfold fallS; rw [if_pos h4, if_pos (numE_pos h (by omega))]
    have e0 : (itG c.g sF k).2 = sF := it_stay hc (by rw [hs]; show (3 : Int) ≠ 0; decide) k
    have e1 : lsG c.g st = ([], sF) := by unfold lsG; rw [h]; simp only; rw [if_pos (by omega), hs]
    refine ⟨by rw [e0, e1], fun h0 => ?_⟩
    rw [e0, hs] at h0
    exact absurd h0 (by show ¬ (3 : Int) = 0; decide)
  · have hs : sF = s := by rw [hF]; unfold fallS; rw [if_neg h4]
    have e1 : lsG c.g st = itG c.g sF n := by unfold lsG; rw [h]; simp only; rw [if_neg (by omega), Int.toNat_natCast, hs]
    rcases hx with rfl | hx
    · rw [e1]; exact ⟨rfl, fun _ => rfl⟩
    · have e2 := it_stop hc hx (n - k)
      rw [show k + (n - k) = n by omega] at e2
      exact ⟨by rw [e1, e2], fun h0 => absurd h0 hx⟩
theorem itG_zero {α : Type} {c : Cdc α} (hc : c.Ok) {sF : PSt} {k : Nat} (h : (itG c.g sF k).2.2 = 0) : sF.2 = 0 := by
  by_cases h0 : sF.2 = 0
  · exact h0
  · rw [it_stay hc h0] at h; exact h
theorem iSt : (Try.prog.info? 30).map (fun i => (i.zero, i.size)) = some (some (.agg #[.int .i64 0, .int .i64 0, .int .i64 0]), 3) := by kernel_rfl
theorem uSt : ∃ d, Try.prog.underlying 30 = some d ∧ d.isRow = true := ⟨_, Try.underlying30, rfl⟩
theorem one_st (a b c : Int) : ∀ u ∈ ([.int .i64 a, .int .i64 b, .int .i64 c] : List Value), u.oneCell' = true := by
  intro u hu
  simp only [List.mem_cons, List.not_mem_nil, or_false] at hu
  rcases hu with rfl | rfl | rfl <;> rfl
theorem loadSt {W : World} {b : Nat} {cs : List Value} (h : W.rangeAt b 0 cs) (hn : cs.length = 3) : (Instr.loadAt 30 (.pointer (some ⟨b, 0, none⟩))).run Try.prog W = .ok (.agg cs.toArray) W := by
  obtain ⟨d, hd, hr⟩ := uSt
  exact run_loadAt_mid W b 0 30 cs d h hd hr (by rw [hn]; kernel_rfl)
theorem bld_rsz (a b c : Int) (w : World) : (Instr.build 143 #[(0, .agg #[.int .i64 a, .int .i64 b, .int .i64 c])]).run Try.prog w = .ok (KSz.v ⟨a, b, c, 0⟩) w := by kernel_rfl
theorem exec_rsz {ρ : Operand → Value} {o : Oper} {w : World} (x : Operand) (a b c : Int) (ho : o.op = .build 143 #[(0, x)]) (hx : ρ x = .agg #[.int .i64 a, .int .i64 b, .int .i64 c]) : (execOp ρ o).run Try.prog w = .ok (.value (KSz.v ⟨a, b, c, 0⟩)) w := by
  simp only [execOp, ho, List.map_toArray, List.map_cons, List.map_nil, hx, Sem.run_bind, bld_rsz, Result.andThen_ok, Sem.run_pure]
set_option maxHeartbeats 6400000 in
theorem rnGetSt_any (w : World) (B p : Nat) (st : PSt) (h : REyL w B p st) (hB : B ≤ w.heap.size) {x1 x2 x3 : Int} {s1 s2 s3 : PSt} (h1 : numE 1 st = (x1, s1)) (h2 : numE 3 s1 = (x2, s2)) (h3 : numE 4 s2 = (x3, s3)) :
    Calls Try.prog 97 #[.pointer (some ⟨p, 0, none⟩)] w fun e w' => e = .returned (.agg #[.int .i64 x1, .int .i64 x2, .int .i64 x3]) ∧ REyL w' B p s3 ∧ Keeps [p] w w' := by
  have HP := hid h.lt
  have HB := hid hB
  have N1 := hid h1
  have N2 := hid h2
  have N3 := hid h3
  obtain ⟨wa, hwa⟩ : ∃ z, z = w.alloc (.cells #[.int .i64 0, .int .i64 0, .int .i64 0] 30) := ⟨_, rfl⟩
  have ka : Keeps [] w wa := by rw [hwa]; exact (Keeps.refl [] w).alloc _
  have za : wa.heap.size = w.heap.size + 1 := by rw [hwa]; simp
  obtain ⟨wb, hwb⟩ : ∃ z, z = wa.alloc (.cells #[.int .i64 0, .int .i64 0, .int .i64 0] 30) := ⟨_, rfl⟩
  have kb : Keeps [] wa wb := by rw [hwb]; exact (Keeps.refl [] wa).alloc _
  have zb : wb.heap.size = w.heap.size + 2 := by rw [hwb, World.size_alloc]; omega
  have E0 := hid ((h.more ka).more kb)
  have D0 := hid (show wb.heap[w.heap.size]? = some (.cells #[.int .i64 0, .int .i64 0, .int .i64 0] 30 (0, 0)) from (kb.block w.heap.size (by omega) (by simp)).trans (by rw [hwa]; exact heap_alloc_new w (.cells #[.int .i64 0, .int .i64 0, .int .i64 0] 30)))
  have J0 := hid (show wb.heap[w.heap.size + 1]? = some (.cells #[.int .i64 0, .int .i64 0, .int .i64 0] 30 (0, 0)) by rw [← za, hwb]; exact heap_alloc_new wa _)
  have K0 := hid ((ka.trans kb).mono (S' := [p]) (by simp))
  have HS0 := hid (show w.heap.size + 1 < wb.heap.size by omega)
  have HWA := hid hwa
  have HWB := hid hwb
  clear h hB h1 h2 h3 hwa hwb ka kb za zb
  go_enter Try.func97, Try.ntmps97
  go_wp2_with (first | (refine wpList_is rfl _ _ (exec_alloc 30 #[.int .i64 0, .int .i64 0, .int .i64 0] iSt rfl) ?_; try simp only [World.size_alloc]) | (refine wpList_noval rfl _ (exec_storeNew 30 _ _ rfl (w.alloc (.cells #[.int .i64 0, .int .i64 0, .int .i64 0] 30)) #[.int .i64 0, .int .i64 0, .int .i64 0] #[.int .i64 0, .int .i64 0, .int .i64 0] rfl rfl rfl iSt rfl rfl) ?_) | fail)
  rw [← HWA.out, ← HWB.out]
  obtain ⟨n0, hn0⟩ : ∃ z, z = w.heap.size := ⟨_, rfl⟩
  obtain ⟨n1, hn1⟩ : ∃ z, z = w.heap.size + 1 := ⟨_, rfl⟩
  have NN := hid (show n0 = w.heap.size ∧ n1 = n0 + 1 ∧ p < n0 ∧ B ≤ n0 by have := HP.out; have := HB.out; omega)
  rw [← hn1] at J0 HS0 ⊢
  rw [← hn0] at D0 ⊢
  clear hn0 hn1 HWA HWB


  have A := E0.out.num 1
  rw [N1.out] at A
  refine A.mono ?_
  rintro e u0 ⟨rfl, ey, kk⟩
  have JT := hid ((kk.block n1 HS0.out (by have := NN.out; simp; omega)).trans J0.out)
  have DT := hid ((kk.block n0 (by have := HS0.out; have := NN.out; omega) (by have := NN.out; simp; omega)).trans D0.out)
  have KT := hid (K0.out.trans kk)
  have HT := hid (Nat.lt_of_lt_of_le HS0.out kk.size)
  have ET := hid ey
  clear A ey kk
  obtain ⟨cc, ff⟩ := five_cells JT.out 0
  change u0.cell? ⟨n1, 0, none⟩ = some (.int .i64 0) at cc
  have sk : Keeps [n1] u0 (u0.setCell ⟨n1, 0, none⟩ (.int .i64 x1)) := set_keep
  have JX := hid (show (u0.setCell ⟨n1, 0, none⟩ (.int .i64 x1)).heap[n1]? = some (.cells #[.int .i64 x1, .int .i64 0, .int .i64 0] 30 (0, 0)) from set_five (i := 0) JT.out (.int .i64 x1))
  have DX := hid ((sk.block n0 (by have := HT.out; have := NN.out; omega) (by have := NN.out; simp; omega)).trans DT.out)
  have EX := hid (ET.out.later sk (by have := NN.out; omega) (by have := NN.out; omega))
  have KX := hid (KT.out.trans' sk (fun b hb hm => by simp at hm; have := NN.out; omega))
  have HX := hid (Nat.lt_of_lt_of_le HT.out sk.size)
  clear sk J0 D0 K0 HS0 E0 JT DT KT HT ET
  have J1 := JX
  have D1 := DX
  have K1 := KX
  have HS1 := HX
  have E1 := EX
  clear JX DX KX HX EX
  go_wp2_with fail
  clear cc ff
  have A := E1.out.num 3
  rw [N2.out] at A
  refine A.mono ?_
  rintro e u1 ⟨rfl, ey, kk⟩
  have JT := hid ((kk.block n1 HS1.out (by have := NN.out; simp; omega)).trans J1.out)
  have DT := hid ((kk.block n0 (by have := HS1.out; have := NN.out; omega) (by have := NN.out; simp; omega)).trans D1.out)
  have KT := hid (K1.out.trans kk)
  have HT := hid (Nat.lt_of_lt_of_le HS1.out kk.size)
  have ET := hid ey
  clear A ey kk
  obtain ⟨cc, ff⟩ := five_cells JT.out 1
  change u1.cell? ⟨n1, 1, none⟩ = some (.int .i64 0) at cc
  have sk : Keeps [n1] u1 (u1.setCell ⟨n1, 1, none⟩ (.int .i64 x2)) := set_keep
  have JX := hid (show (u1.setCell ⟨n1, 1, none⟩ (.int .i64 x2)).heap[n1]? = some (.cells #[.int .i64 x1, .int .i64 x2, .int .i64 0] 30 (0, 0)) from set_five (i := 1) JT.out (.int .i64 x2))
  have DX := hid ((sk.block n0 (by have := HT.out; have := NN.out; omega) (by have := NN.out; simp; omega)).trans DT.out)
  have EX := hid (ET.out.later sk (by have := NN.out; omega) (by have := NN.out; omega))
  have KX := hid (KT.out.trans' sk (fun b hb hm => by simp at hm; have := NN.out; omega))
  have HX := hid (Nat.lt_of_lt_of_le HT.out sk.size)
  clear sk J1 D1 K1 HS1 E1 JT DT KT HT ET
  have J2 := JX
  have D2 := DX
  have K2 := KX
  have HS2 := HX
  have E2 := EX
  clear JX DX KX HX EX
  go_wp2_with fail
  clear cc ff
  have A := E2.out.num 4
  rw [N3.out] at A
  refine A.mono ?_
  rintro e u2 ⟨rfl, ey, kk⟩
  have JT := hid ((kk.block n1 HS2.out (by have := NN.out; simp; omega)).trans J2.out)
  have DT := hid ((kk.block n0 (by have := HS2.out; have := NN.out; omega) (by have := NN.out; simp; omega)).trans D2.out)
  have KT := hid (K2.out.trans kk)
  have HT := hid (Nat.lt_of_lt_of_le HS2.out kk.size)
  have ET := hid ey
  clear A ey kk
  obtain ⟨cc, ff⟩ := five_cells JT.out 2
  change u2.cell? ⟨n1, 2, none⟩ = some (.int .i64 0) at cc
  have sk : Keeps [n1] u2 (u2.setCell ⟨n1, 2, none⟩ (.int .i64 x3)) := set_keep
  have JX := hid (show (u2.setCell ⟨n1, 2, none⟩ (.int .i64 x3)).heap[n1]? = some (.cells #[.int .i64 x1, .int .i64 x2, .int .i64 x3] 30 (0, 0)) from set_five (i := 2) JT.out (.int .i64 x3))
  have DX := hid ((sk.block n0 (by have := HT.out; have := NN.out; omega) (by have := NN.out; simp; omega)).trans DT.out)
  have EX := hid (ET.out.later sk (by have := NN.out; omega) (by have := NN.out; omega))
  have KX := hid (KT.out.trans' sk (fun b hb hm => by simp at hm; have := NN.out; omega))
  have HX := hid (Nat.lt_of_lt_of_le HT.out sk.size)
  clear sk J2 D2 K2 HS2 E2 JT DT KT HT ET
  have J3 := JX
  have D3 := DX
  have K3 := KX
  have HS3 := HX
  have E3 := EX
  clear JX DX KX HX EX
  obtain ⟨W3, hW3⟩ : ∃ z, z = u2.setCell ⟨n1, 2, none⟩ (.int .i64 x3) := ⟨_, rfl⟩
  have HW3 := hid hW3
  rw [← hW3] at J3 D3 K3 HS3 E3
  clear hW3
  have RT := hid (range_ofN (cs := [.int .i64 x1, .int .i64 x2, .int .i64 x3]) J3.out rfl)
  obtain ⟨q1, q2⟩ := setRow_keepsN (cs := ([.int .i64 x1, .int .i64 x2, .int .i64 x3] : List Value).toArray) D3.out
  have Q1 := hid q1
  have Q2 := hid q2
  clear q1 q2
  rw [HW3.out] at RT D3
  go_wp2_with (first | (refine wpList_is rfl _ _ (exec_load 30 _ _ _ rfl rfl (loadSt RT.out rfl)) ?_) | (refine wpList_noval rfl _ (exec_storeWhole 30 _ _ rfl n0 #[.int .i64 0, .int .i64 0, .int .i64 0] [.int .i64 x1, .int .i64 x2, .int .i64 x3] D3.out rfl rfl rfl (by kernel_rfl) (one_st _ _ _)) ?_) | fail)
  simp only [Act.put, List.setIfInBounds_toArray, List.set_cons_zero, List.set_cons_succ]
  rw [← HW3.out]
  refine bodyPost_ret (one_ret (cs := [.int .i64 x1, .int .i64 x2, .int .i64 x3]) rfl uSt (by kernel_rfl) rfl (range_ofN Q1.out rfl)) rfl ?_
  exact ⟨rfl, E3.out.later Q2.out (by have := NN.out; omega) (by have := NN.out; omega), K3.out.trans' Q2.out (fun b hb hm => by simp at hm; have := NN.out; omega)⟩
end Go.Proofs.Ytoglcohdanpciaa


/- note: the reference's Decode. -/
namespace Go.Proofs.Ytoglcohdanpciaa
open Go.RowKit Go.Shelf
set_option maxRecDepth 100000
set_option linter.unusedSimpArgs false
set_option linter.unusedVariables false

/-- What the reference answers of a request's bytes. -/
def RDeQ (w : World) (y : Int) (r : Rq) (e : Ending) (w' : World) : Prop :=
  Keeps [] w w' ∧ ((y = 0 ∧ ∃ a c b d, e = .returned (.tuple #[rqV r (.slice a r.ss.length c) (.slice b r.dl.length d), .int .i64 0]) ∧ LsAt KSz w' (.slice a r.ss.length c) r.ss ∧ LsAt KDl w' (.slice b r.dl.length d) r.dl) ∨ (y ≠ 0 ∧ e = .returned (.tuple #[rqV rqZ (.slice none 0 0) (.slice none 0 0), .int .i64 y])))
set_option maxHeartbeats 51200000 in
theorem rnDec_any (w : World) (v : Value) (zs : List Int) (h : RowAt w v zs) (hl : zs.length ≤ 35184372088832) :
    Calls Try.prog 44 #[v] w (RDeQ w (decW rqC zs) (rqC.g (zs, 0)).1) := by
  obtain ⟨aq, cq, rfl⟩ : ∃ a c, v = .slice a zs.length c := by obtain ⟨a, c, e, _⟩ := h; exact ⟨a, c, e⟩
  obtain ⟨st, hst⟩ : ∃ z : PSt, z = (zs, 0) := ⟨_, rfl⟩
  obtain ⟨wa, hwa⟩ : ∃ z, z = w.alloc (.cells (rqZ.cells (.slice none 0 0) (.slice none 0 0)).toArray 88) := ⟨_, rfl⟩
  have k1 : Keeps [] w wa := by rw [hwa]; exact (Keeps.refl [] w).alloc _
  have z1 : wa.heap.size = w.heap.size + 1 := by rw [hwa]; simp
  obtain ⟨wb, hwb⟩ : ∃ z, z = wa.alloc (.cells #[.slice aq zs.length cq, .int .i64 0] 125) := ⟨_, rfl⟩
  have k2 : Keeps [] wa wb := by rw [hwb]; exact (Keeps.refl [] wa).alloc _
  have z2 : wb.heap.size = w.heap.size + 2 := by rw [hwb]; simp; omega
  have EY := reye_newB k1 h hl
  rw [← hwb, ← hst, z1] at EY
  obtain ⟨wd, hwd⟩ : ∃ z, z = wb.alloc (.cells (rqZ.cells (.slice none 0 0) (.slice none 0 0)).toArray 88) := ⟨_, rfl⟩
  have k3 : Keeps [] wb wd := by rw [hwd]; exact (Keeps.refl [] wb).alloc _
  have z3 : wd.heap.size = w.heap.size + 3 := by rw [hwd]; simp; omega
  have FC : wd.heap[w.heap.size + 1 + 1]? = some (.cells (rqZ.cells (.slice none 0 0) (.slice none 0 0)).toArray 88 (0, 0)) := by rw [show w.heap.size + 1 + 1 = wb.heap.size by omega, hwd]; exact heap_alloc_new wb _
  have FS := hid (show (((w.alloc (.cells (rqZ.cells (.slice none 0 0) (.slice none 0 0)).toArray 88)).alloc (.cells #[.slice aq zs.length cq, .int .i64 0] 125)).alloc (.cells (rqZ.cells (.slice none 0 0) (.slice none 0 0)).toArray 88)).heap[w.heap.size + 1 + 1]? = some (.cells (rqZ.cells (.slice none 0 0) (.slice none 0 0)).toArray 88 (0, 0)) by rw [← hwa, ← hwb, ← hwd]; exact FC)
  obtain ⟨wc, hwc⟩ : ∃ z, z = wd.setRow (w.heap.size + 1 + 1) (rqZ.cells (.slice none 0 0) (.slice none 0 0)).toArray := ⟨_, rfl⟩
  obtain ⟨q1, q2⟩ := setRow_keepsN (cs := (rqZ.cells (.slice none 0 0) (.slice none 0 0)).toArray) FC
  rw [← hwc] at q1 q2
  have E0 := hid ((EY.more k3).later q2 (by omega) (by omega))
  have D0 := hid (show wc.heap[w.heap.size]? = some (.cells (rqZ.cells (.slice none 0 0) (.slice none 0 0)).toArray 88 (0, 0)) from (q2.block _ (by omega) (by simp; omega)).trans ((k3.block _ (by omega) (by simp)).trans ((k2.block _ (by omega) (by simp)).trans (by rw [hwa]; exact heap_alloc_new w _))))
  have J0 := hid (show wc.heap[w.heap.size + 1 + 1]? = some (.cells #[.int .i64 0, .int .i64 0, .int .i64 0, .int .i64 0, .string ⟨#[]⟩, .string ⟨#[]⟩, .bool false, .bool false, .bool false, .int .i64 0, .int .i64 0, .int .i64 0, .slice none 0 0, .slice none 0 0] 88 (0, 0)) from q1)
  have K0 := hid ((k1.trans (k2.trans k3)).trans' q2 (S := []) (fun b hb hm => by simp at hm; omega))
  have HS0 := hid (show w.heap.size + 1 + 1 < wc.heap.size by have := q2.size; omega)
  obtain ⟨y, hy⟩ : ∃ z, z = decW rqC zs := ⟨_, rfl⟩
  obtain ⟨r, hr⟩ : ∃ z, z = (rqC.g (zs, 0)).1 := ⟨_, rfl⟩
  rw [← hy, ← hr]
  have HY := hid hy
  have HR := hid hr
  have HST := hid hst
  have HWA := hid hwa
  have HWB := hid hwb
  have HWC := hid hwc
  have HWD := hid hwd
  have Z1 := hid z1
  have Z2 := hid z2
  clear h hl k1 k2 k3 EY hy hr hst hwa hwb hwc hwd z1 z2 z3 FC q1 q2
  go_enter Try.func44, Try.ntmps44
  go_wp2_with (first | (refine wpList_is rfl _ _ (exec_alloc 88 (rqZ.cells (.slice none 0 0) (.slice none 0 0)).toArray irReq rfl) ?_; try simp only [World.size_alloc]) | (refine wpList_noval rfl _ (exec_storeWhole 88 _ _ rfl (w.heap.size + 1 + 1) (rqZ.cells (.slice none 0 0) (.slice none 0 0)).toArray (rqZ.cells (.slice none 0 0) (.slice none 0 0)) FS.out rfl rfl rfl (by kernel_rfl) (one_rq _ _ _ _ _ _ _)) ?_; refine Hid.out ?_) | fail)
  refine hid ?_
  rw [← HWA.out, ← HWB.out, ← HWD.out, ← HWC.out]
  clear FS
  obtain ⟨n0, hn0⟩ : ∃ z, z = w.heap.size := ⟨_, rfl⟩
  obtain ⟨n1, hn1⟩ : ∃ z, z = w.heap.size + 1 := ⟨_, rfl⟩
  obtain ⟨n2, hn2⟩ : ∃ z, z = w.heap.size + 1 + 1 := ⟨_, rfl⟩
  have NN := hid (show n0 = w.heap.size ∧ n1 = n0 + 1 ∧ n2 = n0 + 2 by omega)
  rw [← hn2] at J0 HS0 ⊢
  rw [← hn1] at E0 ⊢
  rw [← hn0] at D0 E0 ⊢
  clear hn0 hn1 hn2 HWA HWB HWC HWD Z1 Z2
  obtain ⟨x1, s1, e1⟩ : ∃ x s, numE 1 st = (x, s) := ⟨_, _, rfl⟩
  have N1 := hid e1
  clear e1
  go_wp2_with fail
  have A := E0.out.num 1
  rw [N1.out] at A
  refine A.mono ?_
  rintro e u0 ⟨rfl, ey, kk⟩
  have JX := hid ((kk.block n2 HS0.out (by have := NN.out; simp; omega)).trans J0.out)
  have DX := hid ((kk.block n0 (by have := HS0.out; have := NN.out; omega) (by have := NN.out; simp; omega)).trans D0.out)
  have KX := hid (K0.out.trans' kk (fun b hb hm => by simp at hm; have := NN.out; omega))
  have HX := hid (Nat.lt_of_lt_of_le HS0.out kk.size)
  clear J0 D0 K0 HS0
  have J1 := JX
  have D1 := DX
  have K1 := KX
  have HS1 := HX
  clear JX DX KX HX
  have E1 := hid ey
  clear A ey kk E0
  obtain ⟨cc, ff⟩ := five_cells J1.out 0
  change u0.cell? ⟨n2, 0, none⟩ = some (.int .i64 0) at cc
  have JX := hid (show (u0.setCell ⟨n2, 0, none⟩ (.int .i64 x1)).heap[n2]? = some (.cells #[.int .i64 x1, .int .i64 0, .int .i64 0, .int .i64 0, .string ⟨#[]⟩, .string ⟨#[]⟩, .bool false, .bool false, .bool false, .int .i64 0, .int .i64 0, .int .i64 0, .slice none 0 0, .slice none 0 0] 88 (0, 0)) from set_five (i := 0) J1.out (.int .i64 x1))
  have sk : Keeps [n2] u0 (u0.setCell ⟨n2, 0, none⟩ (.int .i64 x1)) := set_keep
  have DX := hid ((sk.block n0 (by have := HS1.out; have := NN.out; omega) (by have := NN.out; simp; omega)).trans D1.out)
  have EX := hid (E1.out.later sk (by have := NN.out; omega) (by have := NN.out; omega))
  have KX := hid (K1.out.trans' sk (fun b hb hm => by simp at hm; have := NN.out; omega))
  have HX := hid (Nat.lt_of_lt_of_le HS1.out sk.size)
  clear sk J1 D1 K1 HS1 E1
  have J1 := JX
  have D1 := DX
  have K1 := KX
  have HS1 := HX
  have E1 := EX
  clear JX DX KX HX EX
  obtain ⟨x2, s2, e2⟩ : ∃ x s, numE 3 s1 = (x, s) := ⟨_, _, rfl⟩
  have N2 := hid e2
  clear e2
  go_wp2_with fail
  clear cc ff
  have A := E1.out.num 3
  rw [N2.out] at A
  refine A.mono ?_
  rintro e u1 ⟨rfl, ey, kk⟩
  have JX := hid ((kk.block n2 HS1.out (by have := NN.out; simp; omega)).trans J1.out)
  have DX := hid ((kk.block n0 (by have := HS1.out; have := NN.out; omega) (by have := NN.out; simp; omega)).trans D1.out)
  have KX := hid (K1.out.trans' kk (fun b hb hm => by simp at hm; have := NN.out; omega))
  have HX := hid (Nat.lt_of_lt_of_le HS1.out kk.size)
  clear J1 D1 K1 HS1
  have J2 := JX
  have D2 := DX
  have K2 := KX
  have HS2 := HX
  clear JX DX KX HX
  have E2 := hid ey
  clear A ey kk E1
  obtain ⟨cc, ff⟩ := five_cells J2.out 1
  change u1.cell? ⟨n2, 1, none⟩ = some (.int .i64 0) at cc
  have JX := hid (show (u1.setCell ⟨n2, 1, none⟩ (.int .i64 x2)).heap[n2]? = some (.cells #[.int .i64 x1, .int .i64 x2, .int .i64 0, .int .i64 0, .string ⟨#[]⟩, .string ⟨#[]⟩, .bool false, .bool false, .bool false, .int .i64 0, .int .i64 0, .int .i64 0, .slice none 0 0, .slice none 0 0] 88 (0, 0)) from set_five (i := 1) J2.out (.int .i64 x2))
  have sk : Keeps [n2] u1 (u1.setCell ⟨n2, 1, none⟩ (.int .i64 x2)) := set_keep
  have DX := hid ((sk.block n0 (by have := HS2.out; have := NN.out; omega) (by have := NN.out; simp; omega)).trans D2.out)
  have EX := hid (E2.out.later sk (by have := NN.out; omega) (by have := NN.out; omega))
  have KX := hid (K2.out.trans' sk (fun b hb hm => by simp at hm; have := NN.out; omega))
  have HX := hid (Nat.lt_of_lt_of_le HS2.out sk.size)
  clear sk J2 D2 K2 HS2 E2
  have J2 := JX
  have D2 := DX
  have K2 := KX
  have HS2 := HX
  have E2 := EX
  clear JX DX KX HX EX
  obtain ⟨x3, s3, e3⟩ : ∃ x s, numE 4 s2 = (x, s) := ⟨_, _, rfl⟩
  have N3 := hid e3
  clear e3
  go_wp2_with fail
  clear cc ff
  have A := E2.out.num 4
  rw [N3.out] at A
  refine A.mono ?_
  rintro e u2 ⟨rfl, ey, kk⟩
  have JX := hid ((kk.block n2 HS2.out (by have := NN.out; simp; omega)).trans J2.out)
  have DX := hid ((kk.block n0 (by have := HS2.out; have := NN.out; omega) (by have := NN.out; simp; omega)).trans D2.out)
  have KX := hid (K2.out.trans' kk (fun b hb hm => by simp at hm; have := NN.out; omega))
  have HX := hid (Nat.lt_of_lt_of_le HS2.out kk.size)
  clear J2 D2 K2 HS2
  have J3 := JX
  have D3 := DX
  have K3 := KX
  have HS3 := HX
  clear JX DX KX HX
  have E3 := hid ey
  clear A ey kk E2
  obtain ⟨cc, ff⟩ := five_cells J3.out 2
  change u2.cell? ⟨n2, 2, none⟩ = some (.int .i64 0) at cc
  have JX := hid (show (u2.setCell ⟨n2, 2, none⟩ (.int .i64 x3)).heap[n2]? = some (.cells #[.int .i64 x1, .int .i64 x2, .int .i64 x3, .int .i64 0, .string ⟨#[]⟩, .string ⟨#[]⟩, .bool false, .bool false, .bool false, .int .i64 0, .int .i64 0, .int .i64 0, .slice none 0 0, .slice none 0 0] 88 (0, 0)) from set_five (i := 2) J3.out (.int .i64 x3))
  have sk : Keeps [n2] u2 (u2.setCell ⟨n2, 2, none⟩ (.int .i64 x3)) := set_keep
  have DX := hid ((sk.block n0 (by have := HS3.out; have := NN.out; omega) (by have := NN.out; simp; omega)).trans D3.out)
  have EX := hid (E3.out.later sk (by have := NN.out; omega) (by have := NN.out; omega))
  have KX := hid (K3.out.trans' sk (fun b hb hm => by simp at hm; have := NN.out; omega))
  have HX := hid (Nat.lt_of_lt_of_le HS3.out sk.size)
  clear sk J3 D3 K3 HS3 E3
  have J3 := JX
  have D3 := DX
  have K3 := KX
  have HS3 := HX
  have E3 := EX
  clear JX DX KX HX EX
  obtain ⟨x4, s4, e4⟩ : ∃ x s, numE 1 s3 = (x, s) := ⟨_, _, rfl⟩
  have N4 := hid e4
  clear e4
  go_wp2_with fail
  clear cc ff
  have A := E3.out.num 1
  rw [N4.out] at A
  refine A.mono ?_
  rintro e u3 ⟨rfl, ey, kk⟩
  have JX := hid ((kk.block n2 HS3.out (by have := NN.out; simp; omega)).trans J3.out)
  have DX := hid ((kk.block n0 (by have := HS3.out; have := NN.out; omega) (by have := NN.out; simp; omega)).trans D3.out)
  have KX := hid (K3.out.trans' kk (fun b hb hm => by simp at hm; have := NN.out; omega))
  have HX := hid (Nat.lt_of_lt_of_le HS3.out kk.size)
  clear J3 D3 K3 HS3
  have J4 := JX
  have D4 := DX
  have K4 := KX
  have HS4 := HX
  clear JX DX KX HX
  have E4 := hid ey
  clear A ey kk E3
  obtain ⟨cc, ff⟩ := five_cells J4.out 3
  change u3.cell? ⟨n2, 3, none⟩ = some (.int .i64 0) at cc
  have JX := hid (show (u3.setCell ⟨n2, 3, none⟩ (.int .i64 x4)).heap[n2]? = some (.cells #[.int .i64 x1, .int .i64 x2, .int .i64 x3, .int .i64 x4, .string ⟨#[]⟩, .string ⟨#[]⟩, .bool false, .bool false, .bool false, .int .i64 0, .int .i64 0, .int .i64 0, .slice none 0 0, .slice none 0 0] 88 (0, 0)) from set_five (i := 3) J4.out (.int .i64 x4))
  have sk : Keeps [n2] u3 (u3.setCell ⟨n2, 3, none⟩ (.int .i64 x4)) := set_keep
  have DX := hid ((sk.block n0 (by have := HS4.out; have := NN.out; omega) (by have := NN.out; simp; omega)).trans D4.out)
  have EX := hid (E4.out.later sk (by have := NN.out; omega) (by have := NN.out; omega))
  have KX := hid (K4.out.trans' sk (fun b hb hm => by simp at hm; have := NN.out; omega))
  have HX := hid (Nat.lt_of_lt_of_le HS4.out sk.size)
  clear sk J4 D4 K4 HS4 E4
  have J4 := JX
  have D4 := DX
  have K4 := KX
  have HS4 := HX
  have E4 := EX
  clear JX DX KX HX EX
  go_upto_region 7 with fail
  clear cc ff
  obtain ⟨tF, htF⟩ : ∃ z, z = formW s4 (!okDo x4) := ⟨_, rfl⟩
  have HTF := hid htF
  obtain ⟨cc, ff⟩ := five_cells J4.out 3
  change (u3.setCell ⟨n2, 3, none⟩ (.int .i64 x4)).cell? ⟨n2, 3, none⟩ = some (.int .i64 x4) at cc
  go_cut [] from 30 (fun wx => Hid (REyL wx n0 n1 tF) ∧ Hid (wx.heap[n2]? = some (.cells #[.int .i64 x1, .int .i64 x2, .int .i64 x3, .int .i64 x4, .string ⟨#[]⟩, .string ⟨#[]⟩, .bool false, .bool false, .bool false, .int .i64 0, .int .i64 0, .int .i64 0, .slice none 0 0, .slice none 0 0] 88 (0, 0))) ∧ Hid (wx.heap[n0]? = some (.cells (rqZ.cells (.slice none 0 0) (.slice none 0 0)).toArray 88 (0, 0))) ∧ Hid (Keeps [] w wx) ∧ Hid (n2 < wx.heap.size))
  case first =>
    clear ff
    have tail : ∀ b, formW s4 b = tF → (Calls Try.prog 93 #[.pointer (some ⟨n1, 0, none⟩), .bool b] (u3.setCell ⟨n2, 3, none⟩ (.int .i64 x4)) fun e w' => e = .returned (.tuple #[]) ∧ Hid (REyL w' n0 n1 tF) ∧ Hid (w'.heap[n2]? = some (.cells #[.int .i64 x1, .int .i64 x2, .int .i64 x3, .int .i64 x4, .string ⟨#[]⟩, .string ⟨#[]⟩, .bool false, .bool false, .bool false, .int .i64 0, .int .i64 0, .int .i64 0, .slice none 0 0, .slice none 0 0] 88 (0, 0))) ∧ Hid (w'.heap[n0]? = some (.cells (rqZ.cells (.slice none 0 0) (.slice none 0 0)).toArray 88 (0, 0))) ∧ Hid (Keeps [] w w') ∧ Hid (n2 < w'.heap.size)) := by
      intro b hb
      refine (rForm_any E4.out b).mono ?_
      rintro e uf ⟨rfl, ey, kk⟩
      rw [hb] at ey
      have JX := hid ((kk.block n2 HS4.out (by have := NN.out; simp; omega)).trans J4.out)
      have DX := hid ((kk.block n0 (by have := HS4.out; have := NN.out; omega) (by have := NN.out; simp; omega)).trans D4.out)
      have KX := hid (K4.out.trans' kk (fun b hb hm => by simp at hm; have := NN.out; omega))
      have HX := hid (Nat.lt_of_lt_of_le HS4.out kk.size)
      clear J4 D4 K4 HS4
      have J5 := JX
      have D5 := DX
      have K5 := KX
      have HS5 := HX
      clear JX DX KX HX
      exact ⟨rfl, hid ey, J5, D5, K5, HS5⟩
    have T := hid tail
    have HU3 := hid htF
    clear tail htF E4 J4 D4 K4 HS4
    by_cases h1 : x4 < 1
    · have HF := hid (show formW s4 true = tF by rw [HU3.out]; unfold okDo; rw [show decide (1 ≤ x4) = false from decide_eq_false (by omega)]; rfl)
      have d1 : decide (x4 < 1) = true := decide_eq_true h1
      clear h1
      go_wp2_with fail
      refine (T.out true HF.out).mono ?_
      rintro e uf ⟨rfl, r1, r2, r3, r4, r5⟩
      clear cc
      go_wp2_with fail
      go_meet
      exact ⟨r1, r2, r3, r4, r5⟩
    · have d1 : decide (x4 < 1) = false := decide_eq_false h1
      obtain ⟨bb, hbb⟩ : ∃ z, z = decide ((11 : Int) < x4) := ⟨_, rfl⟩
      have HF := hid (show formW s4 bb = tF by rw [HU3.out, hbb]; unfold okDo; rw [show decide (1 ≤ x4) = true from decide_eq_true (by omega)]; congr 1; by_cases h : x4 ≤ 11 <;> simp [h] <;> omega)
      have d2 : decide ((11 : Int) < x4) = bb := hbb.symm
      clear h1 hbb
      go_wp2_with fail
      refine (T.out bb HF.out).mono ?_
      rintro e uf ⟨rfl, r1, r2, r3, r4, r5⟩
      clear cc
      go_wp2_with fail
      go_meet
      exact ⟨r1, r2, r3, r4, r5⟩
  clear cc ff E4 J4 D4 K4 HS4 htF
  obtain ⟨E4, J4, D4, K4, HS4⟩ := hcut
  obtain ⟨wf, hwf⟩ : ∃ z, z = wc := ⟨_, rfl⟩
  rw [← hwf] at E4 J4 D4 K4 HS4 ⊢
  clear hwf wc
  obtain ⟨b5, s5, e5⟩ : ∃ x s, rawE tF = (x, s) := ⟨_, _, rfl⟩
  have M5 := hid e5
  clear e5
  go_wp2_with fail
  have A := E4.out.raw
  rw [M5.out] at A
  refine A.mono ?_
  rintro e u4 ⟨⟨a5, c5, rfl, or_, on_⟩, ey, kk⟩
  have cv := conv_row or_
  obtain ⟨x5, hx5⟩ : ∃ z, z = strOfNums b5 := ⟨_, rfl⟩
  rw [← hx5] at cv
  have N5 := hid (show txE tF = (x5, s5) by unfold txE; rw [M5.out, hx5])
  clear or_ on_ hx5
  have JX := hid ((kk.block n2 HS4.out (by have := NN.out; simp; omega)).trans J4.out)
  have DX := hid ((kk.block n0 (by have := HS4.out; have := NN.out; omega) (by have := NN.out; simp; omega)).trans D4.out)
  have KX := hid (K4.out.trans' kk (fun b hb hm => by simp at hm; have := NN.out; omega))
  have HX := hid (Nat.lt_of_lt_of_le HS4.out kk.size)
  clear J4 D4 K4 HS4
  have J5 := JX
  have D5 := DX
  have K5 := KX
  have HS5 := HX
  clear JX DX KX HX
  have E5 := hid ey
  clear A ey kk E4
  obtain ⟨cc, ff⟩ := five_cells J5.out 4
  change u4.cell? ⟨n2, 4, none⟩ = some (.string ⟨#[]⟩) at cc
  have JX := hid (show (u4.setCell ⟨n2, 4, none⟩ (.string x5)).heap[n2]? = some (.cells #[.int .i64 x1, .int .i64 x2, .int .i64 x3, .int .i64 x4, .string x5, .string ⟨#[]⟩, .bool false, .bool false, .bool false, .int .i64 0, .int .i64 0, .int .i64 0, .slice none 0 0, .slice none 0 0] 88 (0, 0)) from set_five (i := 4) J5.out (.string x5))
  have sk : Keeps [n2] u4 (u4.setCell ⟨n2, 4, none⟩ (.string x5)) := set_keep
  have DX := hid ((sk.block n0 (by have := HS5.out; have := NN.out; omega) (by have := NN.out; simp; omega)).trans D5.out)
  have EX := hid (E5.out.later sk (by have := NN.out; omega) (by have := NN.out; omega))
  have KX := hid (K5.out.trans' sk (fun b hb hm => by simp at hm; have := NN.out; omega))
  have HX := hid (Nat.lt_of_lt_of_le HS5.out sk.size)
  clear sk J5 D5 K5 HS5 E5
  have J5 := JX
  have D5 := DX
  have K5 := KX
  have HS5 := HX
  have E5 := EX
  clear JX DX KX HX EX
  obtain ⟨b6, s6, e6⟩ : ∃ x s, rawE s5 = (x, s) := ⟨_, _, rfl⟩
  have M6 := hid e6
  clear e6
  go_wp2_with fail
  clear cc ff cv
  have A := E5.out.raw
  rw [M6.out] at A
  refine A.mono ?_
  rintro e u5 ⟨⟨a6, c6, rfl, or_, on_⟩, ey, kk⟩
  have cv := conv_row or_
  obtain ⟨x6, hx6⟩ : ∃ z, z = strOfNums b6 := ⟨_, rfl⟩
  rw [← hx6] at cv
  have N6 := hid (show txE s5 = (x6, s6) by unfold txE; rw [M6.out, hx6])
  clear or_ on_ hx6
  have JX := hid ((kk.block n2 HS5.out (by have := NN.out; simp; omega)).trans J5.out)
  have DX := hid ((kk.block n0 (by have := HS5.out; have := NN.out; omega) (by have := NN.out; simp; omega)).trans D5.out)
  have KX := hid (K5.out.trans' kk (fun b hb hm => by simp at hm; have := NN.out; omega))
  have HX := hid (Nat.lt_of_lt_of_le HS5.out kk.size)
  clear J5 D5 K5 HS5
  have J6 := JX
  have D6 := DX
  have K6 := KX
  have HS6 := HX
  clear JX DX KX HX
  have E6 := hid ey
  clear A ey kk E5
  obtain ⟨cc, ff⟩ := five_cells J6.out 5
  change u5.cell? ⟨n2, 5, none⟩ = some (.string ⟨#[]⟩) at cc
  have JX := hid (show (u5.setCell ⟨n2, 5, none⟩ (.string x6)).heap[n2]? = some (.cells #[.int .i64 x1, .int .i64 x2, .int .i64 x3, .int .i64 x4, .string x5, .string x6, .bool false, .bool false, .bool false, .int .i64 0, .int .i64 0, .int .i64 0, .slice none 0 0, .slice none 0 0] 88 (0, 0)) from set_five (i := 5) J6.out (.string x6))
  have sk : Keeps [n2] u5 (u5.setCell ⟨n2, 5, none⟩ (.string x6)) := set_keep
  have DX := hid ((sk.block n0 (by have := HS6.out; have := NN.out; omega) (by have := NN.out; simp; omega)).trans D6.out)
  have EX := hid (E6.out.later sk (by have := NN.out; omega) (by have := NN.out; omega))
  have KX := hid (K6.out.trans' sk (fun b hb hm => by simp at hm; have := NN.out; omega))
  have HX := hid (Nat.lt_of_lt_of_le HS6.out sk.size)
  clear sk J6 D6 K6 HS6 E6
  have J6 := JX
  have D6 := DX
  have K6 := KX
  have HS6 := HX
  have E6 := EX
  clear JX DX KX HX EX
  obtain ⟨x7, s7, e7⟩ : ∃ x s, boolE s6 = (x, s) := ⟨_, _, rfl⟩
  have N7 := hid e7
  clear e7
  go_wp2_with fail
  clear cc ff cv
  have A := E6.out.bool
  rw [N7.out] at A
  refine A.mono ?_
  rintro e u6 ⟨rfl, ey, kk⟩
  have JX := hid ((kk.block n2 HS6.out (by have := NN.out; simp; omega)).trans J6.out)
  have DX := hid ((kk.block n0 (by have := HS6.out; have := NN.out; omega) (by have := NN.out; simp; omega)).trans D6.out)
  have KX := hid (K6.out.trans' kk (fun b hb hm => by simp at hm; have := NN.out; omega))
  have HX := hid (Nat.lt_of_lt_of_le HS6.out kk.size)
  clear J6 D6 K6 HS6
  have J7 := JX
  have D7 := DX
  have K7 := KX
  have HS7 := HX
  clear JX DX KX HX
  have E7 := hid ey
  clear A ey kk E6
  obtain ⟨cc, ff⟩ := five_cells J7.out 6
  change u6.cell? ⟨n2, 6, none⟩ = some (.bool false) at cc
  have JX := hid (show (u6.setCell ⟨n2, 6, none⟩ (.bool x7)).heap[n2]? = some (.cells #[.int .i64 x1, .int .i64 x2, .int .i64 x3, .int .i64 x4, .string x5, .string x6, .bool x7, .bool false, .bool false, .int .i64 0, .int .i64 0, .int .i64 0, .slice none 0 0, .slice none 0 0] 88 (0, 0)) from set_five (i := 6) J7.out (.bool x7))
  have sk : Keeps [n2] u6 (u6.setCell ⟨n2, 6, none⟩ (.bool x7)) := set_keep
  have DX := hid ((sk.block n0 (by have := HS7.out; have := NN.out; omega) (by have := NN.out; simp; omega)).trans D7.out)
  have EX := hid (E7.out.later sk (by have := NN.out; omega) (by have := NN.out; omega))
  have KX := hid (K7.out.trans' sk (fun b hb hm => by simp at hm; have := NN.out; omega))
  have HX := hid (Nat.lt_of_lt_of_le HS7.out sk.size)
  clear sk J7 D7 K7 HS7 E7
  have J7 := JX
  have D7 := DX
  have K7 := KX
  have HS7 := HX
  have E7 := EX
  clear JX DX KX HX EX
  obtain ⟨x8, s8, e8⟩ : ∃ x s, boolE s7 = (x, s) := ⟨_, _, rfl⟩
  have N8 := hid e8
  clear e8
  go_wp2_with fail
  clear cc ff
  have A := E7.out.bool
  rw [N8.out] at A
  refine A.mono ?_
  rintro e u7 ⟨rfl, ey, kk⟩
  have JX := hid ((kk.block n2 HS7.out (by have := NN.out; simp; omega)).trans J7.out)
  have DX := hid ((kk.block n0 (by have := HS7.out; have := NN.out; omega) (by have := NN.out; simp; omega)).trans D7.out)
  have KX := hid (K7.out.trans' kk (fun b hb hm => by simp at hm; have := NN.out; omega))
  have HX := hid (Nat.lt_of_lt_of_le HS7.out kk.size)
  clear J7 D7 K7 HS7
  have J8 := JX
  have D8 := DX
  have K8 := KX
  have HS8 := HX
  clear JX DX KX HX
  have E8 := hid ey
  clear A ey kk E7
  obtain ⟨cc, ff⟩ := five_cells J8.out 7
  change u7.cell? ⟨n2, 7, none⟩ = some (.bool false) at cc
  have JX := hid (show (u7.setCell ⟨n2, 7, none⟩ (.bool x8)).heap[n2]? = some (.cells #[.int .i64 x1, .int .i64 x2, .int .i64 x3, .int .i64 x4, .string x5, .string x6, .bool x7, .bool x8, .bool false, .int .i64 0, .int .i64 0, .int .i64 0, .slice none 0 0, .slice none 0 0] 88 (0, 0)) from set_five (i := 7) J8.out (.bool x8))
  have sk : Keeps [n2] u7 (u7.setCell ⟨n2, 7, none⟩ (.bool x8)) := set_keep
  have DX := hid ((sk.block n0 (by have := HS8.out; have := NN.out; omega) (by have := NN.out; simp; omega)).trans D8.out)
  have EX := hid (E8.out.later sk (by have := NN.out; omega) (by have := NN.out; omega))
  have KX := hid (K8.out.trans' sk (fun b hb hm => by simp at hm; have := NN.out; omega))
  have HX := hid (Nat.lt_of_lt_of_le HS8.out sk.size)
  clear sk J8 D8 K8 HS8 E8
  have J8 := JX
  have D8 := DX
  have K8 := KX
  have HS8 := HX
  have E8 := EX
  clear JX DX KX HX EX
  obtain ⟨x9, s9, e9⟩ : ∃ x s, boolE s8 = (x, s) := ⟨_, _, rfl⟩
  have N9 := hid e9
  clear e9
  go_wp2_with fail
  clear cc ff
  have A := E8.out.bool
  rw [N9.out] at A
  refine A.mono ?_
  rintro e u8 ⟨rfl, ey, kk⟩
  have JX := hid ((kk.block n2 HS8.out (by have := NN.out; simp; omega)).trans J8.out)
  have DX := hid ((kk.block n0 (by have := HS8.out; have := NN.out; omega) (by have := NN.out; simp; omega)).trans D8.out)
  have KX := hid (K8.out.trans' kk (fun b hb hm => by simp at hm; have := NN.out; omega))
  have HX := hid (Nat.lt_of_lt_of_le HS8.out kk.size)
  clear J8 D8 K8 HS8
  have J9 := JX
  have D9 := DX
  have K9 := KX
  have HS9 := HX
  clear JX DX KX HX
  have E9 := hid ey
  clear A ey kk E8
  obtain ⟨cc, ff⟩ := five_cells J9.out 8
  change u8.cell? ⟨n2, 8, none⟩ = some (.bool false) at cc
  have JX := hid (show (u8.setCell ⟨n2, 8, none⟩ (.bool x9)).heap[n2]? = some (.cells #[.int .i64 x1, .int .i64 x2, .int .i64 x3, .int .i64 x4, .string x5, .string x6, .bool x7, .bool x8, .bool x9, .int .i64 0, .int .i64 0, .int .i64 0, .slice none 0 0, .slice none 0 0] 88 (0, 0)) from set_five (i := 8) J9.out (.bool x9))
  have sk : Keeps [n2] u8 (u8.setCell ⟨n2, 8, none⟩ (.bool x9)) := set_keep
  have DX := hid ((sk.block n0 (by have := HS9.out; have := NN.out; omega) (by have := NN.out; simp; omega)).trans D9.out)
  have EX := hid (E9.out.later sk (by have := NN.out; omega) (by have := NN.out; omega))
  have KX := hid (K9.out.trans' sk (fun b hb hm => by simp at hm; have := NN.out; omega))
  have HX := hid (Nat.lt_of_lt_of_le HS9.out sk.size)
  clear sk J9 D9 K9 HS9 E9
  have J9 := JX
  have D9 := DX
  have K9 := KX
  have HS9 := HX
  have E9 := EX
  clear JX DX KX HX EX
  obtain ⟨x10, s10, e10⟩ : ∃ x s, numE 1 s9 = (x, s) := ⟨_, _, rfl⟩
  have N10 := hid e10
  clear e10
  go_wp2_with fail
  clear cc ff
  have A := E9.out.num 1
  rw [N10.out] at A
  refine A.mono ?_
  rintro e u9 ⟨rfl, ey, kk⟩
  have JX := hid ((kk.block n2 HS9.out (by have := NN.out; simp; omega)).trans J9.out)
  have DX := hid ((kk.block n0 (by have := HS9.out; have := NN.out; omega) (by have := NN.out; simp; omega)).trans D9.out)
  have KX := hid (K9.out.trans' kk (fun b hb hm => by simp at hm; have := NN.out; omega))
  have HX := hid (Nat.lt_of_lt_of_le HS9.out kk.size)
  clear J9 D9 K9 HS9
  have J10 := JX
  have D10 := DX
  have K10 := KX
  have HS10 := HX
  clear JX DX KX HX
  have E10 := hid ey
  clear A ey kk E9
  obtain ⟨cc, ff⟩ := five_cells J10.out 9
  change u9.cell? ⟨n2, 9, none⟩ = some (.int .i64 0) at cc
  have JX := hid (show (u9.setCell ⟨n2, 9, none⟩ (.int .i64 x10)).heap[n2]? = some (.cells #[.int .i64 x1, .int .i64 x2, .int .i64 x3, .int .i64 x4, .string x5, .string x6, .bool x7, .bool x8, .bool x9, .int .i64 x10, .int .i64 0, .int .i64 0, .slice none 0 0, .slice none 0 0] 88 (0, 0)) from set_five (i := 9) J10.out (.int .i64 x10))
  have sk : Keeps [n2] u9 (u9.setCell ⟨n2, 9, none⟩ (.int .i64 x10)) := set_keep
  have DX := hid ((sk.block n0 (by have := HS10.out; have := NN.out; omega) (by have := NN.out; simp; omega)).trans D10.out)
  have EX := hid (E10.out.later sk (by have := NN.out; omega) (by have := NN.out; omega))
  have KX := hid (K10.out.trans' sk (fun b hb hm => by simp at hm; have := NN.out; omega))
  have HX := hid (Nat.lt_of_lt_of_le HS10.out sk.size)
  clear sk J10 D10 K10 HS10 E10
  have J10 := JX
  have D10 := DX
  have K10 := KX
  have HS10 := HX
  have E10 := EX
  clear JX DX KX HX EX
  obtain ⟨x11, s11, e11⟩ : ∃ x s, numE 4 s10 = (x, s) := ⟨_, _, rfl⟩
  have N11 := hid e11
  clear e11
  go_wp2_with fail
  clear cc ff
  have A := E10.out.num 4
  rw [N11.out] at A
  refine A.mono ?_
  rintro e u10 ⟨rfl, ey, kk⟩
  have JX := hid ((kk.block n2 HS10.out (by have := NN.out; simp; omega)).trans J10.out)
  have DX := hid ((kk.block n0 (by have := HS10.out; have := NN.out; omega) (by have := NN.out; simp; omega)).trans D10.out)
  have KX := hid (K10.out.trans' kk (fun b hb hm => by simp at hm; have := NN.out; omega))
  have HX := hid (Nat.lt_of_lt_of_le HS10.out kk.size)
  clear J10 D10 K10 HS10
  have J11 := JX
  have D11 := DX
  have K11 := KX
  have HS11 := HX
  clear JX DX KX HX
  have E11 := hid ey
  clear A ey kk E10
  obtain ⟨cc, ff⟩ := five_cells J11.out 10
  change u10.cell? ⟨n2, 10, none⟩ = some (.int .i64 0) at cc
  have JX := hid (show (u10.setCell ⟨n2, 10, none⟩ (.int .i64 x11)).heap[n2]? = some (.cells #[.int .i64 x1, .int .i64 x2, .int .i64 x3, .int .i64 x4, .string x5, .string x6, .bool x7, .bool x8, .bool x9, .int .i64 x10, .int .i64 x11, .int .i64 0, .slice none 0 0, .slice none 0 0] 88 (0, 0)) from set_five (i := 10) J11.out (.int .i64 x11))
  have sk : Keeps [n2] u10 (u10.setCell ⟨n2, 10, none⟩ (.int .i64 x11)) := set_keep
  have DX := hid ((sk.block n0 (by have := HS11.out; have := NN.out; omega) (by have := NN.out; simp; omega)).trans D11.out)
  have EX := hid (E11.out.later sk (by have := NN.out; omega) (by have := NN.out; omega))
  have KX := hid (K11.out.trans' sk (fun b hb hm => by simp at hm; have := NN.out; omega))
  have HX := hid (Nat.lt_of_lt_of_le HS11.out sk.size)
  clear sk J11 D11 K11 HS11 E11
  have J11 := JX
  have D11 := DX
  have K11 := KX
  have HS11 := HX
  have E11 := EX
  clear JX DX KX HX EX
  obtain ⟨x12, s12, e12⟩ : ∃ x s, numE 3 s11 = (x, s) := ⟨_, _, rfl⟩
  have N12 := hid e12
  clear e12
  go_wp2_with fail
  clear cc ff
  have A := E11.out.num 3
  rw [N12.out] at A
  refine A.mono ?_
  rintro e u11 ⟨rfl, ey, kk⟩
  have JX := hid ((kk.block n2 HS11.out (by have := NN.out; simp; omega)).trans J11.out)
  have DX := hid ((kk.block n0 (by have := HS11.out; have := NN.out; omega) (by have := NN.out; simp; omega)).trans D11.out)
  have KX := hid (K11.out.trans' kk (fun b hb hm => by simp at hm; have := NN.out; omega))
  have HX := hid (Nat.lt_of_lt_of_le HS11.out kk.size)
  clear J11 D11 K11 HS11
  have J12 := JX
  have D12 := DX
  have K12 := KX
  have HS12 := HX
  clear JX DX KX HX
  have E12 := hid ey
  clear A ey kk E11
  obtain ⟨cc, ff⟩ := five_cells J12.out 11
  change u11.cell? ⟨n2, 11, none⟩ = some (.int .i64 0) at cc
  have JX := hid (show (u11.setCell ⟨n2, 11, none⟩ (.int .i64 x12)).heap[n2]? = some (.cells #[.int .i64 x1, .int .i64 x2, .int .i64 x3, .int .i64 x4, .string x5, .string x6, .bool x7, .bool x8, .bool x9, .int .i64 x10, .int .i64 x11, .int .i64 x12, .slice none 0 0, .slice none 0 0] 88 (0, 0)) from set_five (i := 11) J12.out (.int .i64 x12))
  have sk : Keeps [n2] u11 (u11.setCell ⟨n2, 11, none⟩ (.int .i64 x12)) := set_keep
  have DX := hid ((sk.block n0 (by have := HS12.out; have := NN.out; omega) (by have := NN.out; simp; omega)).trans D12.out)
  have EX := hid (E12.out.later sk (by have := NN.out; omega) (by have := NN.out; omega))
  have KX := hid (K12.out.trans' sk (fun b hb hm => by simp at hm; have := NN.out; omega))
  have HX := hid (Nat.lt_of_lt_of_le HS12.out sk.size)
  clear sk J12 D12 K12 HS12 E12
  have J12 := JX
  have D12 := DX
  have K12 := KX
  have HS12 := HX
  have E12 := EX
  clear JX DX KX HX EX
  obtain ⟨xc13, s13, ec⟩ : ∃ x s, numE 2 s12 = (x, s) := ⟨_, _, rfl⟩
  have N13 := hid ec
  have HLO := numE_lowB (st := s12) E12.out.bytes 2
  have HHI := cnt_le2 (st := s12) E12.out.bytes
  rw [ec] at HLO HHI
  simp only at HLO HHI
  clear ec
  go_wp2_with fail
  clear cc ff
  have A := E12.out.num 2
  rw [N13.out] at A
  refine A.mono ?_
  rintro e u13 ⟨rfl, ey, kk⟩
  have JX := hid ((kk.block n2 HS12.out (by have := NN.out; simp; omega)).trans J12.out)
  have DX := hid ((kk.block n0 (by have := HS12.out; have := NN.out; omega) (by have := NN.out; simp; omega)).trans D12.out)
  have KX := hid (K12.out.trans' kk (fun b hb hm => by simp at hm; have := NN.out; omega))
  have HX := hid (Nat.lt_of_lt_of_le HS12.out kk.size)
  clear J12 D12 K12 HS12
  have J13 := JX
  have D13 := DX
  have K13 := KX
  have HS13 := HX
  clear JX DX KX HX
  have E13 := hid ey
  clear A ey kk E12
  obtain ⟨c13, rfl⟩ := Int.eq_ofNat_of_zero_le HLO
  have HC13 := hid (show c13 ≤ 65535 by omega)
  clear HLO HHI
  obtain ⟨sF13, hsF⟩ : ∃ z, z = fallS s13 c13 := ⟨_, rfl⟩
  have HF13 := hid hsF
  clear hsF
  go_upto_if 69 with fail
  go_cut [] from 69 (fun wx => Hid (REyL wx n0 n1 sF13) ∧ Hid (wx.heap[n2]? = some (.cells #[.int .i64 x1, .int .i64 x2, .int .i64 x3, .int .i64 x4, .string x5, .string x6, .bool x7, .bool x8, .bool x9, .int .i64 x10, .int .i64 x11, .int .i64 x12, .slice none 0 0, .slice none 0 0] 88 (0, 0))) ∧ Hid (wx.heap[n0]? = some (.cells (rqZ.cells (.slice none 0 0) (.slice none 0 0)).toArray 88 (0, 0))) ∧ Hid (Keeps [] w wx) ∧ Hid (n2 < wx.heap.size) ∧ Hid (Keeps [n1] u13 wx))
  case first =>
    by_cases h4 : 4000 < c13
    · have d4 : decide ((4000 : Int) < (c13 : Int)) = true := by simp; omega
      have d4n : decide (4000 < c13) = true := decide_eq_true h4
      have d4p : 4000 < c13 := h4
      have HFF := hid (show (if s13.2 = 0 then (s13.1, (3 : Int)) else s13) = sF13 by rw [HF13.out]; unfold fallS; rw [if_pos h4])
      clear h4
      go_wp2_with fail
      have FA := rFall_any E13.out 3
      rw [HFF.out] at FA
      refine FA.mono ?_
      rintro e uf ⟨rfl, ey, kk⟩
      have KU := hid kk
      have JX := hid ((kk.block n2 HS13.out (by have := NN.out; simp; omega)).trans J13.out)
      have DX := hid ((kk.block n0 (by have := HS13.out; have := NN.out; omega) (by have := NN.out; simp; omega)).trans D13.out)
      have KX := hid (K13.out.trans' kk (fun b hb hm => by simp at hm; have := NN.out; omega))
      have HX := hid (Nat.lt_of_lt_of_le HS13.out kk.size)
      clear J13 D13 K13 HS13
      have Jz := JX
      have Dz := DX
      have Kz := KX
      have HSz := HX
      clear JX DX KX HX
      have Ez := hid ey
      clear FA ey kk
      go_wp2_with fail
      go_meet
      exact ⟨Ez, Jz, Dz, Kz, HSz, KU⟩
    · have d4 : decide ((4000 : Int) < (c13 : Int)) = false := by simp; omega
      have d4n : decide (4000 < c13) = false := decide_eq_false h4
      have d4p : ¬ 4000 < c13 := h4
      have HFF := hid (show s13 = sF13 by rw [HF13.out]; unfold fallS; rw [if_neg h4])
      clear h4
      go_wp2_with fail
      go_meet
      exact ⟨hid (by rw [← HFF.out]; exact E13.out), J13, D13, K13, HS13, hid (Keeps.refl _ _)⟩
  clear E13 J13 D13 K13 HS13
  obtain ⟨E13, J13, D13, K13, HS13, KU13⟩ := hcut
  obtain ⟨wf13, hwf⟩ : ∃ z, z = wc := ⟨_, rfl⟩
  rw [← hwf] at E13 J13 D13 K13 HS13 KU13 ⊢
  clear hwf wc
  obtain ⟨BB13, hBB⟩ : ∃ z, z = wf13.heap.size := ⟨_, rfl⟩
  have HBB13 := hid hBB
  have HU13 := hid (show n2 < BB13 by rw [hBB]; exact HS13.out)
  clear hBB
  go_upto_block 0 with fail
  go_cut [] from 72 (fun wx => ∃ (l : List Sz) (a : Option Addr) (cp : Nat) (sE : PSt), Hid ((lsG szC.g s12).2 = sE) ∧ Hid (sE.2 = 0 → (lsG szC.g s12).1 = l) ∧ Hid (OwnT KSz 143 wx BB13 (.slice a l.length cp) l) ∧ Hid (REyL wx n0 n1 sE) ∧ Hid (wx.heap[n2]? = some (.cells #[.int .i64 x1, .int .i64 x2, .int .i64 x3, .int .i64 x4, .string x5, .string x6, .bool x7, .bool x8, .bool x9, .int .i64 x10, .int .i64 x11, .int .i64 x12, .slice a l.length cp, .slice none 0 0] 88 (0, 0))) ∧ Hid (wx.heap[n0]? = some (.cells (rqZ.cells (.slice none 0 0) (.slice none 0 0)).toArray 88 (0, 0))) ∧ Hid (Keeps [] w wx) ∧ Hid (BB13 ≤ wx.heap.size))
  case first =>
    go_wp2_with fail
    go_loopw [7] (fun iv wr => ∃ (k : Nat) (a : Option Addr) (cp : Nat), k ≤ c13 ∧ iv = .int .i64 (k : Int) ∧ Hid (OwnT KSz 143 wr BB13 (.slice a (itG szC.g sF13 k).1.length cp) (itG szC.g sF13 k).1) ∧ Hid (REyL wr n0 n1 (itG szC.g sF13 k).2) ∧ Hid (wr.heap[n2]? = some (.cells #[.int .i64 x1, .int .i64 x2, .int .i64 x3, .int .i64 x4, .string x5, .string x6, .bool x7, .bool x8, .bool x9, .int .i64 x10, .int .i64 x11, .int .i64 x12, .slice a (itG szC.g sF13 k).1.length cp, .slice none 0 0] 88 (0, 0))) ∧ Hid (wr.heap[n0]? = some (.cells (rqZ.cells (.slice none 0 0) (.slice none 0 0)).toArray 88 (0, 0))) ∧ Hid (Keeps [] w wr) ∧ Hid (BB13 ≤ wr.heap.size)) (fun iv _ => c13 - (intOf iv).toNat)
    case atStart => exact ⟨0, none, 0, Nat.zero_le _, rfl, hid (OwnT.nil _ _ _ _), E13, J13, D13, K13, hid (by rw [HBB13.out]; exact Nat.le_refl _)⟩
    case round =>
      obtain ⟨k, a, cp, hk, rfl, Oz, Ez, Jz, Dz, Kz, HGE⟩ := hrel
      have HSz := hid (Nat.lt_of_lt_of_le HU13.out HGE.out)
      have HLK := hid (itG_len szC.g sF13 k)
      obtain ⟨l, hl⟩ : ∃ z, z = (itG szC.g sF13 k).1 := ⟨_, rfl⟩
      obtain ⟨st2, hst2⟩ : ∃ z, z = (itG szC.g sF13 k).2 := ⟨_, rfl⟩
      have HIT := hid (show itG szC.g sF13 k = (l, st2) from Prod.ext hl.symm hst2.symm)
      rw [← hl] at Oz Jz HLK
      rw [← hst2] at Ez
      clear hl hst2
      obtain ⟨cb, fb⟩ := Ez.out.cells
      by_cases hlt : k < c13
      · by_cases hb : st2.2 = 0
        · have hb0 : (st2.2 == 0) = true := by simpa using hb
          have H4 := hid (show c13 ≤ 4000 from (fallS_ok N13.out (by rw [← HF13.out]; exact itG_zero szC_ok (k := k) (by rw [HIT.out]; exact hb))).1)
          clear hb
          have hk4 : k < 4000 := by have := H4.out; omega
          obtain ⟨x1', t1, q1⟩ : ∃ x s, numE 1 st2 = (x, s) := ⟨_, _, rfl⟩
          obtain ⟨x2', t2, q2⟩ : ∃ x s, numE 3 t1 = (x, s) := ⟨_, _, rfl⟩
          obtain ⟨x3', t3, q3⟩ : ∃ x s, numE 4 t2 = (x, s) := ⟨_, _, rfl⟩
          have M1 := hid q1
          have M2 := hid q2
          have M3 := hid q3
          have G := hid (rnGetSt_any wr n0 n1 st2 Ez.out (by have := HU13.out; have := HGE.out; have := NN.out; omega) q1 q2 q3)
          clear q1 q2 q3
          go_wp2_with fail
          refine G.out.mono ?_
          rintro e y0 ⟨rfl, ey, kk⟩
          have JX := hid ((kk.block n2 HSz.out (by have := NN.out; simp; omega)).trans Jz.out)
          have DX := hid ((kk.block n0 (by have := HSz.out; have := NN.out; omega) (by have := NN.out; simp; omega)).trans Dz.out)
          have KX := hid (Kz.out.trans' kk (fun b hb hm => by simp at hm; have := NN.out; omega))
          have HX := hid (Nat.lt_of_lt_of_le HSz.out kk.size)
          clear Jz Dz Kz HSz
          have Ja := JX
          have Da := DX
          have Ka := KX
          have HSa := HX
          clear JX DX KX HX
          have Ea := hid ey
          have Oa := hid (Oz.out.keep kk (fun b hb => by simp at hb; have := HU13.out; have := NN.out; omega))
          have GE1 := hid (Nat.le_trans HGE.out kk.size)
          clear G ey kk Ez Oz cb fb hb0
          have k1 : Keeps [] y0 (y0.alloc (.cells (KSz.cells ⟨x1', x2', x3', 0⟩).toArray 143)) := (Keeps.refl [] y0).alloc _
          have FXa := hid (heap_alloc_new y0 (.cells (KSz.cells ⟨x1', x2', x3', 0⟩).toArray 143))
          have Eb := hid (Ea.out.more k1)
          have Ob := hid (Oa.out.later k1)
          have Jb := hid ((k1.block n2 HSa.out (by simp)).trans Ja.out)
          have Db := hid ((k1.block n0 (by have := HSa.out; have := NN.out; omega) (by simp)).trans Da.out)
          have Kb := hid (Ka.out.trans k1)
          have HSb := hid (Nat.lt_of_lt_of_le HSa.out k1.size)
          have OFF := hid (show ∀ b, (Value.slice a l.length cp).ownBlock = some b → b < y0.heap.size ∧ BB13 ≤ b from fun b hb => ⟨(Oa.out.blk b hb).2, (Oa.out.blk b hb).1⟩)
          have HG1 := hid (show y0.heap.size < (y0.alloc (.cells (KSz.cells ⟨x1', x2', x3', 0⟩).toArray 143)).heap.size by simp)
          have HG0 := hid HSa.out
          clear k1 Ea Oa Ja Da Ka HSa
          go_wp2_with (first | (refine wpList_is rfl _ _ (exec_rsz _ x1' x2' x3' rfl rfl) ?_) | (refine wpList_allocT rSz rfl rfl ?_) | (refine wpList_newT rSz rfl y0 _ _ rfl rfl rfl ⟨x1', x2', x3', 0⟩ rfl ?_; refine Hid.out ?_) | fail)
          refine hid ?_
          obtain ⟨gx, hgx⟩ : ∃ z, z = y0.heap.size := ⟨_, rfl⟩
          obtain ⟨y1, hy1⟩ : ∃ z, z = y0.alloc (.cells (KSz.cells ⟨x1', x2', x3', 0⟩).toArray 143) := ⟨_, rfl⟩
          rw [← hy1] at FXa Eb Ob Jb Db Kb HSb HG1 ⊢
          rw [← hgx] at FXa OFF HG0 HG1 GE1 ⊢
          clear hgx hy1
          obtain ⟨xi, t4, q2⟩ : ∃ x s, numE 2 t3 = (x, s) := ⟨_, _, rfl⟩
          have M4 := hid q2
          clear q2
          go_wp2_with fail
          have A := Eb.out.num 2
          rw [M4.out] at A
          refine A.mono ?_
          rintro e y2 ⟨rfl, ey, kk⟩
          have FXb := hid ((kk.block gx HG1.out (by have := HG0.out; have := NN.out; simp; omega)).trans FXa.out)
          have Oc := hid (Ob.out.keep kk (fun b hb => by simp at hb; have := HU13.out; have := NN.out; omega))
          have HGc := hid (Nat.lt_of_lt_of_le HG1.out kk.size)
          have JX := hid ((kk.block n2 HSb.out (by have := NN.out; simp; omega)).trans Jb.out)
          have DX := hid ((kk.block n0 (by have := HSb.out; have := NN.out; omega) (by have := NN.out; simp; omega)).trans Db.out)
          have KX := hid (Kb.out.trans' kk (fun b hb hm => by simp at hm; have := NN.out; omega))
          have HX := hid (Nat.lt_of_lt_of_le HSb.out kk.size)
          clear Jb Db Kb HSb
          have Jc := JX
          have Dc := DX
          have Kc := KX
          have HSc := HX
          clear JX DX KX HX
          have Ec := hid ey
          clear A ey kk Eb Ob FXa HG1
          obtain ⟨cc, ff⟩ := five_cells FXb.out 3
          change y2.cell? ⟨gx, 3, none⟩ = some (.int .i64 0) at cc
          have FXn := hid (show (y2.setCell ⟨gx, 3, none⟩ (.int .i64 xi)).heap[gx]? = some (.cells (KSz.cells ⟨x1', x2', x3', xi⟩).toArray 143 (0, 0)) from set_five (i := 3) FXb.out (.int .i64 xi))
          have sk : Keeps [gx] y2 (y2.setCell ⟨gx, 3, none⟩ (.int .i64 xi)) := set_keep
          have JX := hid ((sk.block n2 HSc.out (by have := HG0.out; simp; omega)).trans Jc.out)
          have DX := hid ((sk.block n0 (by have := HSc.out; have := NN.out; omega) (by have := HG0.out; have := NN.out; simp; omega)).trans Dc.out)
          have EX := hid (Ec.out.later sk (by have := HG0.out; have := NN.out; omega) (by have := HG0.out; have := NN.out; omega))
          have KX := hid (Kc.out.trans' sk (fun b hb hm => by simp at hm; have := HG0.out; have := NN.out; omega))
          have HX := hid (Nat.lt_of_lt_of_le HSc.out sk.size)
          have OX := hid (Oc.out.off sk (fun b hb => by have := (OFF.out b hb).1; simp; omega))
          have HGX := hid (Nat.lt_of_lt_of_le HGc.out sk.size)
          clear sk Jc Dc Kc HSc Ec Oc HGc FXb
          have FXd := FXn
          have Jd := JX
          have Dd := DX
          have Kd := KX
          have HSd := HX
          have Ed := EX
          have Od := OX
          have HGd := HGX
          clear JX DX KX HX EX OX HGX FXn
          obtain ⟨y4, hy4⟩ : ∃ z, z = y2.setCell ⟨gx, 3, none⟩ (.int .i64 xi) := ⟨_, rfl⟩
          have HY4 := hid hy4
          clear hy4
          have RX := hid (range_ofN (cs := KSz.cells ⟨x1', x2', x3', xi⟩) FXd.out rfl)
          have NX := hid (show itG szC.g sF13 (k + 1) = (l ++ [⟨x1', x2', x3', xi⟩], t4) by
            rw [itG_succ, HIT.out]
            have e2 : szC.g st2 = (⟨x1', x2', x3', xi⟩, t4) := map_is (seq_is (n1_is M1.out) (seq_is (n3_is M2.out) (seq_is (n4_is M3.out) (n2_is M4.out))))
            simp only [e2])
          rw [← HY4.out] at RX Jd Dd Kd HSd Ed Od HGd
          have k5 : Keeps [] y4 (y4.alloc (.cells (KSz.cells ⟨x1', x2', x3', xi⟩).toArray 143)) := (Keeps.refl [] y4).alloc _
          obtain ⟨a', c', w6, hrun, o6, k6, _⟩ := append_ls rSz (Od.out.later k5) _ 1 1 (one_ls y4 (⟨x1', x2', x3', xi⟩ : Sz) 143 (K := KSz)) (by have := HLK.out; simp; omega) (by have := k5.size; have := HGd.out; have := GE1.out; omega) 86
          have RUN := hid hrun
          have OB6 := hid (show ∀ b ∈ (Value.slice a l.length cp).ownBlock.toList, BB13 ≤ b from fun b hb => (OFF.out b (by simpa using hb)).2)
          have Je := hid ((k6.block n2 (by have := HSd.out; have := k5.size; omega) (fun hm => by have := OB6.out n2 hm; have := HU13.out; omega)).trans ((k5.block n2 HSd.out (by simp)).trans Jd.out))
          have De := hid ((k6.block n0 (by have := HSd.out; have := k5.size; have := NN.out; omega) (fun hm => by have := OB6.out n0 hm; have := HU13.out; have := NN.out; omega)).trans ((k5.block n0 (by have := HSd.out; have := NN.out; omega) (by simp)).trans Dd.out))
          have Ee := hid (show REyL w6 n0 n1 t4 from by
            obtain ⟨v2, he⟩ := Ed.out
            refine ⟨v2, (he.keep k5 (by simp) (by simp)).keep k6 ?_ ?_⟩
            · intro hm
              have := OB6.out n1 hm; have := HU13.out; have := NN.out; omega
            · intro b hb
              have := OB6.out b hb; have := HU13.out; have := NN.out; omega)
          have Ke := hid ((Kd.out.trans k5).trans' k6 (S := []) (fun b hb hm => by have := OB6.out b hm; have := HU13.out; have := NN.out; omega))
          have HSe := hid (show n2 < w6.heap.size by have := HSd.out; have := k5.size; have := k6.size; omega)
          have HGe := hid (show BB13 ≤ w6.heap.size by have := HGd.out; have := k5.size; have := k6.size; have := GE1.out; omega)
          have Oe := hid o6
          obtain ⟨cd, fd⟩ := five_cells Jd.out 12
          change y4.cell? ⟨n2, 12, none⟩ = some (.slice a l.length cp) at cd
          obtain ⟨ce, fe⟩ := five_cells Je.out 12
          change w6.cell? ⟨n2, 12, none⟩ = some (.slice a l.length cp) at ce
          clear hrun o6 k6 k5 fd
          rw [HY4.out] at cd RX RUN
          go_wp2_with (first | (refine wpList_loadT rSz rfl _ rfl gx 0 rfl ⟨x1', x2', x3', xi⟩ RX.out ?_) | (refine wpList_is rfl _ _ (exec_oneT rSz _ ⟨x1', x2', x3', xi⟩ rfl rfl) ?_) | (at_builtin; refine wpList_is rfl _ _ (exec_appendT 86 _ _ rfl rfl rfl RUN.out) ?_; refine Hid.out ?_) | fail)
          refine hid ?_
          clear cd RX RUN
          have JX := hid (show (w6.setCell ⟨n2, 12, none⟩ (.slice a' (l.length + 1) c')).heap[n2]? = some (.cells #[.int .i64 x1, .int .i64 x2, .int .i64 x3, .int .i64 x4, .string x5, .string x6, .bool x7, .bool x8, .bool x9, .int .i64 x10, .int .i64 x11, .int .i64 x12, .slice a' (l.length + 1) c', .slice none 0 0] 88 (0, 0)) from set_five (i := 12) Je.out (.slice a' (l.length + 1) c'))
          have sk : Keeps [n2] w6 (w6.setCell ⟨n2, 12, none⟩ (.slice a' (l.length + 1) c')) := set_keep
          have DX := hid ((sk.block n0 (by have := HSe.out; have := NN.out; omega) (by have := NN.out; simp; omega)).trans De.out)
          have EX := hid (Ee.out.later sk (by have := NN.out; omega) (by have := NN.out; omega))
          have KX := hid (Ke.out.trans' sk (S := []) (fun b hb hm => by simp at hm; have := NN.out; omega))
          have OX := hid (Oe.out.keep sk (fun b hb => by simp at hb; have := HU13.out; omega))
          have HX := hid (Nat.le_trans HGe.out sk.size)
          clear sk Je De Ee Ke Oe HSe HGe
          go_wp2_with fail
          clear ce fe
          go_roundw
          case rel =>
            refine ⟨k + 1, a', c', by omega, by go_num, ?_, ?_, ?_, DX, KX, HX⟩
            · rw [NX.out]; have := OX.out; exact hid (by simpa using this)
            · rw [NX.out]; exact EX
            · rw [NX.out]; have := JX.out; exact hid (by simpa using this)
          case measure => simp [intOf] <;> omega
        · have HBAD := hid hb
          have hb0 : (st2.2 == 0) = false := by simpa using hb
          clear hb
          have LX := hid (ls_exit szC_ok (k := k) N13.out HF13.out (by omega) (by rw [HIT.out]; first | exact Or.inl rfl | exact Or.inr HBAD.out))
          rw [HIT.out] at LX
          go_wp2_with fail
          go_meet
          exact ⟨l, a, cp, st2, hid LX.out.1, hid LX.out.2, hid Oz.out, Ez, Jz, Dz, Kz, HGE⟩
      · obtain rfl : k = c13 := by omega
        have LX := hid (ls_exit szC_ok (k := k) N13.out HF13.out (by omega) (by rw [HIT.out]; first | exact Or.inl rfl | exact Or.inr (by contradiction)))
        rw [HIT.out] at LX
        go_wp2_with fail
        go_meet
        exact ⟨l, a, cp, st2, hid LX.out.1, hid LX.out.2, hid Oz.out, Ez, Jz, Dz, Kz, HGE⟩
  clear E13 J13 D13 K13 HS13
  obtain ⟨ls, a13, cp13, sE, LS1, LG1, O14, E14, J14, D14, K14, HGE14⟩ := hcut
  obtain ⟨wg, hwg⟩ : ∃ z, z = wc := ⟨_, rfl⟩
  rw [← hwg] at O14 E14 J14 D14 K14 HGE14 ⊢
  clear hwg wc
  have HS14 := hid (Nat.lt_of_lt_of_le HU13.out HGE14.out)
  obtain ⟨vs, hvs⟩ : ∃ z, z = Value.slice a13 ls.length cp13 := ⟨_, rfl⟩
  have HVS := hid hvs
  rw [← hvs] at O14 J14
  clear hvs
  obtain ⟨xc15, s15, ec⟩ : ∃ x s, numE 2 sE = (x, s) := ⟨_, _, rfl⟩
  have N15 := hid ec
  have HLO := numE_lowB (st := sE) E14.out.bytes 2
  have HHI := cnt_le2 (st := sE) E14.out.bytes
  rw [ec] at HLO HHI
  simp only at HLO HHI
  clear ec
  go_wp2_with fail
  have A := E14.out.num 2
  rw [N15.out] at A
  refine A.mono ?_
  rintro e u15 ⟨rfl, ey, kk⟩
  have JX := hid ((kk.block n2 HS14.out (by have := NN.out; simp; omega)).trans J14.out)
  have DX := hid ((kk.block n0 (by have := HS14.out; have := NN.out; omega) (by have := NN.out; simp; omega)).trans D14.out)
  have KX := hid (K14.out.trans' kk (fun b hb hm => by simp at hm; have := NN.out; omega))
  have HX := hid (Nat.lt_of_lt_of_le HS14.out kk.size)
  clear J14 D14 K14 HS14
  have J15 := JX
  have D15 := DX
  have K15 := KX
  have HS15 := HX
  clear JX DX KX HX
  have E15 := hid ey
  have O15 := hid (O14.out.keep kk (fun b hb => by simp at hb; have := HU13.out; have := NN.out; omega))
  clear A ey kk E14
  obtain ⟨c15, rfl⟩ := Int.eq_ofNat_of_zero_le HLO
  have HC15 := hid (show c15 ≤ 65535 by omega)
  clear HLO HHI
  obtain ⟨sF15, hsF⟩ : ∃ z, z = fallS s15 c15 := ⟨_, rfl⟩
  have HF15 := hid hsF
  clear hsF
  go_upto_if 99 with fail
  go_cut [] from 99 (fun wx => Hid (REyL wx n0 n1 sF15) ∧ Hid (wx.heap[n2]? = some (.cells #[.int .i64 x1, .int .i64 x2, .int .i64 x3, .int .i64 x4, .string x5, .string x6, .bool x7, .bool x8, .bool x9, .int .i64 x10, .int .i64 x11, .int .i64 x12, vs, .slice none 0 0] 88 (0, 0))) ∧ Hid (wx.heap[n0]? = some (.cells (rqZ.cells (.slice none 0 0) (.slice none 0 0)).toArray 88 (0, 0))) ∧ Hid (Keeps [] w wx) ∧ Hid (n2 < wx.heap.size) ∧ Hid (Keeps [n1] u15 wx))
  case first =>
    by_cases h4 : 4000 < c15
    · have d4 : decide ((4000 : Int) < (c15 : Int)) = true := by simp; omega
      have d4n : decide (4000 < c15) = true := decide_eq_true h4
      have d4p : 4000 < c15 := h4
      have HFF := hid (show (if s15.2 = 0 then (s15.1, (3 : Int)) else s15) = sF15 by rw [HF15.out]; unfold fallS; rw [if_pos h4])
      clear h4
      go_wp2_with fail
      have FA := rFall_any E15.out 3
      rw [HFF.out] at FA
      refine FA.mono ?_
      rintro e uf ⟨rfl, ey, kk⟩
      have KU := hid kk
      have JX := hid ((kk.block n2 HS15.out (by have := NN.out; simp; omega)).trans J15.out)
      have DX := hid ((kk.block n0 (by have := HS15.out; have := NN.out; omega) (by have := NN.out; simp; omega)).trans D15.out)
      have KX := hid (K15.out.trans' kk (fun b hb hm => by simp at hm; have := NN.out; omega))
      have HX := hid (Nat.lt_of_lt_of_le HS15.out kk.size)
      clear J15 D15 K15 HS15
      have Jz := JX
      have Dz := DX
      have Kz := KX
      have HSz := HX
      clear JX DX KX HX
      have Ez := hid ey
      clear FA ey kk
      go_wp2_with fail
      go_meet
      exact ⟨Ez, Jz, Dz, Kz, HSz, KU⟩
    · have d4 : decide ((4000 : Int) < (c15 : Int)) = false := by simp; omega
      have d4n : decide (4000 < c15) = false := decide_eq_false h4
      have d4p : ¬ 4000 < c15 := h4
      have HFF := hid (show s15 = sF15 by rw [HF15.out]; unfold fallS; rw [if_neg h4])
      clear h4
      go_wp2_with fail
      go_meet
      exact ⟨hid (by rw [← HFF.out]; exact E15.out), J15, D15, K15, HS15, hid (Keeps.refl _ _)⟩
  clear E15 J15 D15 K15 HS15
  obtain ⟨E15, J15, D15, K15, HS15, KU15⟩ := hcut
  obtain ⟨wf15, hwf⟩ : ∃ z, z = wc := ⟨_, rfl⟩
  rw [← hwf] at E15 J15 D15 K15 HS15 KU15 ⊢
  clear hwf wc
  obtain ⟨BB15, hBB⟩ : ∃ z, z = wf15.heap.size := ⟨_, rfl⟩
  have HBB15 := hid hBB
  have HU15 := hid (show n2 < BB15 by rw [hBB]; exact HS15.out)
  clear hBB
  have O16 := hid (O15.out.keep KU15.out (fun b hb => by simp at hb; have := HU13.out; have := NN.out; omega))
  clear O15 O14
  have HOB := hid (fun b (hb : vs.ownBlock = some b) => O16.out.blk b hb)
  go_upto_block 2 with fail
  go_cut [] from 102 (fun wx => ∃ (l : List Dl) (a : Option Addr) (cp : Nat) (sQ : PSt), Hid ((lsG dlC.g sE).2 = sQ) ∧ Hid (sQ.2 = 0 → (lsG dlC.g sE).1 = l) ∧ Hid (OwnT KDl 149 wx BB15 (.slice a l.length cp) l) ∧ Hid (REyL wx n0 n1 sQ) ∧ Hid (wx.heap[n2]? = some (.cells #[.int .i64 x1, .int .i64 x2, .int .i64 x3, .int .i64 x4, .string x5, .string x6, .bool x7, .bool x8, .bool x9, .int .i64 x10, .int .i64 x11, .int .i64 x12, vs, .slice a l.length cp] 88 (0, 0))) ∧ Hid (wx.heap[n0]? = some (.cells (rqZ.cells (.slice none 0 0) (.slice none 0 0)).toArray 88 (0, 0))) ∧ Hid (Keeps [] w wx) ∧ Hid (BB15 ≤ wx.heap.size) ∧ Hid (OwnT KSz 143 wx BB13 vs ls))
  case first =>
    go_wp2_with fail
    go_loopw [9] (fun iv wr => ∃ (k : Nat) (a : Option Addr) (cp : Nat), k ≤ c15 ∧ iv = .int .i64 (k : Int) ∧ Hid (OwnT KDl 149 wr BB15 (.slice a (itG dlC.g sF15 k).1.length cp) (itG dlC.g sF15 k).1) ∧ Hid (REyL wr n0 n1 (itG dlC.g sF15 k).2) ∧ Hid (wr.heap[n2]? = some (.cells #[.int .i64 x1, .int .i64 x2, .int .i64 x3, .int .i64 x4, .string x5, .string x6, .bool x7, .bool x8, .bool x9, .int .i64 x10, .int .i64 x11, .int .i64 x12, vs, .slice a (itG dlC.g sF15 k).1.length cp] 88 (0, 0))) ∧ Hid (wr.heap[n0]? = some (.cells (rqZ.cells (.slice none 0 0) (.slice none 0 0)).toArray 88 (0, 0))) ∧ Hid (Keeps [] w wr) ∧ Hid (BB15 ≤ wr.heap.size) ∧ Hid (OwnT KSz 143 wr BB13 vs ls)) (fun iv _ => c15 - (intOf iv).toNat)
    case atStart => exact ⟨0, none, 0, Nat.zero_le _, rfl, hid (OwnT.nil _ _ _ _), E15, J15, D15, K15, hid (by rw [HBB15.out]; exact Nat.le_refl _), O16⟩
    case round =>
      obtain ⟨k, a, cp, hk, rfl, Oz, Ez, Jz, Dz, Kz, HGE, OV⟩ := hrel
      have HSz := hid (Nat.lt_of_lt_of_le HU15.out HGE.out)
      have HLK := hid (itG_len dlC.g sF15 k)
      obtain ⟨l, hl⟩ : ∃ z, z = (itG dlC.g sF15 k).1 := ⟨_, rfl⟩
      obtain ⟨st2, hst2⟩ : ∃ z, z = (itG dlC.g sF15 k).2 := ⟨_, rfl⟩
      have HIT := hid (show itG dlC.g sF15 k = (l, st2) from Prod.ext hl.symm hst2.symm)
      rw [← hl] at Oz Jz HLK
      rw [← hst2] at Ez
      clear hl hst2
      obtain ⟨cb, fb⟩ := Ez.out.cells
      by_cases hlt : k < c15
      · by_cases hb : st2.2 = 0
        · have hb0 : (st2.2 == 0) = true := by simpa using hb
          have H4 := hid (show c15 ≤ 4000 from (fallS_ok N15.out (by rw [← HF15.out]; exact itG_zero dlC_ok (k := k) (by rw [HIT.out]; exact hb))).1)
          clear hb
          have hk4 : k < 4000 := by have := H4.out; omega
          have G := hid (rdGet_any wr.drew n0 n1 st2 (Ez.out.more (Keeps.refl [] wr).drew) (by have := HU15.out; have := HGE.out; have := NN.out; show n0 ≤ wr.heap.size; omega))
          obtain ⟨x, hx⟩ : ∃ z, z = (getD st2).1 := ⟨_, rfl⟩
          obtain ⟨t4, ht4⟩ : ∃ z, z = finD (getD st2) := ⟨_, rfl⟩
          have NX := hid (show itG dlC.g sF15 (k + 1) = (l ++ [x], t4) by rw [itG_succ, HIT.out, hx, ht4]; rfl)
          unfold RGetPost at G
          rw [← hx, ← ht4] at G
          clear hx ht4
          obtain ⟨cd, fd⟩ := five_cells Jz.out 13
          change wr.cell? ⟨n2, 13, none⟩ = some (.slice a l.length cp) at cd
          have CD := hid cd
          have OB6 := hid (show ∀ b ∈ (Value.slice a l.length cp).ownBlock.toList, BB15 ≤ b ∧ b < wr.heap.size from fun b hb => Oz.out.blk b (by simpa using hb))
          clear cd fd
          go_wp2_with fail
          clear cb fb
          refine wp_region_any (by kernel_rfl) (wpAny_of_late (late := [7]) (S := KpS (n1 :: (Value.slice a l.length cp).ownBlock.toList) wr.heap.size wr.drew) _ _ _ _ ?_)
          change wpAnyT _ _ _ _ _ _ _ _ _ wr.drew
          have s0 : KpS (n1 :: (Value.slice a l.length cp).ownBlock.toList) wr.heap.size wr.drew wr.drew := KpS.refl _ _ _
          have N2N := hid (show n2 ∉ n1 :: (Value.slice a l.length cp).ownBlock.toList from fun hm => by
            rcases List.mem_cons.1 hm with hm | hm
            · have := NN.out; omega
            · have := (OB6.out n2 hm).1; have := HU15.out; omega)
          have cT : ∀ W1, KpS (n1 :: (Value.slice a l.length cp).ownBlock.toList) wr.heap.size wr.drew W1 → W1.cell? ⟨n2, 13, none⟩ = some (.slice a l.length cp) := fun W1 h => h.cell (by rw [World.cell?_drew]; exact CD.out) HSz.out N2N.out
          refine late_take (i := 0) (v := .pointer (some ⟨n2, 13, none⟩)) rfl (by kernel_rfl) (by kernel_rfl) (by kernel_rfl) (by kernel_rfl) (by kernel_rfl) (fun _ _ _ h => h) rfl (fun W1 hW1 => by go_simp) (KpS.refl _ _ _) ?_
          simp only [Act.put, List.setIfInBounds_toArray, List.set_cons_zero, List.set_cons_succ]
          refine late_take (i := 1) (v := .slice a l.length cp) rfl (by kernel_rfl) (by kernel_rfl) (by kernel_rfl) (by kernel_rfl) (by kernel_rfl) (fun _ _ _ h => h) rfl (fun W1 hW1 => exec_load _ _ _ _ rfl rfl (run_loadCell W1 _ _ _ (cT W1 hW1) (agg_no _ (by kernel_rfl)))) (KpS.refl _ _ _) ?_
          simp only [Act.put, List.setIfInBounds_toArray, List.set_cons_zero, List.set_cons_succ]
          refine late_take (i := 2) (v := .pointer (some ⟨n1, 0, none⟩)) rfl (by kernel_rfl) (by kernel_rfl) (by kernel_rfl) (by kernel_rfl) (by kernel_rfl) (fun _ _ _ h => h) rfl (fun W1 hW1 => rfl) (KpS.refl _ _ _) ?_
          simp only [Act.put, List.setIfInBounds_toArray, List.set_cons_zero, List.set_cons_succ]
          refine late_do (i := 3) (by kernel_rfl) rfl rfl (wp_enter (f := 98) (args := #[.pointer (some ⟨n1, 0, none⟩)]) (by go_simp) (G.out) ?_)
          rintro e y1 ⟨rfl, ey, kk⟩
          have s1 : KpS (n1 :: (Value.slice a l.length cp).ownBlock.toList) wr.heap.size wr.drew y1 := s0.keeps kk s0.size (fun j hj _ => by simp at hj; subst hj; simp)
          refine ⟨_, rfl, Or.inr s1, ?_⟩
          simp only [Act.put, List.setIfInBounds_toArray, List.set_cons_zero, List.set_cons_succ]
          have k1 : Keeps [n1] wr y1 := ((Keeps.refl [] wr).drew.mono (by simp)).trans kk
          have hz1 := k1.size
          refine late_do (i := 4) (by kernel_rfl) rfl rfl (wp_value (exec_oneT cDl _ x rfl rfl) ?_)
          have kB : Keeps [] y1 (y1.alloc (.cells (KDl.cells x).toArray 149)) := (Keeps.refl [] y1).alloc _
          have sB := KpS.alloc s1 (by show wr.heap.size ≤ y1.heap.size; omega) (.cells (KDl.cells x).toArray 149)
          have oB := one_ls y1 x 149 (K := KDl)
          refine ⟨Or.inr sB, ?_⟩
          simp only [Act.put, List.setIfInBounds_toArray, List.set_cons_zero, List.set_cons_succ]
          generalize y1.alloc (.cells (KDl.cells x).toArray 149) = wB at kB sB oB ⊢
          have hzB := kB.size
          have OW1 := (Oz.out.keep k1 (fun b hb => by simp at hb; have := HU15.out; have := NN.out; omega)).later kB
          obtain ⟨a3, c3, wD, run2, o2, k2, _⟩ := append_ls cDl OW1 _ 1 1 oB (by have := HLK.out; simp; omega) (by have := HGE.out; omega) 80
          have sD := KpS.keeps sB k2 (by omega) (fun j hj _ => List.mem_cons_of_mem _ hj)
          refine late_do (i := 5) (by kernel_rfl) rfl rfl (wp_value (exec_appendT 80 _ _ rfl rfl rfl run2) ?_)
          refine ⟨Or.inr sD, ?_⟩
          simp only [Act.put, List.setIfInBounds_toArray, List.set_cons_zero, List.set_cons_succ]
          refine late_take (i := 6) (v := .pointer (some ⟨n2, 13, none⟩)) rfl (by kernel_rfl) (by kernel_rfl) (by kernel_rfl) (by kernel_rfl) (by kernel_rfl) (fun _ _ _ h => h) rfl (fun W1 hW1 => by go_simp) (sD) ?_
          simp only [Act.put, List.setIfInBounds_toArray, List.set_cons_zero, List.set_cons_succ]
          have hD : wD.heap[n2]? = some (.cells #[.int .i64 x1, .int .i64 x2, .int .i64 x3, .int .i64 x4, .string x5, .string x6, .bool x7, .bool x8, .bool x9, .int .i64 x10, .int .i64 x11, .int .i64 x12, vs, .slice a l.length cp] 88 (0, 0)) := (k2.block n2 (by have := HSz.out; omega) (fun hm => N2N.out (List.mem_cons_of_mem _ hm))).trans ((kB.block n2 (by have := HSz.out; omega) (by simp)).trans ((k1.block n2 HSz.out (by have := NN.out; simp; omega)).trans Jz.out))
          obtain ⟨cd, fd⟩ := five_cells hD 13
          change wD.cell? ⟨n2, 13, none⟩ = some (.slice a l.length cp) at cd
          refine late_do (i := 7) (by kernel_rfl) rfl rfl (wp_stored (w' := wD.setCell ⟨n2, 13, none⟩ (.slice a3 (l.length + 1) c3)) (by go_simp) ⟨Or.inl rfl, ?_⟩)
          simp only [Act.put]
          refine wpAnyT_done (by kernel_rfl) ?_ _
          have kBD : Keeps (Value.slice a l.length cp).ownBlock.toList y1 wD := (kB.mono (by simp)).trans k2
          have hzD := k2.size
          have JX := hid (show (wD.setCell ⟨n2, 13, none⟩ (.slice a3 (l.length + 1) c3)).heap[n2]? = some (.cells #[.int .i64 x1, .int .i64 x2, .int .i64 x3, .int .i64 x4, .string x5, .string x6, .bool x7, .bool x8, .bool x9, .int .i64 x10, .int .i64 x11, .int .i64 x12, vs, .slice a3 (l.length + 1) c3] 88 (0, 0)) from set_five (i := 13) hD (.slice a3 (l.length + 1) c3))
          have sk : Keeps [n2] wD (wD.setCell ⟨n2, 13, none⟩ (.slice a3 (l.length + 1) c3)) := set_keep
          have OBn : ∀ b ∈ (Value.slice a l.length cp).ownBlock.toList, n2 < b := fun b hb => by have := (OB6.out b hb).1; have := HU15.out; omega
          have DX := hid ((sk.block n0 (by have := HSz.out; have := NN.out; omega) (by have := NN.out; simp; omega)).trans ((kBD.block n0 (by have := HSz.out; have := NN.out; omega) (fun hm => by have := OBn n0 hm; have := NN.out; omega)).trans ((k1.block n0 (by have := HSz.out; have := NN.out; omega) (by have := NN.out; simp; omega)).trans Dz.out)))
          have EX := hid (show REyL (wD.setCell ⟨n2, 13, none⟩ (.slice a3 (l.length + 1) c3)) n0 n1 t4 from by
            obtain ⟨v2, he⟩ := ey
            have he2 : REyL wD n0 n1 t4 := ⟨v2, he.keep kBD (fun hm => by have := OBn n1 hm; have := NN.out; omega) (fun b hb => by have := OBn b hb; have := NN.out; omega)⟩
            exact he2.later sk (by have := NN.out; omega) (by have := NN.out; omega))
          have KX := hid (((Kz.out.trans' k1 (S := []) (fun b hb hm => by simp at hm; have := NN.out; omega)).trans' kBD (S := []) (fun b hb hm => by have := OBn b hm; have := NN.out; omega)).trans' sk (S := []) (fun b hb hm => by simp at hm; have := NN.out; omega))
          have OX := hid (o2.keep sk (fun b hb => by simp at hb; have := HU15.out; omega))
          have HX := hid (show BB15 ≤ (wD.setCell ⟨n2, 13, none⟩ (.slice a3 (l.length + 1) c3)).heap.size by have := sk.size; have := HGE.out; omega)
          have OVX := hid (((OV.out.keep k1 (fun b hb => by simp at hb; have := HU13.out; have := NN.out; omega)).off kBD (fun b hb hm => by have := (OB6.out b hm).1; have := (HOB.out b hb).2; have := HBB15.out; omega)).keep sk (fun b hb => by simp at hb; have := HU13.out; omega))
          clear cT s0 s1 k1 hz1 kB sB oB OW1 run2 o2 k2 sD hD cd fd sk OBn kBD hzD hzB ey kk G CD
          generalize wD.setCell ⟨n2, 13, none⟩ (.slice a3 (l.length + 1) c3) = wE at JX DX EX KX OX HX OVX ⊢
          go_wp2_with fail
          go_roundw
          case rel =>
            refine ⟨k + 1, a3, c3, by omega, by go_num, ?_, ?_, ?_, DX, KX, HX, OVX⟩
            · rw [NX.out]; have := OX.out; exact hid (by simpa using this)
            · rw [NX.out]; exact EX
            · rw [NX.out]; have := JX.out; exact hid (by simpa using this)
          case measure => simp [intOf] <;> omega
        · have HBAD := hid hb
          have hb0 : (st2.2 == 0) = false := by simpa using hb
          clear hb
          have LX := hid (ls_exit dlC_ok (k := k) N15.out HF15.out (by omega) (by rw [HIT.out]; first | exact Or.inl rfl | exact Or.inr HBAD.out))
          rw [HIT.out] at LX
          go_wp2_with fail
          go_meet
          exact ⟨l, a, cp, st2, hid LX.out.1, hid LX.out.2, hid Oz.out, Ez, Jz, Dz, Kz, HGE, OV⟩
      · obtain rfl : k = c15 := by omega
        have LX := hid (ls_exit dlC_ok (k := k) N15.out HF15.out (by omega) (by rw [HIT.out]; first | exact Or.inl rfl | exact Or.inr (by contradiction)))
        rw [HIT.out] at LX
        go_wp2_with fail
        go_meet
        exact ⟨l, a, cp, st2, hid LX.out.1, hid LX.out.2, hid Oz.out, Ez, Jz, Dz, Kz, HGE, OV⟩
  clear E15 J15 D15 K15 HS15
  obtain ⟨ds, a15, cp15, sQ, LS2, LG2, Oy, Ey, Jy, Dy, Ky, HGEy, OV⟩ := hcut
  obtain ⟨wy, hwy⟩ : ∃ z, z = wc := ⟨_, rfl⟩
  rw [← hwy] at Oy Ey Jy Dy Ky HGEy OV ⊢
  clear hwy wc
  obtain ⟨vd, hvd⟩ : ∃ z, z = Value.slice a15 ds.length cp15 := ⟨_, rfl⟩
  have HVD := hid hvd
  rw [← hvd] at Oy Jy
  clear hvd
  go_wp2_with fail
  obtain ⟨v9, he9⟩ := Ey.out
  refine (reend_any _ n0 n1 v9 sQ.1 sQ.2 he9).mono ?_
  rintro e _ ⟨rfl, rfl⟩
  obtain ⟨z9, hz9⟩ : ∃ z, z = endOf sQ.1 sQ.2 := ⟨_, rfl⟩
  rw [← hz9]
  have HZ9 := hid hz9
  have N13L : lsG szC.g s12 = ((lsG szC.g s12).1, sE) := Prod.ext rfl LS1.out
  have N15L : lsG dlC.g sE = ((lsG dlC.g sE).1, sQ) := Prod.ext rfl LS2.out
  have GS : Hid (rqC.g st = (⟨x1, x2, x3, x4, x5, x6, x7, x8, x9, x10, x11, x12, (lsG szC.g s12).1, (lsG dlC.g sE).1⟩, sQ)) := hid (map_is (seq_is (n1_is N1.out) (seq_is (n3_is N2.out) (seq_is (n4_is N3.out) (seq_is (chk_is (n1_is N4.out) HTF.out.symm) (seq_is (tx_is N5.out) (seq_is (tx_is N6.out) (seq_is (bo_is N7.out) (seq_is (bo_is N8.out) (seq_is (bo_is N9.out) (seq_is (n1_is N10.out) (seq_is (n4_is N11.out) (seq_is (n3_is N12.out) (seq_is (ls_is N13L) (ls_is N15L)))))))))))))))
  have YZ : Hid (y = z9) := hid (by rw [HY.out, HZ9.out]; unfold decW; rw [← HST.out, GS.out])
  clear hz9 he9 N13L N15L
  by_cases h0 : z9 = 0
  · have Y0 := hid (show y = 0 by rw [YZ.out]; exact h0)
    have SQ0 : sQ.2 = 0 := by
      by_cases hb : sQ.2 = 0
      · exact hb
      · exfalso
        rw [HZ9.out] at h0
        unfold endOf at h0
        rw [if_neg hb] at h0
        exact hb h0
    have SE0 : sE.2 = 0 := by
      have e := (lsC_ok dlC_ok).was (st := sE) (show ((lsC dlC).g sE).2.2 = 0 from by show (lsG dlC.g sE).2.2 = 0; rw [LS2.out]; exact SQ0)
      exact e
    have RR := hid (show r = ⟨x1, x2, x3, x4, x5, x6, x7, x8, x9, x10, x11, x12, ls, ds⟩ by rw [HR.out, ← HST.out, GS.out, LG1.out SE0, LG2.out SQ0])
    have f0 : (z9 != 0) = false := by simpa using h0
    clear h0 SQ0 SE0
    obtain ⟨q1, q2⟩ := setRow_keepsN (cs := (Rq.cells ⟨x1, x2, x3, x4, x5, x6, x7, x8, x9, x10, x11, x12, ls, ds⟩ vs vd).toArray) Dy.out
    have Q1 := hid q1
    have Q2 := hid q2
    clear q1 q2
    have RT := hid (range_ofN (cs := (Rq.cells ⟨x1, x2, x3, x4, x5, x6, x7, x8, x9, x10, x11, x12, ls, ds⟩ vs vd)) Jy.out rfl)
    have ONE := hid (show ∀ u ∈ (Rq.cells ⟨x1, x2, x3, x4, x5, x6, x7, x8, x9, x10, x11, x12, ls, ds⟩ vs vd), u.oneCell' = true by rw [HVS.out, HVD.out]; exact one_rq _ _ _ _ _ _ _)
    go_wp2_with (first | (refine wpList_is rfl _ _ (exec_load _ _ _ _ rfl rfl (loadRq 88 urReq srReq _ n2 ⟨x1, x2, x3, x4, x5, x6, x7, x8, x9, x10, x11, x12, ls, ds⟩ _ _ RT.out)) ?_) | (refine wpList_noval rfl _ (exec_storeWhole 88 _ _ rfl n0 (rqZ.cells (.slice none 0 0) (.slice none 0 0)).toArray (Rq.cells ⟨x1, x2, x3, x4, x5, x6, x7, x8, x9, x10, x11, x12, ls, ds⟩ vs vd) Dy.out rfl rfl rfl (by kernel_rfl) ONE.out) ?_) | fail)
    refine bodyPost_ret (mix_ret (cs := (Rq.cells ⟨x1, x2, x3, x4, x5, x6, x7, x8, x9, x10, x11, x12, ls, ds⟩ vs vd)) (z := .int .i64 0) rfl urReq (by kernel_rfl) rfl rfl (range_ofN Q1.out rfl)) rfl ?_
    rw [RR.out]
    refine ⟨Ky.out.trans' Q2.out (S := []) (fun b hb hm => by simp at hm; have := NN.out; omega), Or.inl ⟨Y0.out, a13, cp13, a15, cp15, ?_, ?_, ?_⟩⟩
    · rw [← HVS.out, ← HVD.out]; rfl
    · rw [← HVS.out]; exact (OV.out.keep Q2.out (fun b hb => by simp at hb; have := HU13.out; have := NN.out; omega)).at rSz
    · rw [← HVD.out]; exact (Oy.out.keep Q2.out (fun b hb => by simp at hb; have := HU15.out; have := NN.out; omega)).at cDl
  · have H0 := hid h0
    have f0 : (z9 != 0) = true := by simpa using h0
    clear h0
    obtain ⟨q1, q2⟩ := setRow_keepsN (cs := (rqZ.cells (.slice none 0 0) (.slice none 0 0)).toArray) Dy.out
    have Q1 := hid q1
    have Q2 := hid q2
    clear q1 q2
    go_wp2_with (first | (refine wpList_noval rfl _ (exec_storeWhole 88 _ _ rfl n0 (rqZ.cells (.slice none 0 0) (.slice none 0 0)).toArray (rqZ.cells (.slice none 0 0) (.slice none 0 0)) Dy.out rfl rfl rfl (by kernel_rfl) (one_rq _ _ _ _ _ _ _)) ?_) | fail)
    refine bodyPost_ret (mix_ret (cs := rqZ.cells (.slice none 0 0) (.slice none 0 0)) (z := .int .i64 z9) rfl urReq (by kernel_rfl) rfl rfl (range_ofN Q1.out rfl)) rfl ?_
    exact ⟨Ky.out.trans' Q2.out (S := []) (fun b hb hm => by simp at hm; have := NN.out; omega), Or.inr ⟨by rw [YZ.out]; exact H0.out, by rw [YZ.out]; rfl⟩⟩
end Go.Proofs.Ytoglcohdanpciaa


/- note: the law's Asked. -/
namespace Go.Proofs.Ytoglcohdanpciaa
open Go.RowKit Go.Shelf
set_option maxRecDepth 100000
set_option linter.unusedSimpArgs false
set_option linter.unusedVariables false

theorem there_ofN {w : World} {b : Nat} {c : Array Value} {T : TypeId} (hb : w.heap[b]? = some (.cells c T (0, 0))) (off n : Nat) (hn : off + n ≤ c.size) : w.there b off n := fun j hj => by
  refine ⟨?_, frozen_of_row w b _ c T hb⟩
  rw [cell_of_row w b (off + j) c T (0, 0) hb]
  simp
  omega
theorem iSp : (Try.prog.info? 85).map (fun i => (i.zero, i.size)) = some (some (.agg #[.int .i64 0, .int .i64 0, .int .i64 0]), 3) := by kernel_rfl
theorem bld_sp3 (a b c : Int) (w : World) : (Instr.build 85 #[(0, .int .i64 a), (1, .int .i64 b), (2, .int .i64 c)]).run Try.prog w = .ok (.agg #[.int .i64 a, .int .i64 b, .int .i64 c]) w := by kernel_rfl
theorem exec_sp3 {ρ : Operand → Value} {o : Oper} {w : World} (x y z : Operand) (a b c : Int) (ho : o.op = .build 85 #[(0, x), (1, y), (2, z)]) (h0 : ρ x = .int .i64 a) (h1 : ρ y = .int .i64 b) (h2 : ρ z = .int .i64 c) : (execOp ρ o).run Try.prog w = .ok (.value (.agg #[.int .i64 a, .int .i64 b, .int .i64 c])) w := by
  simp only [execOp, ho, List.map_toArray, List.map_cons, List.map_nil, h0, h1, h2, Sem.run_bind, bld_sp3, Result.andThen_ok, Sem.run_pure]
theorem exec_fa0 {ρ : Operand → Value} {o : Oper} {w : World} (x : Operand) (b : Nat) (ho : o.op = .fieldAddr 88 x 0) (hx : ρ x = .pointer (some ⟨b, 0, none⟩)) : (execOp ρ o).run Try.prog w = .ok (.value (.pointer (some ⟨b, 0, none⟩))) w := by
  unfold execOp
  simp only [ho, hx]
  go_simp
theorem bld_lawAsk (r : Rq) (b : Option Addr) (n d : Nat) (w : World) : (Instr.build 88 #[(1, .int .i64 r.dO), (2, .string r.pa), (3, .string r.tp), (4, .bool r.di), (5, .bool r.wr), (6, .bool r.cz), (7, .int .i64 r.ha), (8, .int .i64 r.nx), (9, .int .i64 r.sw), (11, .slice b n d)]).run Try.prog w = .ok (rqV ⟨0, 0, 0, r.dO, r.pa, r.tp, r.di, r.wr, r.cz, r.ha, r.nx, r.sw, r.ss, r.dl⟩ (.slice none 0 0) (.slice b n d)) w := by kernel_rfl
theorem exec_lawAsk {ρ : Operand → Value} {o : Oper} {w : World} (x1 x2 x3 x4 x5 x6 x7 x8 x9 x11 : Operand) (r : Rq) (b : Option Addr) (n d : Nat) (ho : o.op = .build 88 #[(1, x1), (2, x2), (3, x3), (4, x4), (5, x5), (6, x6), (7, x7), (8, x8), (9, x9), (11, x11)])
    (h1 : ρ x1 = .int .i64 r.dO) (h2 : ρ x2 = .string r.pa) (h3 : ρ x3 = .string r.tp) (h4 : ρ x4 = .bool r.di) (h5 : ρ x5 = .bool r.wr) (h6 : ρ x6 = .bool r.cz) (h7 : ρ x7 = .int .i64 r.ha) (h8 : ρ x8 = .int .i64 r.nx) (h9 : ρ x9 = .int .i64 r.sw) (h11 : ρ x11 = .slice b n d) :
    (execOp ρ o).run Try.prog w = .ok (.value (rqV ⟨0, 0, 0, r.dO, r.pa, r.tp, r.di, r.wr, r.cz, r.ha, r.nx, r.sw, r.ss, r.dl⟩ (.slice none 0 0) (.slice b n d))) w := by
  simp only [execOp, ho, List.map_toArray, List.map_cons, List.map_nil, h1, h2, h3, h4, h5, h6, h7, h8, h9, h11, Sem.run_bind, bld_lawAsk, Result.andThen_ok, Sem.run_pure]
theorem bld_rsz4 (x : Sz) (w : World) : (Instr.build 143 #[(0, .agg #[.int .i64 x.c, .int .i64 x.l, .int .i64 x.n]), (1, .int .i64 x.s)]).run Try.prog w = .ok (KSz.v x) w := by kernel_rfl
theorem exec_rsz4 {ρ : Operand → Value} {o : Oper} {w : World} (x0 x1 : Operand) (x : Sz) (ho : o.op = .build 143 #[(0, x0), (1, x1)]) (h0 : ρ x0 = .agg #[.int .i64 x.c, .int .i64 x.l, .int .i64 x.n]) (h1 : ρ x1 = .int .i64 x.s) : (execOp ρ o).run Try.prog w = .ok (.value (KSz.v x)) w := by
  simp only [execOp, ho, List.map_toArray, List.map_cons, List.map_nil, h0, h1, Sem.run_bind, bld_rsz4, Result.andThen_ok, Sem.run_pure]
theorem sp_put {w : World} {g : Nat} {A cs : Array Value} {T : TypeId} (a b c : Int) (h : w.heap[g]? = some (.cells A T (0, 0))) (e : ((A.setIfInBounds 0 (.int .i64 a)).setIfInBounds 1 (.int .i64 b)).setIfInBounds 2 (.int .i64 c) = cs) :
    (w.setCells g 0 [.int .i64 a, .int .i64 b, .int .i64 c]).heap[g]? = some (.cells cs T (0, 0)) ∧ Keeps [g] w (w.setCells g 0 [.int .i64 a, .int .i64 b, .int .i64 c]) := by
  have e0 : w.setCells g 0 [.int .i64 a, .int .i64 b, .int .i64 c] = ((w.setCell ⟨g, 0, none⟩ (.int .i64 a)).setCell ⟨g, 1, none⟩ (.int .i64 b)).setCell ⟨g, 2, none⟩ (.int .i64 c) := rfl
  rw [e0]
  refine ⟨?_, (set_keep.trans set_keep).trans set_keep⟩
  rw [← e]
  exact set_five (set_five (set_five h _) _) _
set_option maxHeartbeats 25600000 in
theorem lawAsked_any (w : World) (r : Rq) (v1 v2 : Value) (h1 : LsAt KSz w v1 r.ss) (h2 : LsAt KDl w v2 r.dl) (hl : r.ss.length ≤ 4000) : Calls Try.prog 46 #[rqV r v1 v2] w (CvQ w r v2) := by
  obtain ⟨av, cv, rfl⟩ := h1.shape
  obtain ⟨b, d, hv2⟩ := h2.shape
  obtain ⟨n, hn⟩ : ∃ z, z = r.dl.length := ⟨_, rfl⟩
  rw [← hn] at hv2
  subst hv2
  clear hn h2
  have FL := hid hl
  have H1 := hid h1
  have ka : Keeps [] w (((w.alloc (.cells (r.cells (.slice av r.ss.length cv) (.slice b n d)).toArray 82)).alloc (.cells (rqZ.cells (.slice none 0 0) (.slice none 0 0)).toArray 88)).alloc (.cells (rqZ.cells (.slice none 0 0) (.slice none 0 0)).toArray 88)) := (((Keeps.refl [] w).alloc _).alloc _).alloc _
  have RA := hid (krange_keep (krange_new w (r.cells (.slice av r.ss.length cv) (.slice b n d)) 82) ((Keeps.refl [] _).alloc (.cells (rqZ.cells (.slice none 0 0) (.slice none 0 0)).toArray 88)) (by simp))
  have kb : Keeps [] ((w.alloc (.cells (r.cells (.slice av r.ss.length cv) (.slice b n d)).toArray 82)).alloc (.cells (rqZ.cells (.slice none 0 0) (.slice none 0 0)).toArray 88)) (((w.alloc (.cells (r.cells (.slice av r.ss.length cv) (.slice b n d)).toArray 82)).alloc (.cells (rqZ.cells (.slice none 0 0) (.slice none 0 0)).toArray 88)).alloc (.cells (rqZ.cells (.slice none 0 0) (.slice none 0 0)).toArray 88)) := (Keeps.refl [] _).alloc _
  have FB0 := heap_alloc_new (w.alloc (.cells (r.cells (.slice av r.ss.length cv) (.slice b n d)).toArray 82)) (.cells (rqZ.cells (.slice none 0 0) (.slice none 0 0)).toArray 88)
  rw [World.size_alloc] at FB0
  have FB1 := (kb.block (w.heap.size + 1) (by simp) (by simp)).trans FB0
  have FC0 := heap_alloc_new ((w.alloc (.cells (r.cells (.slice av r.ss.length cv) (.slice b n d)).toArray 82)).alloc (.cells (rqZ.cells (.slice none 0 0) (.slice none 0 0)).toArray 88)) (.cells (rqZ.cells (.slice none 0 0) (.slice none 0 0)).toArray 88)
  rw [World.size_alloc, World.size_alloc] at FC0
  have RC := hid (krange_keep RA.out kb (by simp))
  obtain ⟨q1, q2⟩ := setRow_keepsN (cs := (Rq.cells ⟨0, 0, 0, r.dO, r.pa, r.tp, r.di, r.wr, r.cz, r.ha, r.nx, r.sw, r.ss, r.dl⟩ (.slice none 0 0) (.slice b n d)).toArray) FC0
  have RD := hid (krange_keep RC.out q2 (show w.heap.size ∉ [w.heap.size + 1 + 1] by simp; omega))
  have FZ := hid ((q2.block (w.heap.size + 1) (by simp) (by simp)).trans FB1)
  have FT := hid q1
  have FC := hid FC0
  have KW := hid (ka.trans' q2 (S := []) (fun i hi hm => by simp at hm; omega))
  have HS := hid (show w.heap.size + 2 < ((((w.alloc (.cells (r.cells (.slice av r.ss.length cv) (.slice b n d)).toArray 82)).alloc (.cells (rqZ.cells (.slice none 0 0) (.slice none 0 0)).toArray 88)).alloc (.cells (rqZ.cells (.slice none 0 0) (.slice none 0 0)).toArray 88)).setRow (w.heap.size + 1 + 1) (Rq.cells ⟨0, 0, 0, r.dO, r.pa, r.tp, r.di, r.wr, r.cz, r.ha, r.nx, r.sw, r.ss, r.dl⟩ (.slice none 0 0) (.slice b n d)).toArray).heap.size by have := q2.size; simp at this ⊢; try omega)
  clear q1 q2 FC0 FB1 FB0 ka kb h1
  have c0 := ask_cell RA.out (show _ = some (.int .i64 r.cl) from rfl) (j := 0)
  have c1 := ask_cell RA.out (show _ = some (.int .i64 r.lf) from rfl) (j := 1)
  have c2 := ask_cell RA.out (show _ = some (.int .i64 r.sq) from rfl) (j := 2)
  have c3 := ask_cell RA.out (show _ = some (.int .i64 r.dO) from rfl) (j := 3)
  have c4 := ask_cell RA.out (show _ = some (.string r.pa) from rfl) (j := 4)
  have c5 := ask_cell RA.out (show _ = some (.string r.tp) from rfl) (j := 5)
  have c6 := ask_cell RA.out (show _ = some (.bool r.di) from rfl) (j := 6)
  have c7 := ask_cell RA.out (show _ = some (.bool r.wr) from rfl) (j := 7)
  have c8 := ask_cell RA.out (show _ = some (.bool r.cz) from rfl) (j := 8)
  have c9 := ask_cell RA.out (show _ = some (.int .i64 r.ha) from rfl) (j := 9)
  have c10 := ask_cell RA.out (show _ = some (.int .i64 r.nx) from rfl) (j := 10)
  have c11 := ask_cell RA.out (show _ = some (.int .i64 r.sw) from rfl) (j := 11)
  have c13 := ask_cell RA.out (show _ = some (.slice b n d) from rfl) (j := 13)
  go_enter Try.func46, Try.ntmps46
  go_wp2_with (first | (refine wpList_is rfl _ _ (exec_box 82 _ (r.cells (.slice av r.ss.length cv) (.slice b n d)).toArray rfl rfl) ?_) | (refine wpList_is rfl _ _ (exec_alloc 88 (rqZ.cells (.slice none 0 0) (.slice none 0 0)).toArray irReq rfl) ?_; try simp only [World.size_alloc]) | (refine wpList_is rfl _ _ (exec_lawAsk _ _ _ _ _ _ _ _ _ _ r b n d rfl rfl rfl rfl rfl rfl rfl rfl rfl rfl rfl) ?_) | (refine wpList_noval rfl _ (exec_storeWhole 88 _ _ rfl (w.heap.size + 1 + 1) (rqZ.cells (.slice none 0 0) (.slice none 0 0)).toArray (Rq.cells ⟨0, 0, 0, r.dO, r.pa, r.tp, r.di, r.wr, r.cz, r.ha, r.nx, r.sw, r.ss, r.dl⟩ (.slice none 0 0) (.slice b n d)) FC.out rfl rfl rfl (by kernel_rfl) (one_rq _ _ _ _ _ _ _)) ?_; refine Hid.out ?_) | fail)
  refine hid ?_
  clear FC RA RC c0 c1 c2 c3 c4 c5 c6 c7 c8 c9 c10 c11 c13
  obtain ⟨W, hW⟩ : ∃ z, z = (((w.alloc (.cells (r.cells (.slice av r.ss.length cv) (.slice b n d)).toArray 82)).alloc (.cells (rqZ.cells (.slice none 0 0) (.slice none 0 0)).toArray 88)).alloc (.cells (rqZ.cells (.slice none 0 0) (.slice none 0 0)).toArray 88)).setRow (w.heap.size + 1 + 1) (Rq.cells ⟨0, 0, 0, r.dO, r.pa, r.tp, r.di, r.wr, r.cz, r.ha, r.nx, r.sw, r.ss, r.dl⟩ (.slice none 0 0) (.slice b n d)).toArray := ⟨_, rfl⟩
  rw [← hW] at RD FZ FT KW HS ⊢
  clear hW
  obtain ⟨n0, hn0⟩ : ∃ z, z = w.heap.size := ⟨_, rfl⟩
  obtain ⟨n1, hn1⟩ : ∃ z, z = w.heap.size + 1 := ⟨_, rfl⟩
  obtain ⟨n2, hn2⟩ : ∃ z, z = w.heap.size + 1 + 1 := ⟨_, rfl⟩
  have NN := hid (show n0 = w.heap.size ∧ n1 = n0 + 1 ∧ n2 = n0 + 2 by omega)
  rw [← hn2] at FT ⊢
  rw [← hn1] at FZ ⊢
  rw [← hn0] at RD ⊢
  clear hn0 hn1 hn2
  have d0 := ask_cell RD.out (show _ = some (.int .i64 r.cl) from rfl) (j := 0)
  have d1 := ask_cell RD.out (show _ = some (.int .i64 r.lf) from rfl) (j := 1)
  have d2 := ask_cell RD.out (show _ = some (.int .i64 r.sq) from rfl) (j := 2)
  have TH := hid (there_ofN FT.out 0 3 (by show 0 + 3 ≤ 14; decide))
  go_upto_region 2 with fail
  refine wp_region_lit ?_
  refine wpList_is rfl (.pointer (some ⟨n0, 0, none⟩)) W (by go_simp) ?_
  simp only [Act.put, List.setIfInBounds_toArray, List.set_cons_zero, List.set_cons_succ]
  refine wpList_is rfl (.pointer (some ⟨n0, 0, none⟩)) W (by go_simp) ?_
  simp only [Act.put, List.setIfInBounds_toArray, List.set_cons_zero, List.set_cons_succ]
  refine wpList_is rfl (.int .i64 r.cl) W (exec_load _ _ _ _ rfl rfl (run_loadCell W _ _ _ d0 (agg_no _ (by kernel_rfl)))) ?_
  simp only [Act.put, List.setIfInBounds_toArray, List.set_cons_zero, List.set_cons_succ]
  refine wpList_is rfl (.pointer (some ⟨n0, 0, none⟩)) W (by go_simp) ?_
  simp only [Act.put, List.setIfInBounds_toArray, List.set_cons_zero, List.set_cons_succ]
  refine wpList_is rfl (.pointer (some ⟨n0, 1, none⟩)) W (by go_simp) ?_
  simp only [Act.put, List.setIfInBounds_toArray, List.set_cons_zero, List.set_cons_succ]
  refine wpList_is rfl (.int .i64 r.lf) W (exec_load _ _ _ _ rfl rfl (run_loadCell W _ _ _ d1 (agg_no _ (by kernel_rfl)))) ?_
  simp only [Act.put, List.setIfInBounds_toArray, List.set_cons_zero, List.set_cons_succ]
  refine wpList_is rfl (.pointer (some ⟨n0, 0, none⟩)) W (by go_simp) ?_
  simp only [Act.put, List.setIfInBounds_toArray, List.set_cons_zero, List.set_cons_succ]
  refine wpList_is rfl (.pointer (some ⟨n0, 2, none⟩)) W (by go_simp) ?_
  simp only [Act.put, List.setIfInBounds_toArray, List.set_cons_zero, List.set_cons_succ]
  refine wpList_is rfl (.int .i64 r.sq) W (exec_load _ _ _ _ rfl rfl (run_loadCell W _ _ _ d2 (agg_no _ (by kernel_rfl)))) ?_
  simp only [Act.put, List.setIfInBounds_toArray, List.set_cons_zero, List.set_cons_succ]
  refine wpList_is rfl _ _ (exec_sp3 _ _ _ r.cl r.lf r.sq rfl rfl rfl rfl) ?_
  simp only [Act.put, List.setIfInBounds_toArray, List.set_cons_zero, List.set_cons_succ]
  refine wpList_is rfl (.pointer (some ⟨n2, 0, none⟩)) W (by go_simp) ?_
  simp only [Act.put, List.setIfInBounds_toArray, List.set_cons_zero, List.set_cons_succ]
  refine wpList_noval rfl _ (exec_storeMid 85 _ _ rfl n2 0 #[.int .i64 r.cl, .int .i64 r.lf, .int .i64 r.sq] rfl rfl TH.out iSp (all_one (one_st r.cl r.lf r.sq))) ?_
  simp only [Act.put]
  clear d0 d1 d2 TH
  obtain ⟨f1, k1⟩ := sp_put (cs := (r.cells (.slice none 0 0) (.slice b n d)).toArray) r.cl r.lf r.sq FT.out rfl
  obtain ⟨W2, hW2⟩ : ∃ z, z = W.setCells n2 0 [.int .i64 r.cl, .int .i64 r.lf, .int .i64 r.sq] := ⟨_, rfl⟩
  have hs2 : W.heap.size ≤ W2.heap.size := by rw [hW2]; exact k1.size
  change wpList _ _ _ _ _ (W.setCells n2 0 [.int .i64 r.cl, .int .i64 r.lf, .int .i64 r.sq])
  rw [← hW2] at f1 k1 ⊢
  have RD2 := hid (krange_keep RD.out k1 (by have := NN.out; simp; omega))
  have FZ2 := hid ((k1.block n1 (by have := HS.out; have := NN.out; omega) (by have := NN.out; simp; omega)).trans FZ.out)
  have FT2 := hid f1
  have KW2 := hid (KW.out.trans' k1 (S := []) (fun i hi hm => by simp at hm; have := NN.out; omega))
  have HS2 := hid (show w.heap.size + 2 < W2.heap.size by have := HS.out; omega)
  clear RD FZ FT KW HS f1 k1 hW2 hs2
  have RD := RD2
  have FZ := FZ2
  have FT := FT2
  have KW := KW2
  have HS := HS2
  clear RD2 FZ2 FT2 KW2 HS2
  obtain ⟨W, hW⟩ : ∃ z, z = W2 := ⟨_, rfl⟩
  rw [← hW] at RD FZ FT KW HS ⊢
  clear hW
  go_wp2_with fail
  go_loopw [4] (fun iv wr => ∃ (i : Nat) (ao : Option Addr) (co : Nat), iv = .int .i64 (i : Int) ∧ i ≤ r.ss.length ∧ Hid (OwnT KSz 143 wr W.heap.size (.slice ao i co) (r.ss.take i)) ∧ Hid (wr.heap[n2]? = some (.cells (r.cells (.slice ao i co) (.slice b n d)).toArray 88 (0, 0))) ∧ Hid (Keeps [n2] W wr)) (fun iv _ => r.ss.length - (intOf iv).toNat)
  case atStart => exact ⟨0, none, 0, rfl, by omega, hid (OwnT.nil _ _ _ _), FT, hid (Keeps.refl _ _)⟩
  case round =>
    obtain ⟨i, ao, co, rfl, hi, HO, HF, HK⟩ := hrel
    have HNE := hid (show n0 ∉ [n2] ∧ n1 ∉ [n2] by have := NN.out; simp; omega)
    have RW := hid (krange_keep RD.out HK.out HNE.out.1)
    have ca := ask_cell RW.out (show _ = some (.slice av r.ss.length cv) from rfl) (j := 12)
    have HZW := hid HK.out.size
    by_cases hlt : i < r.ss.length
    · obtain ⟨g, off, e1, hg, R0⟩ := H1.out.at i hlt
      subst e1
      obtain ⟨x, hx⟩ : ∃ x, x = r.ss[i]'hlt := ⟨_, rfl⟩
      rw [← hx] at R0
      have HX := hid hx
      have HG := hid (show g < wr.heap.size by have := KW.out.size; have := HZW.out; omega)
      have OB := hid (show ∀ k ∈ (Value.slice ao i co).ownBlock.toList, W.heap.size ≤ k ∧ k < wr.heap.size from fun k hk => HO.out.blk k (by simpa using hk))
      have R := hid (krange_keep (krange_keep R0 KW.out (by simp)) HK.out (show g ∉ [n2] by have := NN.out; simp; omega))
      have NG := hid (show g ∉ (Value.slice ao i co).ownBlock.toList from fun hm => by have := (OB.out g hm).1; have := KW.out.size; omega)
      have N0 := hid (show n0 ∉ (Value.slice ao i co).ownBlock.toList from fun hm => by have := (OB.out n0 hm).1; have := HS.out; have := NN.out; omega)
      have N2 := hid (show n2 ∉ (Value.slice ao i co).ownBlock.toList from fun hm => by have := (OB.out n2 hm).1; have := HS.out; have := NN.out; omega)
      have HLT := hid hlt
      have L0 := hid (show n0 < wr.heap.size ∧ n2 < wr.heap.size by have := HS.out; have := HZW.out; have := NN.out; omega)
      obtain ⟨cc, ff⟩ := five_cells HF.out 12
      change wr.cell? ⟨n2, 12, none⟩ = some (.slice ao i co) at cc
      have CC := hid cc
      have CA := hid ca
      clear R0 hx hg cc ff
      go_wp2_with fail
      refine wp_region_any (by kernel_rfl) (wpAny_of_late (late := [18]) (S := KpS (Value.slice ao i co).ownBlock.toList wr.heap.size wr.drew) _ _ _ _ ?_)
      change wpAnyT _ _ _ _ _ _ _ _ _ wr.drew
      have cA : ∀ W1, KpS (Value.slice ao i co).ownBlock.toList wr.heap.size wr.drew W1 → W1.cell? ⟨n0, 12, none⟩ = some (.slice (some ⟨g, off, none⟩) r.ss.length cv) := fun W1 h => h.cell (by rw [World.cell?_drew]; exact CA.out) L0.out.1 N0.out
      have cT : ∀ W1, KpS (Value.slice ao i co).ownBlock.toList wr.heap.size wr.drew W1 → W1.cell? ⟨n2, 12, none⟩ = some (.slice ao i co) := fun W1 h => h.cell (by rw [World.cell?_drew]; exact CC.out) L0.out.2 N2.out
      have cR : ∀ W1, KpS (Value.slice ao i co).ownBlock.toList wr.heap.size wr.drew W1 → W1.rangeAt g (off + i * 4) (KSz.cells x) := fun W1 h j u hu => h.cell (by rw [World.cell?_drew]; exact R.out j u hu) HG.out NG.out
      refine late_take (i := 0) (v := .pointer (some ⟨n2, 12, none⟩)) rfl (by kernel_rfl) (by kernel_rfl) (by kernel_rfl) (by kernel_rfl) (by kernel_rfl) (fun _ _ _ h => h) rfl (fun W1 hW1 => by go_simp) (KpS.refl _ _ _) ?_
      simp only [Act.put, List.setIfInBounds_toArray, List.set_cons_zero, List.set_cons_succ]
      refine late_take (i := 1) (v := .slice ao i co) rfl (by kernel_rfl) (by kernel_rfl) (by kernel_rfl) (by kernel_rfl) (by kernel_rfl) (fun _ _ _ h => h) rfl (fun W1 hW1 => exec_load _ _ _ _ rfl rfl (run_loadCell W1 _ _ _ (cT W1 hW1) (agg_no _ (by kernel_rfl)))) (KpS.refl _ _ _) ?_
      simp only [Act.put, List.setIfInBounds_toArray, List.set_cons_zero, List.set_cons_succ]
      refine late_take (i := 2) (v := .pointer (some ⟨n0, 12, none⟩)) rfl (by kernel_rfl) (by kernel_rfl) (by kernel_rfl) (by kernel_rfl) (by kernel_rfl) (fun _ _ _ h => h) rfl (fun W1 hW1 => by go_simp) (KpS.refl _ _ _) ?_
      simp only [Act.put, List.setIfInBounds_toArray, List.set_cons_zero, List.set_cons_succ]
      refine late_take (i := 3) (v := .slice (some ⟨g, off, none⟩) r.ss.length cv) rfl (by kernel_rfl) (by kernel_rfl) (by kernel_rfl) (by kernel_rfl) (by kernel_rfl) (fun _ _ _ h => h) rfl (fun W1 hW1 => exec_load _ _ _ _ rfl rfl (run_loadCell W1 _ _ _ (cA W1 hW1) (agg_no _ (by kernel_rfl)))) (KpS.refl _ _ _) ?_
      simp only [Act.put, List.setIfInBounds_toArray, List.set_cons_zero, List.set_cons_succ]
      refine late_take (i := 4) (v := .int .i64 (i : Int)) rfl (by kernel_rfl) (by kernel_rfl) (by kernel_rfl) (by kernel_rfl) (by kernel_rfl) (fun _ _ _ h => h) rfl (fun W1 hW1 => rfl) (KpS.refl _ _ _) ?_
      simp only [Act.put, List.setIfInBounds_toArray, List.set_cons_zero, List.set_cons_succ]
      refine late_take (i := 5) (v := .pointer (some ⟨g, off + i * 4, none⟩)) rfl (by kernel_rfl) (by kernel_rfl) (by kernel_rfl) (by kernel_rfl) (by kernel_rfl) (fun _ _ _ h => h) rfl (fun W1 hW1 => by go_simp) (KpS.refl _ _ _) ?_
      simp only [Act.put, List.setIfInBounds_toArray, List.set_cons_zero, List.set_cons_succ]
      refine late_take (i := 6) (v := .pointer (some ⟨g, off + i * 4, none⟩)) rfl (by kernel_rfl) (by kernel_rfl) (by kernel_rfl) (by kernel_rfl) (by kernel_rfl) (fun _ _ _ h => h) rfl (fun W1 hW1 => by go_simp) (KpS.refl _ _ _) ?_
      simp only [Act.put, List.setIfInBounds_toArray, List.set_cons_zero, List.set_cons_succ]
      refine late_take (i := 7) (v := .agg #[.int .i64 x.c, .int .i64 x.l, .int .i64 x.n]) rfl (by kernel_rfl) (by kernel_rfl) (by kernel_rfl) (by kernel_rfl) (by kernel_rfl) (fun _ _ _ h => h) rfl (fun W1 hW1 => exec_load _ _ _ _ rfl rfl (load_st3 W1 g (off + i * 4) x (cR W1 hW1))) (KpS.refl _ _ _) ?_
      simp only [Act.put, List.setIfInBounds_toArray, List.set_cons_zero, List.set_cons_succ]
      refine late_take (i := 8) (v := .pointer (some ⟨n0, 12, none⟩)) rfl (by kernel_rfl) (by kernel_rfl) (by kernel_rfl) (by kernel_rfl) (by kernel_rfl) (fun _ _ _ h => h) rfl (fun W1 hW1 => by go_simp) (KpS.refl _ _ _) ?_
      simp only [Act.put, List.setIfInBounds_toArray, List.set_cons_zero, List.set_cons_succ]
      refine late_take (i := 9) (v := .slice (some ⟨g, off, none⟩) r.ss.length cv) rfl (by kernel_rfl) (by kernel_rfl) (by kernel_rfl) (by kernel_rfl) (by kernel_rfl) (fun _ _ _ h => h) rfl (fun W1 hW1 => exec_load _ _ _ _ rfl rfl (run_loadCell W1 _ _ _ (cA W1 hW1) (agg_no _ (by kernel_rfl)))) (KpS.refl _ _ _) ?_
      simp only [Act.put, List.setIfInBounds_toArray, List.set_cons_zero, List.set_cons_succ]
      refine late_take (i := 10) (v := .int .i64 (i : Int)) rfl (by kernel_rfl) (by kernel_rfl) (by kernel_rfl) (by kernel_rfl) (by kernel_rfl) (fun _ _ _ h => h) rfl (fun W1 hW1 => rfl) (KpS.refl _ _ _) ?_
      simp only [Act.put, List.setIfInBounds_toArray, List.set_cons_zero, List.set_cons_succ]
      refine late_take (i := 11) (v := .pointer (some ⟨g, off + i * 4, none⟩)) rfl (by kernel_rfl) (by kernel_rfl) (by kernel_rfl) (by kernel_rfl) (by kernel_rfl) (fun _ _ _ h => h) rfl (fun W1 hW1 => by go_simp) (KpS.refl _ _ _) ?_
      simp only [Act.put, List.setIfInBounds_toArray, List.set_cons_zero, List.set_cons_succ]
      refine late_take (i := 12) (v := .pointer (some ⟨g, off + i * 4 + 3, none⟩)) rfl (by kernel_rfl) (by kernel_rfl) (by kernel_rfl) (by kernel_rfl) (by kernel_rfl) (fun _ _ _ h => h) rfl (fun W1 hW1 => by go_simp) (KpS.refl _ _ _) ?_
      simp only [Act.put, List.setIfInBounds_toArray, List.set_cons_zero, List.set_cons_succ]
      refine late_take (i := 13) (v := .int .i64 x.s) rfl (by kernel_rfl) (by kernel_rfl) (by kernel_rfl) (by kernel_rfl) (by kernel_rfl) (fun _ _ _ h => h) rfl (fun W1 hW1 => exec_load _ _ _ _ rfl rfl (run_loadCell W1 _ _ _ (cR W1 hW1 3 _ rfl) (agg_no _ (by kernel_rfl)))) (KpS.refl _ _ _) ?_
      simp only [Act.put, List.setIfInBounds_toArray, List.set_cons_zero, List.set_cons_succ]
      refine late_take (i := 14) (v := KSz.v x) rfl (by kernel_rfl) (by kernel_rfl) (by kernel_rfl) (by kernel_rfl) (by kernel_rfl) (fun _ _ _ h => h) rfl (fun W1 hW1 => exec_rsz4 _ _ x rfl rfl rfl) (KpS.refl _ _ _) ?_
      simp only [Act.put, List.setIfInBounds_toArray, List.set_cons_zero, List.set_cons_succ]
      refine late_do (i := 15) (by kernel_rfl) rfl rfl (wp_value (exec_oneT rSz _ x rfl rfl) ?_)
      have kB : Keeps [] wr (wr.drew.alloc (.cells (KSz.cells x).toArray 143)) := (Keeps.refl [] wr).drew.alloc _
      have sB : KpS (Value.slice ao i co).ownBlock.toList wr.heap.size wr.drew (wr.drew.alloc (.cells (KSz.cells x).toArray 143)) := (KpS.refl _ _ _).alloc (by simp) _
      have oB := one_ls wr.drew x 143 (K := KSz)
      refine ⟨Or.inr sB, ?_⟩
      simp only [Act.put, List.setIfInBounds_toArray, List.set_cons_zero, List.set_cons_succ]
      have eS : wr.drew.heap.size = wr.heap.size := rfl
      rw [eS] at oB ⊢
      generalize wr.drew.alloc (.cells (KSz.cells x).toArray 143) = wB at kB sB oB ⊢
      have lt : (r.ss.take i).length = i := by rw [List.length_take]; have := HLT.out; omega
      have hzB := kB.size
      obtain ⟨a3, c3, wD, run2, o2, k2, _⟩ := append_ls rSz (HO.out.keep kB (by simp)) _ 1 1 oB (by rw [lt]; have := HLT.out; have := FL.out; simp; omega) (by have := HZW.out; omega) 86
      rw [lt] at run2 o2
      have sD : KpS (Value.slice ao i co).ownBlock.toList wr.heap.size wr.drew wD := sB.keeps k2 kB.size (fun j hj _ => hj)
      refine late_do (i := 16) (by kernel_rfl) rfl rfl (wp_value (exec_appendT 86 _ _ rfl rfl rfl run2) ?_)
      refine ⟨Or.inr sD, ?_⟩
      simp only [Act.put, List.setIfInBounds_toArray, List.set_cons_zero, List.set_cons_succ]
      refine late_take (i := 17) (v := .pointer (some ⟨n2, 12, none⟩)) rfl (by kernel_rfl) (by kernel_rfl) (by kernel_rfl) (by kernel_rfl) (by kernel_rfl) (fun _ _ _ h => h) rfl (fun W1 hW1 => by go_simp) (sD) ?_
      simp only [Act.put, List.setIfInBounds_toArray, List.set_cons_zero, List.set_cons_succ]
      have hD : wD.heap[n2]? = some (.cells (r.cells (.slice ao i co) (.slice b n d)).toArray 88 (0, 0)) := (k2.block n2 (by have := L0.out.2; omega) N2.out).trans ((kB.block n2 L0.out.2 (by simp)).trans HF.out)
      obtain ⟨cd, fd⟩ := five_cells hD 12
      change wD.cell? ⟨n2, 12, none⟩ = some (.slice ao i co) at cd
      refine late_do (i := 18) (by kernel_rfl) rfl rfl (wp_stored (w' := wD.setCell ⟨n2, 12, none⟩ (.slice a3 (i + 1) c3)) (by go_simp) ⟨Or.inl rfl, ?_⟩)
      simp only [Act.put]
      refine wpAnyT_done (by kernel_rfl) ?_ _
      have J := set_five (i := 12) hD (.slice a3 (i + 1) c3)
      have sk : Keeps [n2] wD (wD.setCell ⟨n2, 12, none⟩ (.slice a3 (i + 1) c3)) := set_keep
      have kD : Keeps [] W wr → True := fun _ => trivial
      have O9 : Hid (OwnT KSz 143 (wD.setCell ⟨n2, 12, none⟩ (.slice a3 (i + 1) c3)) W.heap.size (.slice a3 (i + 1) c3) (r.ss.take (i + 1))) := hid (by
        rw [List.take_succ_eq_append_getElem HLT.out, ← HX.out]
        exact o2.keep sk (fun k hk => by simp at hk; subst hk; have := HS.out; have := NN.out; omega))
      have F9 : Hid ((wD.setCell ⟨n2, 12, none⟩ (.slice a3 (i + 1) c3)).heap[n2]? = some (.cells (r.cells (.slice a3 (i + 1) c3) (.slice b n d)).toArray 88 (0, 0))) := hid J
      have K9 : Hid (Keeps [n2] W (wD.setCell ⟨n2, 12, none⟩ (.slice a3 (i + 1) c3))) := hid (((HK.out.trans (kB.mono (by simp))).trans' k2 (fun j hj hm => by have := (OB.out j (by simpa using hm)).1; omega)).trans sk)
      clear cA cT cR kB sB oB eS lt run2 o2 k2 sD hD cd fd J sk kD hzB CC CA ca
      generalize wD.setCell ⟨n2, 12, none⟩ (.slice a3 (i + 1) c3) = wE at O9 F9 K9 ⊢
      go_wp2_with fail
      go_roundw
      case rel => exact ⟨i + 1, a3, c3, by go_num, by have := HLT.out; omega, O9, F9, K9⟩
      case measure => have := HLT.out; simp [intOf]; omega
    · obtain rfl : i = r.ss.length := by omega
      have RT := hid (range_ofN HF.out rfl)
      have FB := hid ((HK.out.block n1 (by have := HS.out; have := NN.out; omega) HNE.out.2).trans FZ.out)
      obtain ⟨q1, q2⟩ := setRow_keepsN (cs := (r.cells (.slice ao r.ss.length co) (.slice b n d)).toArray) FB.out
      have Q1 := hid q1
      have Q2 := hid q2
      clear q1 q2
      go_wp2_with (first | (refine wpList_is rfl _ _ (exec_load 88 _ _ _ rfl rfl (loadRq 88 urReq srReq _ _ r _ _ RT.out)) ?_) | (refine wpList_noval rfl _ (exec_storeWhole 88 _ _ rfl n1 (rqZ.cells (.slice none 0 0) (.slice none 0 0)).toArray (r.cells (.slice ao r.ss.length co) (.slice b n d)) FB.out rfl rfl rfl (by kernel_rfl) (one_rq r _ _ _ _ _ _)) ?_) | fail)
      refine bodyPost_ret (one_ret (cs := r.cells (.slice ao r.ss.length co) (.slice b n d)) rfl urReq (by kernel_rfl) rfl (range_ofN Q1.out rfl)) rfl ?_
      have oo := (HO.out.keep Q2.out (fun k hk => by simp at hk; subst hk; have := HS.out; have := NN.out; omega)).at rSz
      rw [List.take_length] at oo
      exact ⟨ao, co, rfl, oo, (KW.out.trans' HK.out (fun k hk hm => by simp at hm; have := NN.out; omega)).trans' Q2.out (fun k hk hm => by simp at hm; have := NN.out; omega)⟩
end Go.Proofs.Ytoglcohdanpciaa


/- note: NoteAsks' walk. -/
namespace Go.Proofs.Ytoglcohdanpciaa
open Go.RowKit Go.Shelf
set_option maxRecDepth 100000
set_option linter.unusedSimpArgs false
set_option linter.unusedVariables false
/-- What decoding answers, in one: the request (the zero one where it may not be), to be read. -/
theorem DeQ.one {w : World} {y : Int} {r : Rq} {e : Ending} {w' : World} (h : DeQ w y r e w') : ∃ p : Rq, p = (if y = 0 then r else rqZ) ∧ ∃ a c b d, e = .returned (.tuple #[rqV p (.slice a p.ss.length c) (.slice b p.dl.length d), .int .i64 y]) ∧ LsAt KSz w' (.slice a p.ss.length c) p.ss ∧ LsAt KDl w' (.slice b p.dl.length d) p.dl ∧ Keeps [] w w' := by
  obtain ⟨k, ⟨hy, v1, v2, he, ho, hd⟩ | ⟨hy, he⟩⟩ := h
  · obtain ⟨a, c, hs⟩ := ho.shape
    obtain ⟨b, d, ht⟩ := hd.shape
    subst hs
    subst ht
    exact ⟨r, by rw [if_pos hy], a, c, b, d, by rw [he, hy], ho.at cSz, hd.at cDl, k⟩
  · exact ⟨rqZ, by rw [if_neg hy], none, 0, none, 0, he, LsAt.nil _ _, LsAt.nil _ _, k⟩
theorem RDeQ.one {w : World} {y : Int} {r : Rq} {e : Ending} {w' : World} (h : RDeQ w y r e w') : ∃ p : Rq, p = (if y = 0 then r else rqZ) ∧ ∃ a c b d, e = .returned (.tuple #[rqV p (.slice a p.ss.length c) (.slice b p.dl.length d), .int .i64 y]) ∧ LsAt KSz w' (.slice a p.ss.length c) p.ss ∧ LsAt KDl w' (.slice b p.dl.length d) p.dl ∧ Keeps [] w w' := by
  obtain ⟨k, ⟨hy, a, c, b, d, he, hl, hr⟩ | ⟨hy, he⟩⟩ := h
  · exact ⟨r, by rw [if_pos hy], a, c, b, d, by rw [he, hy], hl, hr, k⟩
  · exact ⟨rqZ, by rw [if_neg hy], none, 0, none, 0, he, LsAt.nil _ _, LsAt.nil _ _, k⟩
theorem ask_small {zs : List Int} (hb : Byt zs) (hl : zs.length ≤ 4000) {p : Rq} (hp : p = (if decW rqC zs = 0 then (rqC.g (zs, 0)).1 else rqZ)) : p.ss.length ≤ 4000 ∧ p.pa.size ≤ 4000 ∧ p.tp.size ≤ 4000 := by
  by_cases h : decW rqC zs = 0
  · rw [if_pos h] at hp
    obtain ⟨e, hf⟩ := b_dec rqC_ok hb h
    rw [← hp] at e hf
    have e2 : zs.length = (rqC.b p).length := by rw [← e]
    have e3 : rqC.b p = (be p.cl 1 ++ (be p.lf 3 ++ (be p.sq 4 ++ (be p.dO 1 ++ ((be p.pa.size 2 ++ codes p.pa) ++ ((be p.tp.size 2 ++ codes p.tp) ++ (be (bitI p.di) 1 ++ (be (bitI p.wr) 1 ++ (be (bitI p.cz) 1 ++ (be p.ha 1 ++ (be p.nx 4 ++ (be p.sw 3 ++ ((be p.ss.length 2 ++ p.ss.flatMap szC.b) ++ (be p.dl.length 2 ++ p.dl.flatMap bytesD)))))))))))))) := rfl
    rw [e3] at e2
    simp only [List.length_append, codes_length] at e2
    obtain ⟨f1, f2, f3, f4, f5, f6, f7, f8, f9, fa, fb, fc, fd, fe⟩ := id hf
    have hs : p.ss.length ≤ 4000 := fd.1
    omega
  · rw [if_neg h] at hp
    rw [hp]
    exact ⟨Nat.zero_le _, Nat.zero_le _, Nat.zero_le _⟩
theorem encQ_bad {r : Rq} (h : (encQ r).2 ≠ 0) : (encQ r).1 = [] := by
  unfold encQ at h ⊢
  by_cases h1 : okDo r.dO = false
  · rw [if_pos h1]
  · rw [if_neg h1] at h ⊢
    by_cases h2 : badL r.dl = true
    · rw [if_pos h2]
    · rw [if_neg h2] at h ⊢
      by_cases h3 : 4000 < r.ss.length ∨ 4000 < r.dl.length
      · rw [if_pos h3]
      · rw [if_neg h3] at h ⊢
        unfold endS at h ⊢
        exact if_neg h
set_option maxHeartbeats 51200000 in
theorem asks16_any (w : World) (r : Rq) (v1 v2 u : Value) (bs : List Int) (hr : LsAt KSz w v1 r.ss) (mr : LsAt KDl w v2 r.dl) (hb : RowAt w u bs) :
    Calls Try.prog 12 #[rqV r v1 v2, u] w (PBn w true) := by
  have F4 := fits_row hb
  unfold maxLen at F4
  obtain ⟨ab, cb, rfl⟩ : ∃ a c, u = .slice a bs.length c := by obtain ⟨a, c, e, _⟩ := hb; exact ⟨a, c, e⟩
  have ka : Keeps [] w (w.alloc (.cells (r.cells v1 v2).toArray 88)) := (Keeps.refl [] w).alloc _
  have RA := hid (krange_new w (r.cells v1 v2) 88)
  have KA := hid ka
  have HR := hid (hr.keep ka)
  have MR := hid (mr.keep ka)
  have HB := hid (hb.keep ka (by intro _ _ _ _ _; simp))
  clear hr mr hb ka
  go_enter Try.func12, Try.ntmps12
  go_wp2_with (first | (refine wpList_is rfl _ _ (exec_box 88 _ (r.cells v1 v2).toArray rfl rfl) ?_; refine Hid.out ?_) | fail)
  refine hid ?_
  obtain ⟨W, hW⟩ : ∃ z, z = w.alloc (.cells (r.cells v1 v2).toArray 88) := ⟨_, rfl⟩
  obtain ⟨ba, hba⟩ : ∃ z, z = w.heap.size := ⟨_, rfl⟩
  have LTA := hid (show ba < W.heap.size by rw [hba, hW]; simp)
  rw [← hW] at RA KA HR MR HB ⊢
  rw [← hba] at RA ⊢
  clear hW hba
  go_wp2_with fail
  refine (awake16_any W).mono ?_
  rintro e w0 ⟨rfl, k1⟩
  have K0 := hid k1
  clear k1
  have RA0 := hid (krange_keep RA.out K0.out (by simp))
  go_wp2_with (first | (refine wpList_is rfl _ _ (exec_load _ _ _ _ rfl rfl (loadRq 88 urReq srReq _ ba r v1 v2 RA0.out)) ?_) | fail)
  refine (smallQ_any w0 r v1 v2 (HR.out.keep K0.out) (MR.out.keep K0.out)).mono ?_
  rintro e w1 ⟨z, rfl, hz, k1⟩
  have K1 := hid (K0.out.trans k1)
  clear k1
  cases z
  case false =>
    clear hz
    go_wp2_with fail
    go_ret
    exact ⟨rfl, KA.out.trans K1.out⟩
  obtain ⟨p1, p2, p3, p4⟩ := hz.1 rfl
  have P1 := hid p1
  have P2 := hid p2
  have P3 := hid p3
  have P4 := hid p4
  clear hz p1 p2 p3 p4
  by_cases o2 : bs.length ≤ 4000
  case neg =>
    have d2 : decide ((4000 : Int) < (bs.length : Int)) = true := by simp; omega
    go_wp2_with fail
    go_ret
    exact ⟨rfl, KA.out.trans K1.out⟩
  have d2 : decide ((4000 : Int) < (bs.length : Int)) = false := by simp; omega
  have B1 := hid o2
  clear o2
  -- the code's and the reference's bytes
  have RA1 := hid (krange_keep RA.out K1.out (by simp))
  go_wp2_with (first | (refine wpList_is rfl _ _ (exec_load _ _ _ _ rfl rfl (loadRq 88 urReq srReq _ ba r v1 v2 RA1.out)) ?_) | fail)
  clear d2
  refine (lawRequest_any w1 r v1 v2 (HR.out.keep K1.out) (MR.out.keep K1.out) P3.out).mono ?_
  rintro e w2 ⟨aa0, ac0, rfl, la, k2⟩
  have K2 := hid (K1.out.trans k2)
  have LA0 := hid la
  clear k2 la
  go_wp2_with fail
  refine (ntEnc_any w2 r _ v2 LA0.out (MR.out.keep K2.out) (by have := P1.out; omega) (by have := P2.out; omega)).mono ?_
  rintro e w3 ⟨k3, a4, c4, rfl, r3, _⟩
  have K3 := hid (K2.out.trans k3)
  obtain ⟨e1, he1⟩ : ∃ z, z = (encQ r).2 := ⟨_, rfl⟩
  obtain ⟨bl, hbl⟩ : ∃ z, z = (encQ r).1 := ⟨_, rfl⟩
  rw [← hbl] at r3 ⊢
  rw [← he1]
  have R3 := hid r3
  have RA3 := hid (krange_keep RA.out K3.out (by simp))
  have HE1 := hid he1
  have HBL1 := hid hbl
  clear r3 k3 he1 hbl LA0
  go_wp2_with (first | (refine wpList_is rfl _ _ (exec_load _ _ _ _ rfl rfl (loadRq 88 urReq srReq _ ba r v1 v2 RA3.out)) ?_) | fail)
  refine (rnEnc_any w3 r v1 v2 (HR.out.keep K3.out) (MR.out.keep K3.out) (by have := P1.out; omega) (by have := P2.out; omega)).mono ?_
  rw [encQ_both]
  rintro e w4 ⟨a5, c5, rfl, r5, _, k5⟩
  rw [← HBL1.out] at r5 ⊢
  rw [← HE1.out]
  have K4 := hid (K3.out.trans k5)
  have R4 := hid (R3.out.keep k5 (by intro _ _ _ _ _; simp))
  have S4 := hid r5
  have B4 := hid (HB.out.keep K4.out (by intro _ _ _ _ _; simp))
  have HBL := hid (show bl.length ≤ 60000 from by
    rw [HBL1.out]
    by_cases h : (encQ r).2 = 0
    · rw [(encQ_ok h).1]
      exact rqB_len P1.out P2.out (by have := P3.out; omega) (by have := P4.out; omega)
    · rw [show (encQ r).1 = [] from encQ_bad h]
      exact Nat.zero_le _)
  clear r5 k5
  -- both read the bytes
  obtain ⟨y, hy⟩ : ∃ z, z = decW rqC bs := ⟨_, rfl⟩
  obtain ⟨gr, hgr⟩ : ∃ z, z = (rqC.g (bs, 0)).1 := ⟨_, rfl⟩
  have A5 := hid (decQ_any w4 _ bs B4.out (by have := B1.out; omega))
  rw [← hy, ← hgr] at A5
  have HY := hid hy
  have HGR := hid hgr
  clear hy hgr
  go_wp2_with fail
  refine A5.out.mono ?_
  rintro e w5 h5
  obtain ⟨p, hp, aa, cc, bb, dd, rfl, l5, m5, k5⟩ := h5.one
  have HP := hid hp
  have K5 := hid (K4.out.trans k5)
  have R5 := hid (R4.out.keep k5 (by intro _ _ _ _ _; simp))
  have S5 := hid (S4.out.keep k5 (by intro _ _ _ _ _; simp))
  have B5 := hid (B4.out.keep k5 (by intro _ _ _ _ _; simp))
  have LP5 := hid l5
  have MP5 := hid m5
  clear h5 hp l5 m5 k5 A5
  go_wp2_with (first | (refine wpList_is rfl _ _ (exec_alloc 82 (rqZ.cells (.slice none 0 0) (.slice none 0 0)).toArray iReq rfl) ?_) | (refine wpList_noval rfl _ (exec_storeNew 82 _ _ rfl w5 (rqZ.cells (.slice none 0 0) (.slice none 0 0)).toArray (p.cells (.slice aa p.ss.length cc) (.slice bb p.dl.length dd)).toArray rfl rfl rfl iReq rfl (all_one (one_rq _ _ _ _ _ _ _))) ?_; refine Hid.out ?_) | fail)
  refine hid ?_
  obtain ⟨w6, hw6⟩ : ∃ z, z = w5.alloc (.cells (p.cells (.slice aa p.ss.length cc) (.slice bb p.dl.length dd)).toArray 82) := ⟨_, rfl⟩
  obtain ⟨bp, hbp⟩ : ∃ z, z = w5.heap.size := ⟨_, rfl⟩
  have RP := krange_new w5 (p.cells (.slice aa p.ss.length cc) (.slice bb p.dl.length dd)) 82
  rw [← hw6, ← hbp] at RP
  have RP := hid RP
  have LP := hid (show bp < w6.heap.size by rw [hw6, hbp]; simp)
  have k6 : Keeps [] w5 w6 := by rw [hw6]; exact (Keeps.refl [] w5).alloc _
  rw [← hw6, ← hbp]
  clear hw6 hbp
  have K6 := hid (K5.out.trans k6)
  have R6 := hid (R5.out.keep k6 (by intro _ _ _ _ _; simp))
  have S6 := hid (S5.out.keep k6 (by intro _ _ _ _ _; simp))
  have B6 := hid (B5.out.keep k6 (by intro _ _ _ _ _; simp))
  have LP6 := hid (LP5.out.keep k6)
  have MP6 := hid (MP5.out.keep k6)
  clear k6
  have A7 := hid (rnDec_any w6 _ bs B6.out (by have := B1.out; omega))
  rw [← HY.out, ← HGR.out] at A7
  go_wp2_with fail
  refine A7.out.mono ?_
  rintro e w7 h7
  obtain ⟨p2, hp2, aq, cq, bq, dq, rfl, l7, m7, k7⟩ := h7.one
  obtain rfl : p2 = p := by rw [hp2, HP.out]
  have K7 := hid (K6.out.trans k7)
  have R7 := hid (R6.out.keep k7 (by intro _ _ _ _ _; simp))
  have S7 := hid (S6.out.keep k7 (by intro _ _ _ _ _; simp))
  have B7 := hid (B6.out.keep k7 (by intro _ _ _ _ _; simp))
  have LP7 := hid (LP6.out.keep k7)
  have MP7 := hid (MP6.out.keep k7)
  have RP7 := hid (krange_keep RP.out k7 (by simp))
  have LPA := hid (Nat.lt_of_lt_of_le LP.out k7.size)
  have LT7 := hid l7
  have MT7 := hid m7
  clear h7 hp2 l7 m7 k7 A7
  go_wp2_with (first | (refine wpList_is rfl _ _ (exec_alloc 88 (rqZ.cells (.slice none 0 0) (.slice none 0 0)).toArray irReq rfl) ?_) | (refine wpList_noval rfl _ (exec_storeNew 88 _ _ rfl w7 (rqZ.cells (.slice none 0 0) (.slice none 0 0)).toArray (p2.cells (.slice aq p2.ss.length cq) (.slice bq p2.dl.length dq)).toArray rfl rfl rfl irReq rfl (all_one (one_rq _ _ _ _ _ _ _))) ?_; refine Hid.out ?_) | fail)
  refine hid ?_
  obtain ⟨w8, hw8⟩ : ∃ z, z = w7.alloc (.cells (p2.cells (.slice aq p2.ss.length cq) (.slice bq p2.dl.length dq)).toArray 88) := ⟨_, rfl⟩
  obtain ⟨bt, hbt⟩ : ∃ z, z = w7.heap.size := ⟨_, rfl⟩
  have RT := krange_new w7 (p2.cells (.slice aq p2.ss.length cq) (.slice bq p2.dl.length dq)) 88
  rw [← hw8, ← hbt] at RT
  have RT := hid RT
  have LT8 := hid (show bt < w8.heap.size by rw [hw8, hbt]; simp)
  have k8 : Keeps [] w7 w8 := by rw [hw8]; exact (Keeps.refl [] w7).alloc _
  rw [← hw8, ← hbt]
  clear hw8 hbt
  have K8 := hid (K7.out.trans k8)
  have R8 := hid (R7.out.keep k8 (by intro _ _ _ _ _; simp))
  have S8 := hid (S7.out.keep k8 (by intro _ _ _ _ _; simp))
  have B8 := hid (B7.out.keep k8 (by intro _ _ _ _ _; simp))
  have LP8 := hid (LP7.out.keep k8)
  have MP8 := hid (MP7.out.keep k8)
  have RP8 := hid (krange_keep RP7.out k8 (by simp))
  have LPB := hid (Nat.lt_of_lt_of_le LPA.out k8.size)
  have LT8B := hid (LT7.out.keep k8)
  have MT8 := hid (MT7.out.keep k8)
  clear k8
  have PM := hid (ask_small (zs := bs) HB.out.bytes B1.out (p := p2) (by rw [HP.out, HY.out, HGR.out]))
  obtain ⟨va, hva⟩ : ∃ z, z = Value.slice aa p2.ss.length cc := ⟨_, rfl⟩
  obtain ⟨vb, hvb⟩ : ∃ z, z = Value.slice bb p2.dl.length dd := ⟨_, rfl⟩
  obtain ⟨ua, hua⟩ : ∃ z, z = Value.slice aq p2.ss.length cq := ⟨_, rfl⟩
  obtain ⟨ub, hub⟩ : ∃ z, z = Value.slice bq p2.dl.length dq := ⟨_, rfl⟩
  rw [← hva] at RP8 LP8
  rw [← hvb] at RP8 MP8
  rw [← hua] at RT LT8B
  rw [← hub] at RT MT8
  clear hva hvb hua hub
  go_wp2_with fail
  refine wp_region_any (by kernel_rfl) (wpAny_of_held (S := KpS [] w8.heap.size w8.drew) _ _ _ _ ?_)
  change wpAnyH _ _ _ _ _ _ _ _ w8.drew
  have s0 : KpS [] w8.heap.size w8.drew w8.drew := KpS.refl _ _ _
  have cA : ∀ W1, KpS [] w8.heap.size w8.drew W1 → W1.rangeAt bp 0 (p2.cells va vb) := fun W1 h t u hu => h.cell (by rw [World.cell?_drew]; exact RP8.out t u hu) LPB.out (by simp)
  have cB : ∀ W1, KpS [] w8.heap.size w8.drew W1 → W1.rangeAt bt 0 (p2.cells ua ub) := fun W1 h t u hu => h.cell (by rw [World.cell?_drew]; exact RT.out t u hu) LT8.out (by simp)
  refine held_take (i := 0) (v := .int .i64 e1) rfl (by kernel_rfl) (by kernel_rfl) (by kernel_rfl) (fun _ _ _ h => h) rfl (fun W1 hW1 => rfl) (KpS.refl _ _ _) ?_
  simp only [Act.put, List.setIfInBounds_toArray, List.set_cons_zero, List.set_cons_succ]
  refine held_take (i := 1) (v := .int .i64 e1) rfl (by kernel_rfl) (by kernel_rfl) (by kernel_rfl) (fun _ _ _ h => h) rfl (fun W1 hW1 => rfl) (KpS.refl _ _ _) ?_
  simp only [Act.put, List.setIfInBounds_toArray, List.set_cons_zero, List.set_cons_succ]
  refine held_take (i := 2) (v := .bool false) rfl (by kernel_rfl) (by kernel_rfl) (by kernel_rfl) (fun _ _ _ h => h) rfl (fun W1 hW1 => by go_simp) (KpS.refl _ _ _) ?_
  simp only [Act.put, List.setIfInBounds_toArray, List.set_cons_zero, List.set_cons_succ]
  refine held_take (i := 3) (v := .bool false) rfl (by kernel_rfl) (by kernel_rfl) (by kernel_rfl) (fun _ _ _ h => h) rfl (fun W1 hW1 => by go_simp) (KpS.refl _ _ _) ?_
  simp only [Act.put, List.setIfInBounds_toArray, List.set_cons_zero, List.set_cons_succ]
  refine held_takeW (i := 4) (v := .slice a4 bl.length c4) rfl (by kernel_rfl) (by kernel_rfl) (by kernel_rfl) (fun _ _ _ h => h) rfl (fun W1 hW1 => rfl) (KpS.refl _ _ _) ?_
  simp only [Act.put, List.setIfInBounds_toArray, List.set_cons_zero, List.set_cons_succ]
  refine held_takeW (i := 5) (v := .slice a5 bl.length c5) rfl (by kernel_rfl) (by kernel_rfl) (by kernel_rfl) (fun _ _ _ h => h) rfl (fun W1 hW1 => rfl) (KpS.refl _ _ _) ?_
  simp only [Act.put, List.setIfInBounds_toArray, List.set_cons_zero, List.set_cons_succ]
  refine held_doW (i := 6) (by kernel_rfl) rfl rfl (wp_enter (f := 29) (args := #[.slice a4 bl.length c4, .slice a5 bl.length c5]) (by go_simp) (same_any _ _ _ bl bl (R8.out.keep (Keeps.refl [] w8).drew (by intro _ _ _ _ _; simp)) (S8.out.keep (Keeps.refl [] w8).drew (by intro _ _ _ _ _; simp)) (by have := HBL.out; omega) (by have := HBL.out; omega)) ?_)
  rintro e y1 ⟨rfl, n1, e1'⟩
  have k1 : Keeps [] w8.drew y1 := by rw [e1']; exact (Keeps.refl [] w8.drew).drewN n1
  have s1 : KpS [] w8.heap.size w8.drew y1 := s0.keeps k1 s0.size (by simp)
  have h1 : Keeps [] w8 y1 := (Keeps.refl [] w8).drew.trans k1
  clear e1'
  rw [show decide (bl = bl) = true from decide_eq_true rfl]
  refine ⟨_, rfl, s1, ?_⟩
  simp only [Act.put, List.setIfInBounds_toArray, List.set_cons_zero, List.set_cons_succ]
  refine held_takeW (i := 7) (v := .bool false) rfl (by kernel_rfl) (by kernel_rfl) (by kernel_rfl) (fun _ _ _ h => h) rfl (fun W1 hW1 => by go_simp) (s1) ?_
  simp only [Act.put, List.setIfInBounds_toArray, List.set_cons_zero, List.set_cons_succ]
  refine held_take (i := 8) (v := .bool false) rfl (by kernel_rfl) (by kernel_rfl) (by kernel_rfl) (fun _ _ _ h => h) rfl (fun W1 hW1 => by go_simp) (s1) ?_
  simp only [Act.put, List.setIfInBounds_toArray, List.set_cons_zero, List.set_cons_succ]
  refine held_take (i := 9) (v := .bool false) rfl (by kernel_rfl) (by kernel_rfl) (by kernel_rfl) (fun _ _ _ h => h) rfl (fun W1 hW1 => by go_simp) (s1) ?_
  simp only [Act.put, List.setIfInBounds_toArray, List.set_cons_zero, List.set_cons_succ]
  refine held_takeW (i := 10) (v := .int .i64 y) rfl (by kernel_rfl) (by kernel_rfl) (by kernel_rfl) (fun _ _ _ h => h) rfl (fun W1 hW1 => rfl) (s1) ?_
  simp only [Act.put, List.setIfInBounds_toArray, List.set_cons_zero, List.set_cons_succ]
  refine held_takeW (i := 11) (v := .int .i64 y) rfl (by kernel_rfl) (by kernel_rfl) (by kernel_rfl) (fun _ _ _ h => h) rfl (fun W1 hW1 => rfl) (s1) ?_
  simp only [Act.put, List.setIfInBounds_toArray, List.set_cons_zero, List.set_cons_succ]
  refine held_takeW (i := 12) (v := .bool false) rfl (by kernel_rfl) (by kernel_rfl) (by kernel_rfl) (fun _ _ _ h => h) rfl (fun W1 hW1 => by go_simp) (s1) ?_
  simp only [Act.put, List.setIfInBounds_toArray, List.set_cons_zero, List.set_cons_succ]
  refine held_take (i := 13) (v := .bool false) rfl (by kernel_rfl) (by kernel_rfl) (by kernel_rfl) (fun _ _ _ h => h) rfl (fun W1 hW1 => by go_simp) (s1) ?_
  simp only [Act.put, List.setIfInBounds_toArray, List.set_cons_zero, List.set_cons_succ]
  refine held_take (i := 14) (v := .bool false) rfl (by kernel_rfl) (by kernel_rfl) (by kernel_rfl) (fun _ _ _ h => h) rfl (fun W1 hW1 => by go_simp) (s1) ?_
  simp only [Act.put, List.setIfInBounds_toArray, List.set_cons_zero, List.set_cons_succ]
  refine held_takeW (i := 15) (v := rqV p2 va vb) rfl (by kernel_rfl) (by kernel_rfl) (by kernel_rfl) (fun _ _ _ h => h) rfl (fun W1 hW1 => exec_load _ _ _ _ rfl rfl (loadRq 82 uReq sReq W1 bp p2 va vb (cA W1 hW1))) (s1) ?_
  simp only [Act.put, List.setIfInBounds_toArray, List.set_cons_zero, List.set_cons_succ]
  refine held_takeW (i := 17) (v := rqV p2 ua ub) rfl (by kernel_rfl) (by kernel_rfl) (by kernel_rfl) (fun _ _ _ h => h) rfl (fun W1 hW1 => exec_load _ _ _ _ rfl rfl (loadRq 88 urReq srReq W1 bt p2 ua ub (cB W1 hW1))) (s1) ?_
  simp only [Act.put, List.setIfInBounds_toArray, List.set_cons_zero, List.set_cons_succ]
  refine held_doW (i := 16) (by kernel_rfl) rfl rfl (wp_enter (f := 46) (args := #[rqV p2 va vb]) (by go_simp) (lawAsked_any y1 p2 va vb (LP8.out.keep h1) (MP8.out.keep h1) PM.out.1) ?_)
  rintro e y2 ⟨a9, c9, rfl, l9, k2⟩
  have s2 : KpS [] w8.heap.size w8.drew y2 := s1.keeps k2 s1.size (by simp)
  have h2 : Keeps [] w8 y2 := h1.trans k2
  refine ⟨_, rfl, s2, ?_⟩
  simp only [Act.put, List.setIfInBounds_toArray, List.set_cons_zero, List.set_cons_succ]
  refine held_doW (i := 18) (by kernel_rfl) rfl rfl (wp_enter (f := 45) (args := #[rqV p2 (.slice a9 p2.ss.length c9) vb, rqV p2 ua ub]) (by go_simp) (sameQ_any y2 p2 p2 _ vb ua ub l9 (LT8B.out.keep h2) (MP8.out.keep h2) (MT8.out.keep h2)) ?_)
  rintro e y3 ⟨z3, rfl, hz3, k3⟩
  obtain rfl : z3 = true := hz3.2 rfl
  have s3 : KpS [] w8.heap.size w8.drew y3 := s2.keeps k3 s2.size (by simp)
  have h3 : Keeps [] w8 y3 := h2.trans k3
  refine ⟨_, rfl, s3, ?_⟩
  simp only [Act.put, List.setIfInBounds_toArray, List.set_cons_zero, List.set_cons_succ]
  refine held_takeW (i := 19) (v := .bool false) rfl (by kernel_rfl) (by kernel_rfl) (by kernel_rfl) (fun _ _ _ h => h) rfl (fun W1 hW1 => by go_simp) (s3) ?_
  simp only [Act.put, List.setIfInBounds_toArray, List.set_cons_zero, List.set_cons_succ]
  refine held_take (i := 20) (v := .bool false) rfl (by kernel_rfl) (by kernel_rfl) (by kernel_rfl) (fun _ _ _ h => h) rfl (fun W1 hW1 => by go_simp) (s3) ?_
  simp only [Act.put, List.setIfInBounds_toArray, List.set_cons_zero, List.set_cons_succ]
  refine wpAnyH_done (by kernel_rfl) ?_ _
  have KE := hid (K8.out.trans h3)
  have R9 := hid (R8.out.keep h3 (by intro _ _ _ _ _; simp))
  have RP9 := hid (krange_keep RP8.out h3 (by simp))
  have LP9 := hid (LP8.out.keep h3)
  have MP9 := hid (MP8.out.keep h3)
  clear cA cB s0 s1 s2 s3 k1 k2 k3 h1 h2 h3 hz3 l9
  by_cases z1 : e1 = 0
  case neg =>
    have f1 : (e1 == 0) = false := by simpa using z1
    clear z1
    by_cases z4 : y = 0
    case neg =>
      have f4 : (y == 0) = false := by simpa using z4
      clear z4
      go_wp2_with fail
      go_ret
      exact ⟨rfl, KA.out.trans KE.out⟩
    have f4 : (y == 0) = true := by simpa using z4
    obtain ⟨q1, q2⟩ := b_dec rqC_ok (show Byt bs from HB.out.bytes) (by rw [← HY.out]; exact z4)
    have PG : (rqC.g (bs, 0)).1 = p2 := by rw [HP.out, if_pos z4, HGR.out]
    rw [PG] at q1 q2
    have EF := hid (encQ_fit q2 (by rw [← q1]; have := B1.out; omega))
    rw [← q1] at EF
    clear q1 q2 PG z4
    go_wp2_with (first | (refine wpList_is rfl _ _ (exec_load _ _ _ _ rfl rfl (loadRq 82 uReq sReq _ bp p2 va vb RP9.out)) ?_) | fail)
    refine (ntEnc_any y3 p2 va vb LP9.out MP9.out (by have := PM.out; omega) (by have := PM.out; omega)).mono ?_
    rw [EF.out]
    rintro e wX ⟨kX, aX, cX, rfl, rX, _⟩
    have KX := hid (KE.out.trans kX)
    have RX := hid rX
    have BX := hid (HB.out.keep KX.out (by intro _ _ _ _ _; simp))
    clear kX rX
    go_wp2_with fail
    refine (same_any _ _ _ bs bs RX.out BX.out (by have := B1.out; omega) (by have := B1.out; omega)).mono ?_
    rintro e wY ⟨rfl, nY, eY⟩
    have KY := hid (show Keeps [] wX wY by rw [eY]; exact (Keeps.refl [] wX).drewN nY)
    clear eY
    rw [show decide (bs = bs) = true from decide_eq_true rfl]
    go_wp2_with fail
    go_ret
    exact ⟨rfl, KA.out.trans (KX.out.trans KY.out)⟩
  have f1 : (e1 == 0) = true := by simpa using z1
  obtain ⟨hb1, fr⟩ := encQ_ok (r := r) (by rw [← HE1.out]; exact z1)
  obtain ⟨d0, d1⟩ := dec_b rqC_ok fr
  have BL : bl = rqC.b r := by rw [HBL1.out, hb1]
  rw [← BL] at d0 d1
  have AA := hid (decQ_any y3 _ bl R9.out (by have := HBL.out; omega))
  rw [d0, d1] at AA
  clear z1 hb1 fr d0 d1 BL
  go_wp2_with fail
  refine AA.out.mono ?_
  rintro e wA hA
  obtain ⟨p3, hp3, ax, cx, bx, dx, rfl, lA, mA, kA⟩ := hA.one
  rw [if_pos rfl] at hp3
  subst hp3
  have KAA := hid (KE.out.trans kA)
  have LA := hid lA
  have MA := hid mA
  have RPA := hid (krange_keep RP9.out kA (by simp))
  have LPX := hid (LP9.out.keep kA)
  have MPX := hid (MP9.out.keep kA)
  clear hA lA mA kA AA
  go_wp2_with (first | (refine wpList_is rfl _ _ (exec_alloc 82 (rqZ.cells (.slice none 0 0) (.slice none 0 0)).toArray iReq rfl) ?_) | (refine wpList_noval rfl _ (exec_storeNew 82 _ _ rfl wA (rqZ.cells (.slice none 0 0) (.slice none 0 0)).toArray (p3.cells (.slice ax p3.ss.length cx) (.slice bx p3.dl.length dx)).toArray rfl rfl rfl iReq rfl (all_one (one_rq _ _ _ _ _ _ _))) ?_; refine Hid.out ?_) | fail)
  refine hid ?_
  obtain ⟨wB, hwB⟩ : ∃ z, z = wA.alloc (.cells (p3.cells (.slice ax p3.ss.length cx) (.slice bx p3.dl.length dx)).toArray 82) := ⟨_, rfl⟩
  obtain ⟨bz, hbz⟩ : ∃ z, z = wA.heap.size := ⟨_, rfl⟩
  have RZ := krange_new wA (p3.cells (.slice ax p3.ss.length cx) (.slice bx p3.dl.length dx)) 82
  rw [← hwB, ← hbz] at RZ
  have RZ := hid RZ
  have LZ := hid (show bz < wB.heap.size by rw [hwB, hbz]; simp)
  have kB : Keeps [] wA wB := by rw [hwB]; exact (Keeps.refl [] wA).alloc _
  rw [← hwB, ← hbz]
  clear hwB hbz
  have KB := hid (KAA.out.trans kB)
  have LB := hid (LA.out.keep kB)
  have MB := hid (MA.out.keep kB)
  have RPB := hid (krange_keep RPA.out kB (by simp))
  have LPY := hid (LPX.out.keep kB)
  have MPY := hid (MPX.out.keep kB)
  have RAB := hid (krange_keep RA.out KB.out (by simp))
  have LTB := hid (Nat.lt_of_lt_of_le LTA.out KB.out.size)
  have HRB := hid (HR.out.keep KB.out)
  have MRB := hid (MR.out.keep KB.out)
  clear kB
  obtain ⟨wa, hva⟩ : ∃ z, z = Value.slice ax p3.ss.length cx := ⟨_, rfl⟩
  obtain ⟨wb, hvb⟩ : ∃ z, z = Value.slice bx p3.dl.length dx := ⟨_, rfl⟩
  rw [← hva] at RZ LB
  rw [← hvb] at RZ MB
  clear hva hvb
  go_wp2_with fail
  refine wp_region_any (by kernel_rfl) (wpAny_of_held (S := KpS [] wB.heap.size wB.drew) _ _ _ _ ?_)
  change wpAnyH _ _ _ _ _ _ _ _ wB.drew
  have s0 : KpS [] wB.heap.size wB.drew wB.drew := KpS.refl _ _ _
  have cA : ∀ W1, KpS [] wB.heap.size wB.drew W1 → W1.rangeAt bz 0 (p3.cells wa wb) := fun W1 h t u hu => h.cell (by rw [World.cell?_drew]; exact RZ.out t u hu) LZ.out (by simp)
  have cB : ∀ W1, KpS [] wB.heap.size wB.drew W1 → W1.rangeAt ba 0 (p3.cells v1 v2) := fun W1 h t u hu => h.cell (by rw [World.cell?_drew]; exact RAB.out t u hu) LTB.out (by simp)
  refine held_take (i := 0) (v := .int .i64 0) rfl (by kernel_rfl) (by kernel_rfl) (by kernel_rfl) (fun _ _ _ h => h) rfl (fun W1 hW1 => rfl) (KpS.refl _ _ _) ?_
  simp only [Act.put, List.setIfInBounds_toArray, List.set_cons_zero, List.set_cons_succ]
  refine held_take (i := 1) (v := .bool false) rfl (by kernel_rfl) (by kernel_rfl) (by kernel_rfl) (fun _ _ _ h => h) rfl (fun W1 hW1 => by go_simp) (KpS.refl _ _ _) ?_
  simp only [Act.put, List.setIfInBounds_toArray, List.set_cons_zero, List.set_cons_succ]
  refine held_take (i := 2) (v := .bool false) rfl (by kernel_rfl) (by kernel_rfl) (by kernel_rfl) (fun _ _ _ h => h) rfl (fun W1 hW1 => by go_simp) (KpS.refl _ _ _) ?_
  simp only [Act.put, List.setIfInBounds_toArray, List.set_cons_zero, List.set_cons_succ]
  refine held_takeW (i := 3) (v := rqV p3 wa wb) rfl (by kernel_rfl) (by kernel_rfl) (by kernel_rfl) (fun _ _ _ h => h) rfl (fun W1 hW1 => exec_load _ _ _ _ rfl rfl (loadRq 82 uReq sReq W1 bz p3 wa wb (cA W1 hW1))) (KpS.refl _ _ _) ?_
  simp only [Act.put, List.setIfInBounds_toArray, List.set_cons_zero, List.set_cons_succ]
  refine held_takeW (i := 5) (v := rqV p3 v1 v2) rfl (by kernel_rfl) (by kernel_rfl) (by kernel_rfl) (fun _ _ _ h => h) rfl (fun W1 hW1 => exec_load _ _ _ _ rfl rfl (loadRq 88 urReq srReq W1 ba p3 v1 v2 (cB W1 hW1))) (KpS.refl _ _ _) ?_
  simp only [Act.put, List.setIfInBounds_toArray, List.set_cons_zero, List.set_cons_succ]
  refine held_doW (i := 4) (by kernel_rfl) rfl rfl (wp_enter (f := 46) (args := #[rqV p3 wa wb]) (by go_simp) (lawAsked_any wB.drew p3 wa wb (LB.out.keep (Keeps.refl [] wB).drew) (MB.out.keep (Keeps.refl [] wB).drew) (by have := P3.out; omega)) ?_)
  rintro e y2 ⟨a9, c9, rfl, l9, k2⟩
  have s2 : KpS [] wB.heap.size wB.drew y2 := s0.keeps k2 s0.size (by simp)
  have h2 : Keeps [] wB y2 := (Keeps.refl [] wB).drew.trans k2
  refine ⟨_, rfl, s2, ?_⟩
  simp only [Act.put, List.setIfInBounds_toArray, List.set_cons_zero, List.set_cons_succ]
  refine held_doW (i := 6) (by kernel_rfl) rfl rfl (wp_enter (f := 45) (args := #[rqV p3 (.slice a9 p3.ss.length c9) wb, rqV p3 v1 v2]) (by go_simp) (sameQ_any y2 p3 p3 _ wb v1 v2 l9 (HRB.out.keep h2) (MB.out.keep h2) (MRB.out.keep h2)) ?_)
  rintro e y4 ⟨z3, rfl, hz3, k3⟩
  obtain rfl : z3 = true := hz3.2 rfl
  have s3 : KpS [] wB.heap.size wB.drew y4 := s2.keeps k3 s2.size (by simp)
  have h3 : Keeps [] wB y4 := h2.trans k3
  refine ⟨_, rfl, s3, ?_⟩
  simp only [Act.put, List.setIfInBounds_toArray, List.set_cons_zero, List.set_cons_succ]
  refine held_takeW (i := 7) (v := .bool false) rfl (by kernel_rfl) (by kernel_rfl) (by kernel_rfl) (fun _ _ _ h => h) rfl (fun W1 hW1 => by go_simp) (s3) ?_
  simp only [Act.put, List.setIfInBounds_toArray, List.set_cons_zero, List.set_cons_succ]
  refine held_take (i := 8) (v := .bool false) rfl (by kernel_rfl) (by kernel_rfl) (by kernel_rfl) (fun _ _ _ h => h) rfl (fun W1 hW1 => by go_simp) (s3) ?_
  simp only [Act.put, List.setIfInBounds_toArray, List.set_cons_zero, List.set_cons_succ]
  refine wpAnyH_done (by kernel_rfl) ?_ _
  have KZ := hid (KB.out.trans h3)
  have RPZ := hid (krange_keep RPB.out h3 (by simp))
  have LPZ := hid (LPY.out.keep h3)
  have MPZ := hid (MPY.out.keep h3)
  clear cA cB s0 s2 s3 k2 k3 h2 h3 hz3 l9
  by_cases z4 : y = 0
  case neg =>
    have f4 : (y == 0) = false := by simpa using z4
    clear z4
    go_wp2_with fail
    go_ret
    exact ⟨rfl, KA.out.trans KZ.out⟩
  have f4 : (y == 0) = true := by simpa using z4
  obtain ⟨q1, q2⟩ := b_dec rqC_ok (show Byt bs from HB.out.bytes) (by rw [← HY.out]; exact z4)
  have PG : (rqC.g (bs, 0)).1 = p2 := by rw [HP.out, if_pos z4, HGR.out]
  rw [PG] at q1 q2
  have EF := hid (encQ_fit q2 (by rw [← q1]; have := B1.out; omega))
  rw [← q1] at EF
  clear q1 q2 PG z4
  go_wp2_with (first | (refine wpList_is rfl _ _ (exec_load _ _ _ _ rfl rfl (loadRq 82 uReq sReq _ bp p2 va vb RPZ.out)) ?_) | fail)
  refine (ntEnc_any y4 p2 va vb LPZ.out MPZ.out (by have := PM.out; omega) (by have := PM.out; omega)).mono ?_
  rw [EF.out]
  rintro e wX ⟨kX, aX, cX, rfl, rX, _⟩
  have KX := hid (KZ.out.trans kX)
  have RX := hid rX
  have BX := hid (HB.out.keep KX.out (by intro _ _ _ _ _; simp))
  clear kX rX
  go_wp2_with fail
  refine (same_any _ _ _ bs bs RX.out BX.out (by have := B1.out; omega) (by have := B1.out; omega)).mono ?_
  rintro e wY ⟨rfl, nY, eY⟩
  have KY := hid (show Keeps [] wX wY by rw [eY]; exact (Keeps.refl [] wX).drewN nY)
  clear eY
  rw [show decide (bs = bs) = true from decide_eq_true rfl]
  go_wp2_with fail
  go_ret
  exact ⟨rfl, KA.out.trans (KX.out.trans KY.out)⟩
end Go.Proofs.Ytoglcohdanpciaa


/- note: how entries, sized stripes, deltas, a request and a reply that came in are read. -/
namespace Go.Proofs.Ytoglcohdanpciaa
open Go.Deep Go.ChangeShapes Go.WideShapes Go.ChangeAt Go.RowKit Go.Shelf
set_option maxRecDepth 100000
set_option linter.unusedSimpArgs false
set_option linter.unusedVariables false

section
variable {H : Type} {enc : TypeId × Value → H}
/-- A slice of a kind that came in. -/
theorem ls_of_trod {α : Type} {K : Kn α} {T TS : TypeId} {Q : α → Prop} {W : World} {fuel : Nat} {cs : List Value} {x : DataW H × List MemPlace} (hc : Try.prog.cellsOf T = K.n) (hlen : ∀ y, (K.cells y).length = K.n) (hp : 0 < K.n) (hu : Try.prog.underlying TS = some (.slice T))
    (op : ∀ (fuel : Nat) (cs : List Value) (x : DataW H × List MemPlace), cs.length = K.n → DataW.trod enc Try.prog W 0 (fun _ => true) true fuel T cs = some x → ∃ d, cs = K.cells d ∧ Q d)
    (h : DataW.trod enc Try.prog W 0 (fun _ => true) true fuel TS cs = some x) : ∃ v ds, cs = [v] ∧ LsAt K W v ds ∧ ∀ d ∈ ds, Q d := by
  rcases Go.Deep.open_slice hu h with ⟨rfl, _⟩ | ⟨a, len, cap, m, n, D, Pl, rfl, _, hl, hm, hmm, rfl, hi⟩
  · exact ⟨_, [], rfl, ⟨none, 0, rfl, by simp, by simp, fun _ => rfl, fun h => absurd rfl h⟩, by simp⟩
  · simp only [if_true] at hmm
    subst hmm
    by_cases h0 : len = 0
    · subst h0
      exact ⟨_, [], rfl, ⟨some a, m, rfl, by simp, hm, by simp, fun h => absurd rfl h⟩, by simp⟩
    · obtain ⟨g, off, sp⟩ := a
      have hsp : sp = none := by
        obtain ⟨cs0, hc0, _⟩ := hi 0 (by omega)
        rw [hc] at hc0
        obtain ⟨_, hl4, hat⟩ := World.cells?_some hc0
        have := hat 0 (by omega)
        rw [List.getElem?_eq_getElem (by omega)] at this
        have hs := World.cell?_spot this
        simpa [Addr.add] using hs
      subst hsp
      obtain ⟨ds, hdl, hda⟩ := list_of (P := fun i (d : α) => W.rangeAt g (off + i * K.n) (K.cells d) ∧ Q d) len (fun i hil => by
        obtain ⟨cs', hc1, ht⟩ := hi i (by omega)
        rw [hc, Addr.add_lit] at hc1
        obtain ⟨_, hl4b, hat⟩ := World.cells?_some hc1
        have hr : W.rangeAt g (off + i * K.n) cs' := fun j u hu => by
          have hj := (List.getElem?_eq_some_iff.1 hu).1
          have := hat j (by omega)
          rw [Addr.add_lit] at this
          rw [this]; exact hu
        obtain ⟨d, rfl, hq⟩ := op _ _ _ hl4b ht
        exact ⟨d, hr, hq⟩)
      refine ⟨_, ds, rfl, ⟨some ⟨g, off, none⟩, m, by rw [hdl], by omega, hm, by simp, fun _ => ⟨g, off, rfl, ?_, fun i hi => (hda i hi).1⟩⟩, ?_⟩
      · have h1 := (hda 0 (by omega)).1
        have h2 := hlen (ds[0]'(by omega))
        have := h1 0 ((K.cells (ds[0]'(by omega)))[0]'(by omega)) (List.getElem?_eq_getElem (by omega))
        exact World.block_lt_of_cell? _ _ this
      · intro d hd
        obtain ⟨i, hi', rfl⟩ := List.getElem_of_mem hd
        exact (hda i hi').2
/-- Bytes that came in. -/
theorem rowN_of_trod {W : World} {fuel : Nat} {cs : List Value} {x : DataW H × List MemPlace} (h : DataW.trod enc Try.prog W 0 (fun _ => true) true fuel 34 cs = some x) : ∃ v zs, cs = [v] ∧ RowAt W v zs := by
  rcases open_ints Try.underlying34 Try.underlying5 cells_u8 h with ⟨rfl, _⟩ | ⟨a, len, cap, zs, rfl, _, hl, hm, hz, rfl, hcell, hwz⟩
  · exact ⟨_, [], rfl, RowAt.nil W⟩
  · simp only [if_true] at hz
    have hlen : (zs.take len).length = len := by rw [List.length_take]; omega
    refine ⟨_, zs.take len, rfl, ⟨some a, cap, by rw [hlen], by rw [hlen]; exact hl, hm, by simp, ?_, ?_⟩⟩
    · intro z hzm
      exact bounds_u8 (hwz z (List.mem_of_mem_take hzm))
    · intro ad had j u hu
      obtain rfl := Option.some.inj had
      have hj : j < len := by
        have := (List.getElem?_eq_some_iff.1 hu).1
        simp at this; omega
      rw [hcell j (by omega), ← hu]
      rw [List.getElem?_map, List.getElem?_take, if_pos hj, List.getElem?_eq_getElem (by omega), List.getD_eq_getElem?_getD, List.getElem?_eq_getElem (by omega)]
      rfl
theorem cStrT : Try.prog.cellsOf 9 = 1 := by kernel_rfl
theorem cIntT : Try.prog.cellsOf 3 = 1 := by kernel_rfl
theorem cBoolT : Try.prog.cellsOf 4 = 1 := by kernel_rfl
theorem cEntT : Try.prog.cellsOf 102 = 3 := by kernel_rfl
theorem cEntsT : Try.prog.cellsOf 71 = 1 := by kernel_rfl
theorem cStT : Try.prog.cellsOf 30 = 3 := by kernel_rfl
theorem cSpT : Try.prog.cellsOf 85 = 3 := by kernel_rfl
theorem cSzT : Try.prog.cellsOf 143 = 4 := by kernel_rfl
theorem cSzsT : Try.prog.cellsOf 86 = 1 := by kernel_rfl
theorem cDlsT : Try.prog.cellsOf 80 = 1 := by kernel_rfl
theorem cBytesT : Try.prog.cellsOf 34 = 1 := by kernel_rfl
theorem cRepT : Try.prog.cellsOf 100 = 8 := by kernel_rfl
theorem cReqT : Try.prog.cellsOf 88 = 14 := by kernel_rfl

theorem ent_of_trod {W : World} {fuel : Nat} {cs : List Value} {x : DataW H × List MemPlace} (hl : cs.length = 3) (h : DataW.trod enc Try.prog W 0 (fun _ => true) true fuel 102 cs = some x) : ∃ d : Ent, cs = KEnt.cells d ∧ d.nm.size ≤ maxLen ∧ (Lit.int .i64 d.ino).wf = true := by
  match cs, hl with
  | [c0, c1, c2], _ =>
    obtain ⟨ys, n, _, hx, _, hyl, hf⟩ := DataW.trod_struct Try.underlying102 h
    have t0 : DataW.trod enc Try.prog W 0 (fun _ => true) true n 9 (([c0, c1, c2].drop 0).take (Try.prog.cellsOf 9)) = ys[0]? := hf 0 _ rfl
    have t1 : DataW.trod enc Try.prog W 0 (fun _ => true) true n 3 (([c0, c1, c2].drop 1).take (Try.prog.cellsOf 3)) = ys[1]? := hf 1 _ rfl
    have t2 : DataW.trod enc Try.prog W 0 (fun _ => true) true n 4 (([c0, c1, c2].drop 2).take (Try.prog.cellsOf 4)) = ys[2]? := hf 2 _ rfl
    simp only [cStrT, cIntT, cBoolT, List.drop_zero, List.drop_succ_cons, List.take_succ_cons, List.take_zero] at t0 t1 t2
    match ys, hyl with
    | [y0, y1, y2], _ =>
      simp only [List.getElem?_cons_zero, List.getElem?_cons_succ] at t0 t1 t2
      obtain ⟨z0, e0, _, w0⟩ := DataW.trod_string Try.underlying9 t0
      injection e0 with e0 _
      subst e0
      obtain ⟨z1, e1, _, w1⟩ := DataW.trod_int Try.underlying3 t1
      injection e1 with e1 _
      subst e1
      obtain ⟨z2, e2, _⟩ := DataW.trod_bool Try.underlying4 t2
      injection e2 with e2 _
      subst e2
      exact ⟨⟨z0, z1, z2⟩, rfl, w0, w1⟩
theorem st3_of_trod {W : World} {fuel : Nat} {T : TypeId} {f0 f1 f2 : Field} {c0 c1 c2 : Value} {x : DataW H × List MemPlace} (hu : Try.prog.underlying T = some (.struct #[f0, f1, f2])) (q0 : f0.type = 3 ∧ f0.offset = 0) (q1 : f1.type = 3 ∧ f1.offset = 1) (q2 : f2.type = 3 ∧ f2.offset = 2) (h : DataW.trod enc Try.prog W 0 (fun _ => true) true fuel T [c0, c1, c2] = some x) :
    ∃ z0 z1 z2, c0 = .int .i64 z0 ∧ c1 = .int .i64 z1 ∧ c2 = .int .i64 z2 ∧ (Lit.int .i64 z0).wf = true ∧ (Lit.int .i64 z1).wf = true ∧ (Lit.int .i64 z2).wf = true := by
  obtain ⟨y0, y1, y2, m2, e, _, t0, t1, t2⟩ := trod_struct3 hu h
  rw [q0.1, q0.2] at t0
  rw [q1.1, q1.2] at t1
  rw [q2.1, q2.2] at t2
  simp only [cIntT, List.drop_zero, List.drop_succ_cons, List.take_succ_cons, List.take_zero, List.take_nil] at t0 t1 t2
  obtain ⟨z0, e0, _, w0⟩ := DataW.trod_int Try.underlying3 t0
  obtain ⟨z1, e1, _, w1⟩ := DataW.trod_int Try.underlying3 t1
  obtain ⟨z2, e2, _, w2⟩ := DataW.trod_int Try.underlying3 t2
  simp at e0 e1 e2
  exact ⟨z0, z1, z2, e0, e1, e2, w0, w1, w2⟩
theorem sz_of_trod {W : World} {fuel : Nat} {cs : List Value} {x : DataW H × List MemPlace} (hl : cs.length = 4) (h : DataW.trod enc Try.prog W 0 (fun _ => true) true fuel 143 cs = some x) : ∃ d : Sz, cs = KSz.cells d ∧ (Lit.int .i64 d.c).wf = true ∧ (Lit.int .i64 d.l).wf = true ∧ (Lit.int .i64 d.n).wf = true ∧ (Lit.int .i64 d.s).wf = true := by
  match cs, hl with
  | [c0, c1, c2, c3], _ =>
    obtain ⟨ys, n, _, hx, _, hyl, hf⟩ := DataW.trod_struct Try.underlying143 h
    have t0 : DataW.trod enc Try.prog W 0 (fun _ => true) true n 30 (([c0, c1, c2, c3].drop 0).take (Try.prog.cellsOf 30)) = ys[0]? := hf 0 _ rfl
    have t1 : DataW.trod enc Try.prog W 0 (fun _ => true) true n 3 (([c0, c1, c2, c3].drop 3).take (Try.prog.cellsOf 3)) = ys[1]? := hf 1 _ rfl
    simp only [cStT, cIntT, List.drop_zero, List.drop_succ_cons, List.take_succ_cons, List.take_zero] at t0 t1
    match ys, hyl with
    | [y0, y1], _ =>
      simp only [List.getElem?_cons_zero, List.getElem?_cons_succ] at t0 t1
      obtain ⟨z0, z1, z2, rfl, rfl, rfl, w0, w1, w2⟩ := st3_of_trod Try.underlying30 ⟨rfl, rfl⟩ ⟨rfl, rfl⟩ ⟨rfl, rfl⟩ t0
      obtain ⟨z3, e3, _, w3⟩ := DataW.trod_int Try.underlying3 t1
      injection e3 with e3 _
      subst e3
      exact ⟨⟨z0, z1, z2, z3⟩, rfl, w0, w1, w2, w3⟩
theorem ents_of_trod {W : World} {fuel : Nat} {cs : List Value} {x : DataW H × List MemPlace} (h : DataW.trod enc Try.prog W 0 (fun _ => true) true fuel 71 cs = some x) : ∃ v ds, cs = [v] ∧ LsAt KEnt W v ds ∧ ∀ d ∈ ds, d.nm.size ≤ maxLen ∧ (Lit.int .i64 d.ino).wf = true :=
  ls_of_trod cEntT (fun _ => rfl) (by decide) Try.underlying71 (fun _ _ _ hl h => ent_of_trod hl h) h
theorem szs_of_trod {W : World} {fuel : Nat} {cs : List Value} {x : DataW H × List MemPlace} (h : DataW.trod enc Try.prog W 0 (fun _ => true) true fuel 86 cs = some x) : ∃ v ds, cs = [v] ∧ LsAt KSz W v ds ∧ ∀ d ∈ ds, (Lit.int .i64 d.c).wf = true ∧ (Lit.int .i64 d.l).wf = true ∧ (Lit.int .i64 d.n).wf = true ∧ (Lit.int .i64 d.s).wf = true :=
  ls_of_trod cSzT (fun _ => rfl) (by decide) Try.underlying86 (fun _ _ _ hl h => sz_of_trod hl h) h
theorem dls_of_trod {W : World} {fuel : Nat} {cs : List Value} {x : DataW H × List MemPlace} (h : DataW.trod enc Try.prog W 0 (fun _ => true) true fuel 80 cs = some x) : ∃ v ds, cs = [v] ∧ LsAt KDl W v ds := by
  obtain ⟨v, ds, e, hl, _⟩ := ls_of_trod (K := KDl) (Q := fun _ => True) (T := 149) (by kernel_rfl) (fun _ => rfl) (by decide) Try.underlying80 (fun _ _ _ hl h => by obtain ⟨d, hd⟩ := dl_of_trod hl h; exact ⟨d, hd, trivial⟩) h
  exact ⟨v, ds, e, hl⟩

theorem rep_of_trod {W : World} {base : Nat} {v : Value} {d : DataW H} {p : List MemPlace} (hv : Value.okWide Try.prog W .any base 100 v) (h : DataW.Trod enc Try.prog W 0 (fun _ => true) true 100 v d p) : ∃ r v1 v2, v = rpV r v1 v2 ∧ LsAt KEnt W v1 r.es ∧ RowAt W v2 r.mp ∧ i64 r.e ∧ i64 r.ino ∧ i64 r.sz ∧ i64 r.ha ∧ i64 r.sw ∧ ∀ x ∈ r.es, i64 x.ino := by
  obtain ⟨cs, rfl, hsz, _⟩ : ∃ cs, v = .agg cs ∧ cs.size = Try.prog.cellsOf 100 ∧ Row.okWide Try.prog W .any base 100 cs := by
    simpa [Value.okWide, Try.underlying100] using hv
  rw [cRepT] at hsz
  obtain ⟨l⟩ := cs
  obtain ⟨c0, c1, c2, c3, c4, c5, c6, c7, rfl⟩ : ∃ c0 c1 c2 c3 c4 c5 c6 c7, l = [c0, c1, c2, c3, c4, c5, c6, c7] := by
    match l, hsz with
    | [c0, c1, c2, c3, c4, c5, c6, c7], _ => exact ⟨c0, c1, c2, c3, c4, c5, c6, c7, rfl⟩
  obtain ⟨fuel, h1⟩ := h
  replace h1 : DataW.trod enc Try.prog W 0 (fun _ => true) true fuel 100 [c0, c1, c2, c3, c4, c5, c6, c7] = some (d, p) := h1
  obtain ⟨ys, n, _, hx, _, hyl, hf⟩ := DataW.trod_struct Try.underlying100 h1
  have t0 : DataW.trod enc Try.prog W 0 (fun _ => true) true n 3 (([c0, c1, c2, c3, c4, c5, c6, c7].drop 0).take (Try.prog.cellsOf 3)) = ys[0]? := hf 0 _ rfl
  have t1 : DataW.trod enc Try.prog W 0 (fun _ => true) true n 3 (([c0, c1, c2, c3, c4, c5, c6, c7].drop 1).take (Try.prog.cellsOf 3)) = ys[1]? := hf 1 _ rfl
  have t2 : DataW.trod enc Try.prog W 0 (fun _ => true) true n 3 (([c0, c1, c2, c3, c4, c5, c6, c7].drop 2).take (Try.prog.cellsOf 3)) = ys[2]? := hf 2 _ rfl
  have t3 : DataW.trod enc Try.prog W 0 (fun _ => true) true n 3 (([c0, c1, c2, c3, c4, c5, c6, c7].drop 3).take (Try.prog.cellsOf 3)) = ys[3]? := hf 3 _ rfl
  have t4 : DataW.trod enc Try.prog W 0 (fun _ => true) true n 3 (([c0, c1, c2, c3, c4, c5, c6, c7].drop 4).take (Try.prog.cellsOf 3)) = ys[4]? := hf 4 _ rfl
  have t5 : DataW.trod enc Try.prog W 0 (fun _ => true) true n 4 (([c0, c1, c2, c3, c4, c5, c6, c7].drop 5).take (Try.prog.cellsOf 4)) = ys[5]? := hf 5 _ rfl
  have t6 : DataW.trod enc Try.prog W 0 (fun _ => true) true n 71 (([c0, c1, c2, c3, c4, c5, c6, c7].drop 6).take (Try.prog.cellsOf 71)) = ys[6]? := hf 6 _ rfl
  have t7 : DataW.trod enc Try.prog W 0 (fun _ => true) true n 34 (([c0, c1, c2, c3, c4, c5, c6, c7].drop 7).take (Try.prog.cellsOf 34)) = ys[7]? := hf 7 _ rfl
  simp only [cIntT, cBoolT, cEntsT, cBytesT, List.drop_zero, List.drop_succ_cons, List.take_succ_cons, List.take_zero] at t0 t1 t2 t3 t4 t5 t6 t7
  match ys, hyl with
  | [y0, y1, y2, y3, y4, y5, y6, y7], _ =>
    simp only [List.getElem?_cons_zero, List.getElem?_cons_succ] at t0 t1 t2 t3 t4 t5 t6 t7
    obtain ⟨z0, e0, _, w0⟩ := DataW.trod_int Try.underlying3 t0
    injection e0 with e0 _
    subst e0
    obtain ⟨z1, e1, _, w1⟩ := DataW.trod_int Try.underlying3 t1
    injection e1 with e1 _
    subst e1
    obtain ⟨z2, e2, _, w2⟩ := DataW.trod_int Try.underlying3 t2
    injection e2 with e2 _
    subst e2
    obtain ⟨z3, e3, _, w3⟩ := DataW.trod_int Try.underlying3 t3
    injection e3 with e3 _
    subst e3
    obtain ⟨z4, e4, _, w4⟩ := DataW.trod_int Try.underlying3 t4
    injection e4 with e4 _
    subst e4
    obtain ⟨z5, e5, _⟩ := DataW.trod_bool Try.underlying4 t5
    injection e5 with e5 _
    subst e5
    obtain ⟨v6, x6, e6, r6, w6⟩ := ents_of_trod t6
    injection e6 with e6 _
    subst e6
    obtain ⟨v7, x7, e7, r7⟩ := rowN_of_trod t7
    injection e7 with e7 _
    subst e7
    exact ⟨⟨z0, z1, z2, z3, z4, z5, x6, x7⟩, _, _, rfl, r6, r7, i64_of w0, i64_of w1, i64_of w2, i64_of w3, i64_of w4, fun x hx => i64_of (w6 x hx).2⟩
theorem req_of_trod {W : World} {base : Nat} {v : Value} {d : DataW H} {p : List MemPlace} (hv : Value.okWide Try.prog W .any base 88 v) (h : DataW.Trod enc Try.prog W 0 (fun _ => true) true 88 v d p) : ∃ r v1 v2, v = rqV r v1 v2 ∧ LsAt KSz W v1 r.ss ∧ LsAt KDl W v2 r.dl ∧ r.pa.size ≤ maxLen ∧ r.tp.size ≤ maxLen := by
  obtain ⟨cs, rfl, hsz, _⟩ : ∃ cs, v = .agg cs ∧ cs.size = Try.prog.cellsOf 88 ∧ Row.okWide Try.prog W .any base 88 cs := by
    simpa [Value.okWide, Try.underlying88] using hv
  rw [cReqT] at hsz
  obtain ⟨l⟩ := cs
  obtain ⟨c0, c1, c2, c3, c4, c5, c6, c7, c8, c9, c10, c11, c12, c13, rfl⟩ : ∃ c0 c1 c2 c3 c4 c5 c6 c7 c8 c9 c10 c11 c12 c13, l = [c0, c1, c2, c3, c4, c5, c6, c7, c8, c9, c10, c11, c12, c13] := by
    match l, hsz with
    | [c0, c1, c2, c3, c4, c5, c6, c7, c8, c9, c10, c11, c12, c13], _ => exact ⟨c0, c1, c2, c3, c4, c5, c6, c7, c8, c9, c10, c11, c12, c13, rfl⟩
  obtain ⟨fuel, h1⟩ := h
  replace h1 : DataW.trod enc Try.prog W 0 (fun _ => true) true fuel 88 [c0, c1, c2, c3, c4, c5, c6, c7, c8, c9, c10, c11, c12, c13] = some (d, p) := h1
  obtain ⟨ys, n, _, hx, _, hyl, hf⟩ := DataW.trod_struct Try.underlying88 h1
  have t0 : DataW.trod enc Try.prog W 0 (fun _ => true) true n 85 (([c0, c1, c2, c3, c4, c5, c6, c7, c8, c9, c10, c11, c12, c13].drop 0).take (Try.prog.cellsOf 85)) = ys[0]? := hf 0 _ rfl
  have t1 : DataW.trod enc Try.prog W 0 (fun _ => true) true n 3 (([c0, c1, c2, c3, c4, c5, c6, c7, c8, c9, c10, c11, c12, c13].drop 3).take (Try.prog.cellsOf 3)) = ys[1]? := hf 1 _ rfl
  have t2 : DataW.trod enc Try.prog W 0 (fun _ => true) true n 9 (([c0, c1, c2, c3, c4, c5, c6, c7, c8, c9, c10, c11, c12, c13].drop 4).take (Try.prog.cellsOf 9)) = ys[2]? := hf 2 _ rfl
  have t3 : DataW.trod enc Try.prog W 0 (fun _ => true) true n 9 (([c0, c1, c2, c3, c4, c5, c6, c7, c8, c9, c10, c11, c12, c13].drop 5).take (Try.prog.cellsOf 9)) = ys[3]? := hf 3 _ rfl
  have t4 : DataW.trod enc Try.prog W 0 (fun _ => true) true n 4 (([c0, c1, c2, c3, c4, c5, c6, c7, c8, c9, c10, c11, c12, c13].drop 6).take (Try.prog.cellsOf 4)) = ys[4]? := hf 4 _ rfl
  have t5 : DataW.trod enc Try.prog W 0 (fun _ => true) true n 4 (([c0, c1, c2, c3, c4, c5, c6, c7, c8, c9, c10, c11, c12, c13].drop 7).take (Try.prog.cellsOf 4)) = ys[5]? := hf 5 _ rfl
  have t6 : DataW.trod enc Try.prog W 0 (fun _ => true) true n 4 (([c0, c1, c2, c3, c4, c5, c6, c7, c8, c9, c10, c11, c12, c13].drop 8).take (Try.prog.cellsOf 4)) = ys[6]? := hf 6 _ rfl
  have t7 : DataW.trod enc Try.prog W 0 (fun _ => true) true n 3 (([c0, c1, c2, c3, c4, c5, c6, c7, c8, c9, c10, c11, c12, c13].drop 9).take (Try.prog.cellsOf 3)) = ys[7]? := hf 7 _ rfl
  have t8 : DataW.trod enc Try.prog W 0 (fun _ => true) true n 3 (([c0, c1, c2, c3, c4, c5, c6, c7, c8, c9, c10, c11, c12, c13].drop 10).take (Try.prog.cellsOf 3)) = ys[8]? := hf 8 _ rfl
  have t9 : DataW.trod enc Try.prog W 0 (fun _ => true) true n 3 (([c0, c1, c2, c3, c4, c5, c6, c7, c8, c9, c10, c11, c12, c13].drop 11).take (Try.prog.cellsOf 3)) = ys[9]? := hf 9 _ rfl
  have t10 : DataW.trod enc Try.prog W 0 (fun _ => true) true n 86 (([c0, c1, c2, c3, c4, c5, c6, c7, c8, c9, c10, c11, c12, c13].drop 12).take (Try.prog.cellsOf 86)) = ys[10]? := hf 10 _ rfl
  have t11 : DataW.trod enc Try.prog W 0 (fun _ => true) true n 80 (([c0, c1, c2, c3, c4, c5, c6, c7, c8, c9, c10, c11, c12, c13].drop 13).take (Try.prog.cellsOf 80)) = ys[11]? := hf 11 _ rfl
  simp only [cSpT, cIntT, cStrT, cBoolT, cSzsT, cDlsT, List.drop_zero, List.drop_succ_cons, List.take_succ_cons, List.take_zero] at t0 t1 t2 t3 t4 t5 t6 t7 t8 t9 t10 t11
  match ys, hyl with
  | [y0, y1, y2, y3, y4, y5, y6, y7, y8, y9, y10, y11], _ =>
    simp only [List.getElem?_cons_zero, List.getElem?_cons_succ] at t0 t1 t2 t3 t4 t5 t6 t7 t8 t9 t10 t11
    obtain ⟨s0, s1, s2, rfl, rfl, rfl, u0, u1, u2⟩ := st3_of_trod Try.underlying85 ⟨rfl, rfl⟩ ⟨rfl, rfl⟩ ⟨rfl, rfl⟩ t0
    obtain ⟨z1, e1, _, w1⟩ := DataW.trod_int Try.underlying3 t1
    injection e1 with e1 _
    subst e1
    obtain ⟨z2, e2, _, w2⟩ := DataW.trod_string Try.underlying9 t2
    injection e2 with e2 _
    subst e2
    obtain ⟨z3, e3, _, w3⟩ := DataW.trod_string Try.underlying9 t3
    injection e3 with e3 _
    subst e3
    obtain ⟨z4, e4, _⟩ := DataW.trod_bool Try.underlying4 t4
    injection e4 with e4 _
    subst e4
    obtain ⟨z5, e5, _⟩ := DataW.trod_bool Try.underlying4 t5
    injection e5 with e5 _
    subst e5
    obtain ⟨z6, e6, _⟩ := DataW.trod_bool Try.underlying4 t6
    injection e6 with e6 _
    subst e6
    obtain ⟨z7, e7, _, w7⟩ := DataW.trod_int Try.underlying3 t7
    injection e7 with e7 _
    subst e7
    obtain ⟨z8, e8, _, w8⟩ := DataW.trod_int Try.underlying3 t8
    injection e8 with e8 _
    subst e8
    obtain ⟨z9, e9, _, w9⟩ := DataW.trod_int Try.underlying3 t9
    injection e9 with e9 _
    subst e9
    obtain ⟨v10, x10, e10, r10, w10⟩ := szs_of_trod t10
    injection e10 with e10 _
    subst e10
    obtain ⟨v11, x11, e11, r11⟩ := dls_of_trod t11
    injection e11 with e11 _
    subst e11
    exact ⟨⟨s0, s1, s2, z1, z2, z3, z4, z5, z6, z7, z8, z9, x10, x11⟩, _, _, rfl, r10, r11, w2, w3⟩
end
end Go.Proofs.Ytoglcohdanpciaa


/- Any request: its bytes or what may not be, and back; any bytes (the law NoteAsks): the law returns true. No condition. -/
namespace Go.Proofs.Ytoglcohdanpciaa
open Go.ChangeShapes Go.WideShapes Go.ChangeAt Go.RowKit

set_option maxRecDepth 100000 in
theorem asks16_lifted (os : Os) (started : os.Started) (H : Type) (enc : TypeId × Value → H) :
    ReturnsInHanded {} Try.checked os 12 .any (Rows.noteAsksSpec.pre6 enc Try.prog Try.f12 Rows.noteAsksRow.domain false) (Rows.noteAsksSpec.post enc Try.prog Try.f12 false true false false) := by
  refine returnsInHanded_of_change_sized (C := Try.checked) own started (by kernel_rfl) Try.func12
    (ChangeSpec.witness6 (enc := enc) (C := Try.checked) false ⟨#[], #[.agg #[.int .i64 0, .int .i64 0, .int .i64 0, .int .i64 0, .string ⟨#[]⟩, .string ⟨#[]⟩, .bool false, .bool false, .bool false, .int .i64 0, .int .i64 0, .int .i64 0, .slice none 0 0, .slice none 0 0], .slice none 0 0], []⟩ 8 (by kernel_rfl) (by kernel_rfl) (by kernel_rfl) (by kernel_rfl)) ?_
  intro W base args ds gs before hval0 hW hcnd hsz0 _
  have hval : ∀ (j : Nat) t v, Try.f12.params[j]? = some t → args[j]? = some v → Value.okWide Try.prog W .any base t v := hval0
  have hsz : (DataW.weightsEach Try.prog (Try.f12.params.toList ++ Rows.noteAsksSpec.plain.varTypes Try.prog) (ds ++ gs)).all (· ≤ reachBytes) = true := hsz0
  have hW' := hW
  obtain ⟨p, q, hA0, hV, rfl, hfz, hnd⟩ := hW
  have hA : DataW.TrodAll enc Try.prog W 0 (fun _ => true) true Try.f12.params.toList args.toList ds p := hA0
  rw [Try.params12] at hA hval hsz
  obtain ⟨v0, vs0, d0, ds0, p0, q0, hargs, rfl, rfl, h0, r0⟩ := trodAll_cons hA
  obtain ⟨v1, vs1, d1, ds1, p1, q1, rfl, rfl, rfl, h1, r1⟩ := trodAll_cons r0
  obtain ⟨rfl, rfl, rfl⟩ := trodAll_nil r1
  obtain rfl : args = #[v0, v1] := by cases args; simp_all
  obtain ⟨rfl, rfl⟩ := trodVars_none hV
  have k0 := h0
  have lt0 : ∀ x ∈ p0, x.block < W.heap.size := by obtain ⟨m, hm⟩ := k0; exact DataW.trod_lt m _ _ _ hm
  have k1 := h1
  have lt1 : ∀ x ∈ p1, x.block < W.heap.size := by obtain ⟨m, hm⟩ := k1; exact DataW.trod_lt m _ _ _ hm
  obtain ⟨x0, u0, s0, rfl, l0, m0, i0⟩ := req_of_trod (hval 0 88 v0 rfl rfl) h0
  obtain ⟨a1, l1, c1, rfl⟩ := okWide_slice Try.underlying34 (hval 1 34 v1 rfl rfl)
  obtain ⟨x1, y1⟩ : ∃ zs, RowAt W (.slice a1 l1 c1) zs ∧ zs.length ≤ 140737488351232 := by
    obtain ⟨m, hm⟩ := h1
    obtain ⟨v, zs, e, hr, hz⟩ := row_of_trod hm (each_le hsz (j := 1) rfl rfl)
    simp [Value.cells] at e
    subst e
    exact ⟨zs, hr, hz⟩
  clear hA0 hval0
  refine (asks16_any W x0 u0 s0 (.slice a1 l1 c1) x1 l0 m0 y1.1).mono fun e W' ⟨he, hk⟩ => ?_
  subst he
  have bel : Below W.heap.size W W' := hk.below (Nat.le_refl _) (by simp)
  exact ⟨_, rfl, _, _, _, [], _, [], hW', trodAll_mk1 (shut_bool Try.underlying4 _), (trodAll_cons_mk (Below.trod laidOut (by kernel_rfl) (of_decide_eq_true (by kernel_rfl)) k0 bel lt0) (trodAll_cons_mk (Below.trod laidOut (by kernel_rfl) (of_decide_eq_true (by kernel_rfl)) k1 bel lt1) trodAll_mk0)), rfl, bel.frame _, fun h => by cases h⟩

theorem asks16_holds : Rows.NoteAsksSaid :=
  OpenClaim.holds_of_wide 12 Try.f12 rfl rfl rfl rfl rfl rfl rfl ⟨rfl, rfl, rfl, rfl, rfl⟩ rfl rfl rfl rfl rfl (by kernel_rfl) Try.func12 (by kernel_rfl)
    (of_decide_eq_true (by kernel_rfl)) (by unfold Func.isWrapper; rw [if_neg (of_decide_eq_false (by kernel_rfl))]; exact ⟨rfl, rfl⟩)
    (fun os started H enc _ => asks16_lifted os started H enc)
end Go.Proofs.Ytoglcohdanpciaa
