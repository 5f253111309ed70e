/- note: bytes of one's own, cut, longer; how long a request's and a reply's bytes are. -/
import Derived.Test.YtoglcohdanpciaaNtK
namespace Go.Proofs.Ytoglcohdanpciaa
open Go.RowKit Go.Shelf
set_option maxRecDepth 100000
set_option linter.unusedSimpArgs false
set_option linter.unusedVariables false
theorem exec_sliceN {ρ : Operand → Value} {o : Oper} {w : World} (t : TypeId) (x : Operand) (lo hi mx : Option Operand) (v : Value) (ho : o.op = .slice t x lo hi mx) (h : (Instr.sliceAt t (ρ x) (lo.map ρ) (hi.map ρ) (mx.map ρ)).run Try.prog w = .ok v w) : (execOp ρ o).run Try.prog w = .ok (.value v) w := by
  simp [execOp, ho, h, Result.andThen]
theorem append_bN {w : World} {B : Nat} {v : Value} {zs es : List Int} (h : w.ownsRow B 5 1 v zs.length (zs.map (Value.int .u8))) (A : Option Addr) (n c : Nat) (hs : RowAt w (.slice A n c) es) (hl : zs.length + es.length ≤ 100000) (hB : B ≤ w.heap.size) (ty : TypeId) :
    ∃ a' c' w', (Builtin.append_ #[34, 34] ty #[v, .slice A n c]).run Try.prog w = .ok (.slice a' (zs ++ es).length c') w' ∧ w'.ownsRow B 5 1 (.slice a' (zs ++ es).length c') (zs ++ es).length ((zs ++ es).map (Value.int .u8)) ∧ Keeps v.ownBlock.toList w w' := by
  obtain ⟨i, hi, hz, hz3, hz40⟩ := info_parts info5
  obtain ⟨a0, c0, hv0, h1, h2, h0, hb, h4⟩ := id hs
  injection hv0 with e1 e2 e3
  subst e1; subst e2; subst e3
  obtain ⟨a', c', w', hr, ho, hg, hn⟩ := run_append_rowsO (P := Try.prog) w B 34 ty 5 i _ 1 1 Try.underlying34 hi hz hz3 hz40 rfl (by omega) v zs.length (zs.map (Value.int .u8)) h A es.length c (es.map (Value.int .u8)) (by simp) h0 h1
    (fun ad had j u hu => h4 ad had j u hu) (fun u hu => by obtain ⟨z, _, rfl⟩ := List.mem_map.1 hu; rfl) (by unfold maxLen; omega) (by omega) hB
  rw [← List.length_append] at hr ho
  exact ⟨a', c', w', hr, by rw [List.map_append]; exact ho, (Keeps.refl _ _).grown hg (fun k hk => Or.inl (by simp [hk]))⟩
theorem exec_oneB {ρ : Operand → Value} {o : Oper} {w : World} (x : Operand) (c : Int) (ho : o.op = .buildSlice 34 1 #[(0, x)]) (hx : ρ x = .int .u8 c) :
    (execOp ρ o).run Try.prog w = .ok (.value (.slice (some ⟨w.heap.size, 0, none⟩) 1 1)) (w.alloc (.cells #[.int .u8 c] 5)) := by
  obtain ⟨ie, hie, hz, hs, _⟩ := info_parts info5
  have h : (Instr.buildSlice 34 1 #[(0, .int .u8 c)]).run Try.prog w = .ok (.slice (some ⟨w.heap.size, 0, none⟩) 1 1) (w.alloc (.cells #[.int .u8 c] 5)) := by
    refine run_buildSlice w _ _ 1 _ _ ie _ Try.underlying34 hie hz (by rw [hs]; decide) (by rw [hs]; decide) ?_
    rw [hs]
    have e : (Array.range (1 * 1)) = #[0] := rfl
    have e2 : (Value.int .u8 0).cells = #[.int .u8 0] := rfl
    have e3 : ∀ c, (Value.int .u8 c).cells = #[.int .u8 c] := fun _ => rfl
    simp only [Instr.fill, e, e2, e3]
    simp
  simp only [execOp, ho, List.map_toArray, List.map_cons, List.map_nil, hx, Sem.run_bind, h, Result.andThen_ok, Sem.run_pure]
theorem wrap8N (x : Int) : 0 ≤ IntKind.u8.wrap x ∧ IntKind.u8.wrap x ≤ 255 := by
  have : IntKind.u8.wrap x = x % 256 := rfl
  omega
theorem flat_le {α : Type} (f : α → List Int) (k : Nat) : ∀ l : List α, (∀ x ∈ l, (f x).length ≤ k) → (l.flatMap f).length ≤ l.length * k
  | [], _ => by simp
  | x :: l, h => by
    rw [List.flatMap_cons, List.length_append, List.length_cons, Nat.add_mul, Nat.one_mul]
    have h1 := h x (by simp)
    have h2 := flat_le f k l (fun y hy => h y (by simp [hy]))
    omega
theorem szB_len (x : Sz) : (szC.b x).length = 10 := by
  show (be x.c 1 ++ (be x.l 3 ++ (be x.n 4 ++ be x.s 2))).length = 10
  simp [be_length]
theorem enB_len (x : Ent) : (enC.b x).length = 5 + x.nm.size := by
  show ((be x.nm.size 2 ++ codes x.nm) ++ (be x.ino 2 ++ be (bitI x.dir) 1)).length = _
  simp [be_length, codes_length]
  omega
theorem rqB_len {r : Rq} (h1 : r.pa.size ≤ 300) (h2 : r.tp.size ≤ 300) (h3 : r.ss.length ≤ 4000) (h4 : r.dl.length ≤ 500) : (rqC.b r).length ≤ 60000 := by
  have a := flat_le szC.b 10 r.ss (fun x _ => by rw [szB_len]; omega)
  have b := flat_le bytesD 28 r.dl (fun x _ => (bytesD_len x).2)
  show (be r.cl 1 ++ (be r.lf 3 ++ (be r.sq 4 ++ (be r.dO 1 ++ ((be r.pa.size 2 ++ codes r.pa) ++ ((be r.tp.size 2 ++ codes r.tp) ++ (be (bitI r.di) 1 ++ (be (bitI r.wr) 1 ++ (be (bitI r.cz) 1 ++ (be r.ha 1 ++ (be r.nx 4 ++ (be r.sw 3 ++ ((be r.ss.length 2 ++ r.ss.flatMap szC.b) ++ (be r.dl.length 2 ++ r.dl.flatMap bytesD)))))))))))))).length ≤ 60000
  simp only [List.length_append, be_length, codes_length]
  omega
theorem rpB_len {r : Rp} (h1 : r.mp.length ≤ 2000) (h2 : r.es.length ≤ 100) (h3 : ∀ x ∈ r.es, x.nm.size ≤ 100) : (rpC.b r).length ≤ 20000 := by
  have a := flat_le enC.b 105 r.es (fun x hx => by rw [enB_len]; have := h3 x hx; omega)
  show (be r.e 1 ++ (be r.ino 2 ++ (be r.sz 2 ++ (be r.ha 1 ++ (be r.sw 3 ++ (be (bitI r.di) 1 ++ ((be r.es.length 2 ++ r.es.flatMap enC.b) ++ (be r.mp.length 2 ++ r.mp)))))))).length ≤ 20000
  simp only [List.length_append, be_length]
  omega
/-- Replies of whatever E a byte holds. -/
def rp0C : Cdc Rp := mapC (seqC (nC 1) (seqC (nC 2) (seqC (nC 2) (seqC (nC 1) (seqC (nC 3) (seqC boC (seqC (lsC enC) rowC))))))) Rp.of Rp.t
theorem rp0C_ok : rp0C.Ok := mapC_ok (seqC_ok (nC_ok (by decide) (by decide)) (seqC_ok (nC_ok (by decide) (by decide)) (seqC_ok (nC_ok (by decide) (by decide)) (seqC_ok (nC_ok (by decide) (by decide)) (seqC_ok (nC_ok (by decide) (by decide)) (seqC_ok boC_ok (seqC_ok (lsC_ok enC_ok) rowC_ok))))))) (fun _ => rfl) (fun _ => rfl)
theorem encP_ok0 {r : Rp} (h : (encP r).2 = 0) : (encP r).1 = rpC.b r ∧ rp0C.f r := by
  unfold encP at h ⊢
  by_cases h3 : 4000 < r.es.length
  · rw [if_pos h3] at h; cases h
  · rw [if_neg h3] at h ⊢
    have hz : (rpC.p r ([], 0)).2 = 0 := h
    obtain ⟨e1, e2⟩ := rpC_ok.pok r [] hz
    refine ⟨?_, ?_⟩
    · unfold endS
      rw [e1]
      simp
    · obtain ⟨f1, f2, f3, f4, f5, f6, f7, f8⟩ := e2
      exact ⟨f1, f2, f3, f4, f5, f6, ⟨by show r.es.length ≤ 4000; omega, fun x hx => f7.2 x hx⟩, f8⟩
theorem rp_inj {r q : Rp} (h1 : rp0C.f r) (h2 : rp0C.f q) (h : rpC.b r = rpC.b q) : r = q := inj_b rp0C_ok h1 h2 h
end Go.Proofs.Ytoglcohdanpciaa
