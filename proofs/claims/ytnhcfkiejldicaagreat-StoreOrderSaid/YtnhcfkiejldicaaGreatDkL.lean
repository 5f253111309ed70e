/- Crash. -/
import Derived.Test.YtnhcfkiejldicaaGreatDkK
import Derived.Sort.MapsRangeIn
namespace Go.Proofs.YtnhcfkiejldicaaGreat
open Go.RowKit Go.Shelf Go.Maps
attribute [local go_sem] Oper.semAt_some

/-- What a write that is left makes of a sector. -/
def crashStep (f : Nat → Row × Row) (x : Nat × Row) : Nat → Row × Row := upd f x.1 (x.2, x.2)
def crashRow (s : DS) (ch : List Int) : Nat → Row := (keptBy ch s.loose).foldl (fun g x => upd g x.1 x.2) s.las
def DS.crashed (s : DS) (ch : List Int) : DS := ⟨s.cnt, crashRow s ch, crashRow s ch, [], -1, 0, false⟩

theorem crashF_is (l : List (Nat × Row)) : ∀ (g : Nat → Row) (i : Nat), (l.foldl crashStep fun i => (g i, g i)) i = (l.foldl (fun g x => upd g x.1 x.2) g i, l.foldl (fun g x => upd g x.1 x.2) g i) := by
  induction l with
  | nil => intro g i; rfl
  | cons x l ih =>
    intro g i
    have e : crashStep (fun i => (g i, g i)) x = fun i => (upd g x.1 x.2 i, upd g x.1 x.2 i) := by
      funext j
      by_cases h : j = x.1 <;> simp [crashStep, upd, h]
    rw [List.foldl_cons, List.foldl_cons, e]
    exact ih _ i

theorem ranges_block {H : Type} {P : Program} {k : TypeId} {R : Value → Option (DataW H × List MemPlace)} {w w' : World} {b r n : Nat} {D : DataW H} {left : Lit → Bool} {cnt : Nat}
    (h : w.ranges P k R b r n D left cnt) (hb : w'.heap[b]? = w.heap[b]?) (hr : w'.heap[r]? = w.heap[r]?) : w'.ranges P k R b r n D left cnt := by
  obtain ⟨es, clock, since, seen, c0, h1, F, hs, hD, h2, rest⟩ := h
  exact ⟨es, clock, since, seen, c0, hb.trans h1, F, hs, hD, hr.trans h2, rest⟩

theorem ranges_lt {H : Type} {P : Program} {k : TypeId} {R : Value → Option (DataW H × List MemPlace)} {w : World} {b r n : Nat} {D : DataW H} {left : Lit → Bool} {cnt : Nat}
    (h : w.ranges P k R b r n D left cnt) : b < w.heap.size ∧ r < w.heap.size := by
  obtain ⟨es, clock, since, seen, c0, h1, F, hs, hD, h2, rest⟩ := h
  exact ⟨lt_of_block h1, lt_of_block h2⟩

section
variable {F : Fence} {n : Nat} {ops : Array Oper} {rest : List Oper} {o : Oper} {a : Act} {w : World} {Q : Exit → Act → World → Prop}
theorem wpListIn_allocSec (hgd : o.guard = none) (ho : o.op = .alloc 116)
    (h : wpListIn F n Tryz.prog ops Q rest (a.put o.dst (.pointer (some ⟨w.heap.size, 0, none⟩))) (w.alloc (.cells (zrow.cells ++ zrow.cells).toArray 116))) : wpListIn F n Tryz.prog ops Q (o :: rest) a w := by
  refine wpListIn_is hgd (by simp [noDefer, ho]) (fun w => by simp [Oper.about, ho]) _ _ ?_ h
  simp only [execOp, ho, Instr.alloc, newVar, newRow, Sem.run_bind, zeroSec, secV_cells, Result.andThen_ok, Sem.run_pure, run_newObj_alloc]

theorem wpListIn_storeSecNew (hgd : o.guard = none) (x y : Operand) (ho : o.op = .store 116 x y) (W : World) (p q r s : Row) (hw : w = W.alloc (.cells (p.cells ++ q.cells).toArray 116)) (N : Nat) (hx : a.eval x = .pointer (some ⟨N, 0, none⟩)) (hN : N = W.heap.size)
    (hy : a.eval y = secV r s)
    (h : wpListIn F n Tryz.prog ops Q rest (a.put o.dst undef) (W.alloc (.cells (r.cells ++ s.cells).toArray 116))) : wpListIn F n Tryz.prog ops Q (o :: rest) a w := by
  subst hN
  subst hw
  have hd' : ∀ c, o.op ≠ .defer c := fun c e => by simp [ho] at e
  refine wpListIn_plain hgd fun K hK => ?_
  unfold Oper.wpIn
  have hr := run_storeAt_new (P := Tryz.prog) W 116 (p.cells ++ q.cells).toArray (r.cells ++ s.cells).toArray (by rw [sSec]; simp) (by simp) (secV_one _ _)
  have hy' : a.eval y = .agg (r.cells ++ s.cells).toArray := hy
  refine ⟨fun f hf => by simp [Oper.about, ho] at hf, ?_⟩
  rw [Oper.semAt_eq _ _ _ hd']
  unfold execOp
  simp only [ho, hx, hy', hr, Sem.run_bind, Result.andThen_ok]
  exact hK _ _ h
end

theorem loadRow_run (w : World) (b off : Nat) (r : Row) (hc : w.rangeAt b off r.cells) : (Instr.loadAt 112 (.pointer (some ⟨b, off, none⟩))).run Tryz.prog w = .ok (rowV r) w :=
  run_loadAt_mid w b off 112 r.cells _ hc uRow rfl (by rw [sRow, r.len])

theorem rowat_lt {w : World} {v : Value} {zs : List Int} (h : RowAt w v zs) (hne : zs ≠ []) : ∀ b, v.ownBlock = some b → b < w.heap.size := by
  intro b hb
  obtain ⟨a, cap, rfl, _, _, _, _, h5⟩ := h
  cases a with
  | none => cases hb
  | some ad =>
    injection hb with hb
    subst hb
    have hl : 0 < zs.length := List.length_pos_iff.2 hne
    have := World.block_lt_of_cell? w _ (h5 ad rfl 0 (.int .u8 zs[0]) (by simp [List.getElem?_eq_getElem hl]))
    rwa [Addr.add_block] at this

theorem rowat_off {w : World} {v : Value} {zs : List Int} (h : RowAt w v zs) {S : List Nat} (hS : ∀ k ∈ S, w.heap.size ≤ k) : Off S v zs := by
  intro ad n c e hne hm
  have := rowat_lt h hne ad.block (by rw [e]; rfl)
  have := hS _ hm
  omega

theorem ownsMap_block {H : Type} {P : Program} {k : TypeId} {R : Value → Option (DataW H × List MemPlace)} {w w' : World} {b n : Nat} {D : DataW H} (h : w.ownsMap P k R b n D) (hb : w'.heap[b]? = w.heap[b]?) : w'.ownsMap P k R b n D := by
  obtain ⟨es, clock, h1, h2⟩ := h
  exact ⟨es, clock, hb.trans h1, h2⟩

theorem entry_facts {s : DS} {D : DataW H2} (hD : (∀ i, D.atKey (kl i) (.held (zrow, zrow)) = .held (s.now i, s.las i)) ∧ ∀ k, Maps.has D k = true → ∃ i, i < s.cnt ∧ k = kl i) {x : Int} {a b : Row} {k : Lit} {y : DataW H2 × List MemPlace}
    (hkey : keyOf Tryz.prog 3 (.int .i64 x) = some k) (hv : RS (secV a b) = some y) (hat : ∀ zd, D.atKey k zd = y.1) : ∃ i : Nat, i < s.cnt ∧ x = (i : Int) ∧ k = kl i ∧ a = s.now i ∧ b = s.las i := by
  obtain ⟨i, hi, rfl⟩ := hD.2 k (Maps.has_true_of_atKey hat)
  obtain ⟨x', e1, e2, _⟩ := Maps.keyOf_int_inv uInt hkey
  injection e1 with _ e1
  subst e1
  injection e2 with _ e2
  rw [RS_sec] at hv
  injection hv with hv
  subst hv
  have := hat (.held (zrow, zrow))
  rw [hD.1 i] at this
  injection this with this
  exact ⟨i, hi, e2.symm, rfl, (congrArg Prod.fst this).symm, (congrArg Prod.snd this).symm⟩

/-- The new disk's map while the old one's is walked. -/
def fresh (s : DS) (left : Lit → Bool) (i : Nat) : Row × Row := if left (kl i) then (zrow, zrow) else (s.las i, s.las i)

/-- New. -/
theorem newAt_any (c : Nat) (h1 : 2 ≤ c) (h2 : c ≤ 4160) (w : World) :
    Calls Tryz.prog 6 #[.int .i64 c] w fun e w' => ∃ p F, e = .returned (.tuple #[.pointer (some ⟨p, 0, none⟩), .int .i64 0]) ∧ DiskAt w' p (blankS c) F 0 ∧ (∀ b ∈ F, w.heap.size ≤ b) ∧ Keeps [] w w' := by
  refine (new_any c h1 h2 w).mono ?_
  rintro e w' ⟨p, m, rfl, D, kp, l1, l2⟩
  refine ⟨p, foot p m (.slice none 0 0), rfl, ⟨⟨h1, h2, by simp [blankS], by simp [blankS], by simp [blankS], fun i _ => rfl⟩, m, _, 0, D, rfl, by simp [blankS]⟩, ?_, kp⟩
  intro b hb
  simp only [foot, Value.ownBlock, Option.toList, List.mem_cons, List.not_mem_nil, or_false] at hb
  rcases hb with rfl | rfl
  · exact l1
  · exact l2

/-- Read. -/
theorem readAt_any (w : World) (p : Nat) (s : DS) (F : List Nat) (K : Nat) (H : DiskAt w p s F K) (k : Int) :
    Calls Tryz.prog 70 #[.pointer (some ⟨p, 0, none⟩), .int .i64 k] w fun e w' => ∃ v, e = .returned (.tuple #[v, .int .i64 (readE s k)]) ∧ RowAt w' v (readB s k) ∧ NewV w v ∧ Keeps [] w w' := by
  obtain ⟨ok, m, lv, n, hi, _, _⟩ := H
  exact read_any w p m n lv s hi ok.lo ok.hi k

def fuseS (s : DS) (k : Int) : DS := if s.dead then s else { s with fuse := k }

theorem deadAt_any (w : World) (p : Nat) (s : DS) (F : List Nat) (K : Nat) (H : DiskAt w p s F K) : Calls Tryz.prog 31 #[.pointer (some ⟨p, 0, none⟩)] w fun e w' => e = .returned (.bool s.dead) ∧ w = w' := by
  obtain ⟨ok, m, lv, n, hi, _, _⟩ := H
  exact dead_any w p m n lv s hi ok.lo
theorem sectorsAt_any (w : World) (p : Nat) (s : DS) (F : List Nat) (K : Nat) (H : DiskAt w p s F K) : Calls Tryz.prog 42 #[.pointer (some ⟨p, 0, none⟩)] w fun e w' => e = .returned (.int .i64 s.cnt) ∧ w = w' := by
  obtain ⟨ok, m, lv, n, hi, _, _⟩ := H
  exact sectors_any w p m n lv s hi ok.lo

end Go.Proofs.YtnhcfkiejldicaaGreat
