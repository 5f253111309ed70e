/- left: the walk over the writes that a choice leaves. -/
import Derived.Test.YtnhcfkiejldicaaGreatDkI
import Derived.Test.YtnhcfkiejldicaaGreatOpenC
namespace Go.Proofs.YtnhcfkiejldicaaGreat
open Go.RowKit Go.Shelf
attribute [local go_sem] Oper.semAt_some

/-- Behind a step all blocks below n₀ are as they were, but those of S. -/
structure KpS (S : List Nat) (n₀ : Nat) (A B : World) : Prop where
  os : B.os = A.os
  tape : B.tape = A.tape
  output : B.output = A.output
  size : A.heap.size ≤ B.heap.size
  block : ∀ k, k < n₀ → k ∉ S → B.heap[k]? = A.heap[k]?

theorem KpS.refl (S : List Nat) (n₀ : Nat) (A : World) : KpS S n₀ A A := ⟨rfl, rfl, rfl, Nat.le_refl _, fun _ _ _ => rfl⟩
theorem KpS.trans {S : List Nat} {n₀ : Nat} {A B C : World} (h : KpS S n₀ A B) (k : KpS S n₀ B C) : KpS S n₀ A C :=
  ⟨k.os.trans h.os, k.tape.trans h.tape, k.output.trans h.output, Nat.le_trans h.size k.size, fun i hi hs => (k.block i hi hs).trans (h.block i hi hs)⟩
theorem KpS.alloc {S : List Nat} {n₀ : Nat} {A B : World} (h : KpS S n₀ A B) (hn : n₀ ≤ B.heap.size) (o : Obj) : KpS S n₀ A (B.alloc o) :=
  h.trans ⟨rfl, rfl, rfl, by simp, fun k hk _ => Below.heap_alloc _ _ _ (by omega)⟩
theorem KpS.keeps {S T : List Nat} {n₀ : Nat} {A B C : World} (h : KpS S n₀ A B) (k : Keeps T B C) (hn : n₀ ≤ B.heap.size) (hT : ∀ i ∈ T, i < n₀ → i ∈ S) : KpS S n₀ A C :=
  h.trans ⟨k.os, k.tape, k.output, k.size, fun i hi hs => k.block i (by omega) (fun hm => hs (hT i hm hi))⟩
theorem KpS.below {S : List Nat} {n₀ m : Nat} {A B : World} (h : Below m A B) (hm : n₀ ≤ m) : KpS S n₀ A B :=
  ⟨h.os, h.tape, h.output, h.size, fun k hk _ => h.block k (by omega)⟩
theorem KpS.toKeeps {S : List Nat} {A B : World} (h : KpS S A.heap.size A B) : Keeps S A B := ⟨h.os, h.tape, h.output, h.size, h.block⟩
theorem KpS.cell {S : List Nat} {n₀ : Nat} {A B : World} (h : KpS S n₀ A B) {b o : Nat} {v : Value} (hc : A.cell? ⟨b, o, none⟩ = some v) (hb : b < n₀) (hs : b ∉ S) : B.cell? ⟨b, o, none⟩ = some v := by
  rw [World.cell?_of_block (w := A) (h.block b hb hs)]; exact hc
theorem KpS.range {S : List Nat} {n₀ : Nat} {A B : World} (h : KpS S n₀ A B) {b o : Nat} {l : List Value} (hc : A.rangeAt b o l) (hb : b < n₀) (hs : b ∉ S) : B.rangeAt b o l := fun j u hu => h.cell (hc j u hu) hb hs
theorem KpS.putObj {S : List Nat} {n₀ : Nat} {w : World} (hn : n₀ ≤ w.heap.size) (W : World) (l : Nat) (o o' : Obj) (hl : w.heap.size ≤ l) (_ : W.heap[l]? = some o) (_ : o.isCells = false) (_ : o.isWalk = false) : KpS S n₀ W (W.putObj l o') :=
  ⟨rfl, rfl, rfl, by simp, fun k hk _ => World.putObj_heap_other (by omega)⟩

/-- Is the i-th write left? -/
def isLeft (ch : List Int) (i : Nat) : Bool := decide (ch.length ≤ i) || (ch.getD i 0 % 2 == 1)
def keptBy (ch : List Int) (l : List (Nat × Row)) : List (Nat × Row) := (l.zipIdx.filter fun x => isLeft ch x.2).map (·.1)

theorem keptBy_snoc (ch : List Int) (l : List (Nat × Row)) (x : Nat × Row) : keptBy ch (l ++ [x]) = keptBy ch l ++ if isLeft ch l.length then [x] else [] := by
  unfold keptBy
  rw [List.zipIdx_append]
  simp only [List.filter_append, List.map_append, List.zipIdx_cons, List.zipIdx_nil, Nat.zero_add]
  congr 1
  by_cases h : isLeft ch l.length = true <;> simp [h]

theorem keptBy_take (ch : List Int) (l : List (Nat × Row)) (k : Nat) (h : k < l.length) : keptBy ch (l.take (k + 1)) = keptBy ch (l.take k) ++ if isLeft ch k then [l[k]] else [] := by
  rw [List.take_succ_eq_append_getElem h, keptBy_snoc]
  simp [List.length_take, Nat.min_eq_left (Nat.le_of_lt h)]

theorem keptBy_len (ch : List Int) (l : List (Nat × Row)) : (keptBy ch l).length ≤ l.length := by
  unfold keptBy
  have := List.length_filter_le (fun x : (Nat × Row) × Nat => isLeft ch x.2) l.zipIdx
  simpa using this

theorem keptBy_nil (l : List (Nat × Row)) : keptBy [] l = l := by
  unfold keptBy
  have : (l.zipIdx.filter fun x => isLeft [] x.2) = l.zipIdx := List.filter_eq_self.2 (by intro x _; simp [isLeft])
  rw [this]
  simp

theorem lcells_at : ∀ (l : List (Nat × Row)) (k : Nat) (h : k < l.length) (j : Nat), j < 65 → (lcells l)[k * 65 + j]? = (Value.int .i64 (l[k].1 : Int) :: l[k].2.cells)[j]?
  | x :: l, 0, _, j, hj => by
    simp only [lcells, List.flatMap_cons, Nat.zero_mul, Nat.zero_add, List.getElem_cons_zero]
    rw [List.getElem?_append_left (by simp; omega)]
  | x :: l, k + 1, h, j, hj => by
    have ih := lcells_at l k (by simpa using h) j hj
    simp only [lcells, List.flatMap_cons, List.getElem_cons_succ] at ih ⊢
    rw [List.getElem?_append_right (by simp; omega)]
    rw [← ih]
    congr 1
    simp
    omega

/-- The disk's row of writes, to be read. -/
def LooseAt (w : World) (v : Value) (l : List (Nat × Row)) : Prop :=
  ∃ a cap, v = .slice a l.length cap ∧ ∀ k (h : k < l.length), ∃ g, a = some ⟨g, 0, none⟩ ∧ w.rangeAt g (k * 65) (.int .i64 (l[k].1 : Int) :: l[k].2.cells)

theorem looseAt_of {w : World} {v : Value} {l : List (Nat × Row)} (h : w.ownsRow 0 114 65 v l.length (lcells l)) : LooseAt w v l := by
  rcases h.2 with ⟨rfl, h0⟩ | ⟨g, cap, cur, rfl, _, hg, hnc, _, _, ht⟩
  · exact ⟨none, 0, by rw [h0], fun k hk => absurd hk (by omega)⟩
  · refine ⟨_, cap, rfl, fun k hk => ⟨g, rfl, fun j u hu => ?_⟩⟩
    have hj : j < 65 := by
      have := (List.getElem?_eq_some_iff.1 hu).1
      simpa using this
    rw [cell_of_row w g _ cur 114 (0, 0) hg, ← hu, ← lcells_at l k hk j hj, ← ht, List.getElem?_take_of_lt (by omega)]
    simp

section
variable {F : Fence} {n : Nat} {ops : Array Oper} {rest : List Oper} {o : Oper} {a : Act} {w : World} {Q : Exit → Act → World → Prop}

theorem wpListIn_is (hgd : o.guard = none) (hd : noDefer o = true) (ha : ∀ w, o.about Tryz.prog w a.eval = none) (v : Value) (w' : World) (hrun : (execOp a.eval o).run Tryz.prog w = .ok (.value v) w') (h : wpListIn F n Tryz.prog ops Q rest (a.put o.dst v) w') : wpListIn F n Tryz.prog ops Q (o :: rest) a w := by
  have hd' : ∀ c, o.op ≠ .defer c := fun c e => by simp [noDefer, e] at hd
  refine wpListIn_plain hgd fun K hK => ?_
  unfold Oper.wpIn
  rw [Oper.semAt_eq _ _ _ hd', hrun, Oper.uponIn_value]
  exact ⟨fun f hf => (by rw [ha] at hf; cases hf), hK _ _ h⟩

theorem opIn_loadWr {K : Act → World → Prop} (x : Operand) (ho : o.op = .load 114 x) (b off : Nat) (hx : a.eval x = .pointer (some ⟨b, off, none⟩)) (i : Int) (r : Row) (hc : w.rangeAt b off (.int .i64 i :: r.cells))
    (h : K (a.put o.dst (wrV i r)) w) : o.wpIn F n Tryz.prog a w K Q := by
  have hd' : ∀ c, o.op ≠ .defer c := fun c e => by simp [ho] at e
  have hr := exec_load (P := Tryz.prog) (ρ := a.eval) (w := w) _ _ _ _ ho hx (run_loadAt_mid w b off 114 (.int .i64 i :: r.cells) _ hc uWr rfl (by rw [sWr]; simp))
  unfold Oper.wpIn
  rw [Oper.semAt_eq _ _ _ hd', hr, Oper.uponIn_value]
  exact ⟨fun f hf => by simp [Oper.about, ho] at hf, h⟩

theorem wpListIn_loadWr (hgd : o.guard = none) (x : Operand) (ho : o.op = .load 114 x) (b off : Nat) (hx : a.eval x = .pointer (some ⟨b, off, none⟩)) (i : Int) (r : Row) (hc : w.rangeAt b off (.int .i64 i :: r.cells))
    (h : wpListIn F n Tryz.prog ops Q rest (a.put o.dst (wrV i r)) w) : wpListIn F n Tryz.prog ops Q (o :: rest) a w := by
  refine wpListIn_is hgd (by simp [noDefer, ho]) (fun w => by simp [Oper.about, ho]) _ _ (exec_load _ _ _ _ ho hx ?_) h
  exact run_loadAt_mid w b off 114 (.int .i64 i :: r.cells) _ hc uWr rfl (by rw [sWr]; simp)

theorem wpListIn_allocWr (hgd : o.guard = none) (ho : o.op = .alloc 114)
    (h : wpListIn F n Tryz.prog ops Q rest (a.put o.dst (.pointer (some ⟨w.heap.size, 0, none⟩))) (w.alloc (.cells (.int .i64 0 :: zrow.cells).toArray 114))) : wpListIn F n Tryz.prog ops Q (o :: rest) a w := by
  refine wpListIn_is hgd (by simp [noDefer, ho]) (fun w => by simp [Oper.about, ho]) _ _ ?_ h
  simp only [execOp, ho, Instr.alloc, newVar, newRow, Sem.run_bind, zeroWr, wrV_cells, Result.andThen_ok, Sem.run_pure, run_newObj_alloc]

theorem wpListIn_storeWrNew (hgd : o.guard = none) (x y : Operand) (ho : o.op = .store 114 x y) (W : World) (p r : Row) (q i : Int) (hw : w = W.alloc (.cells (.int .i64 q :: p.cells).toArray 114)) (N : Nat) (hx : a.eval x = .pointer (some ⟨N, 0, none⟩)) (hN : N = W.heap.size)
    (hy : a.eval y = wrV i r)
    (h : wpListIn F n Tryz.prog ops Q rest (a.put o.dst undef) (W.alloc (.cells (.int .i64 i :: r.cells).toArray 114))) : wpListIn F n Tryz.prog ops Q (o :: rest) a w := by
  subst hN
  subst hw
  have hd' : ∀ c, o.op ≠ .defer c := fun c e => by simp [ho] at e
  refine wpListIn_plain hgd fun K hK => ?_
  unfold Oper.wpIn
  have hr := run_storeAt_new (P := Tryz.prog) W 114 (.int .i64 q :: p.cells).toArray (.int .i64 i :: r.cells).toArray (by rw [sWr]; simp) (by simp) (wrV_one _ _)
  have hy' : a.eval y = .agg (.int .i64 i :: r.cells).toArray := hy
  refine ⟨fun f hf => by simp [Oper.about, ho] at hf, ?_⟩
  rw [Oper.semAt_eq _ _ _ hd']
  unfold execOp
  simp only [ho, hx, hy', hr, Sem.run_bind, Result.andThen_ok]
  exact hK _ _ h
end

theorem dleft_any (w : World) (p : Nat) (a : Option Addr) (len cap : Nat) :
    Calls Tryz.prog 75 #[.pointer (some ⟨p, 0, none⟩), .slice a len cap] w fun e w' => e = .returned (.func (.func 91) #[] #[.pointer (some ⟨w.heap.size, 0, none⟩), .pointer (some ⟨w.heap.size + 1, 0, none⟩)]) ∧
      (w.alloc (.cells #[.pointer (some ⟨p, 0, none⟩)] 24)).alloc (.cells #[.slice a len cap] 22) = w' := by
  go_enter Tryz.func75, Tryz.ntmps75
  go_wp2_with fail
  go_ret
  exact ⟨rfl, rfl⟩

theorem isLeft_beyond {ch : List Int} {k : Nat} (h : ch.length ≤ k) : isLeft ch k = true := by simp [isLeft, h]
theorem isLeft_within {ch : List Int} {k : Nat} (h : k < ch.length) : isLeft ch k = (ch.getD k 0 % 2 == 1) := by
  have : decide (ch.length ≤ k) = false := by simp; omega
  simp only [isLeft, this, Bool.false_or]

set_option maxRecDepth 100000 in
set_option maxHeartbeats 4000000 in
theorem left1_in (n : Nat) (hn : 1 ≤ n) (l Bd Bc p n₀ : Nat) (S : List Nat) (lo : List (Nat × Row)) (ch : List Int) (hlo : lo.length ≤ 1000000000) (hch : ch.length ≤ 1000000000) (J Jx : List (Nat × Row) → World → Prop)
    (W : World) (hn0 : n₀ ≤ W.heap.size) (hJa : ∀ pre A (c : Array Value) t, J pre A → J pre (A.alloc (.cells c t)))
    (hY : ∀ pre x W, x ∈ lo → J pre W → pre.length < lo.length → YieldAt Fence.wide (n - 1) Tryz.prog l #[wrV x.1 x.2] W fun e W' =>
      (e = .returned (.bool true) ∧ J (pre ++ [x]) W' ∧ KpS S n₀ W W') ∨ (e = .returned (.bool false) ∧ Jx (pre ++ [x]) W'))
    (hBd : W.cell? ⟨Bd, 0, none⟩ = some (.pointer (some ⟨p, 0, none⟩))) (hBc : ∃ v, W.cell? ⟨Bc, 0, none⟩ = some v ∧ RowAt W v ch ∧ Off S v ch ∧ ∀ b, v.ownBlock = some b → ch ≠ [] → b < n₀)
    (hp : ∃ v, W.cell? ⟨p, 2, none⟩ = some v ∧ LooseAt W v lo ∧ ∀ b, v.ownBlock = some b → b < n₀ ∧ b ∉ S) (bc : Bc < n₀ ∧ Bc ∉ S) (h0 : J [] W) :
    CallsIn Fence.wide n Tryz.prog 91 #[.func (.yield l) #[] #[], .pointer (some ⟨Bd, 0, none⟩), .pointer (some ⟨Bc, 0, none⟩)] W fun e W' => (∃ v, e = .returned v) ∧
      ((∃ ys, ys = keptBy ch lo ∧ J ys W') ∨ (∃ pre, True ∧ Jx pre W')) := by
  obtain ⟨lv, c2, ⟨la, lcap, rfl, hla⟩, hlb⟩ := hp
  obtain ⟨cv, hcv, hrow, hoff, hcb⟩ := hBc
  have HROW := hid hrow
  obtain ⟨ca, ccap, rfl, q1, q2, q3, q4, q5⟩ := hrow
  refine callsIn_of_wp Tryz.func91 rfl trivial ?_ rfl
  simp only [Tryz.ntmps91, List.size_toArray, List.length_cons, List.length_nil, Nat.reduceAdd, Nat.reduceSub, Array.replicate_succ, Array.replicate_zero, List.push_toArray, List.append_toArray, List.nil_append, List.cons_append]
  have HL := hid hla
  have HB := hid hlb
  have HY := hid hY
  have HJa := hid hJa
  have HOF := hid hoff
  have HCB := hid hcb
  have H0 := hid h0
  clear hla hlb hY hJa q5 q4 q3 q2 q1 hoff hcb h0
  gi_wp2
  gi_loopw [12] (fun i wr => ∃ k : Nat, k ≤ lo.length ∧ i = .int .i64 k ∧ J (keptBy ch (lo.take k)) wr ∧ KpS S n₀ W wr)
    (fun i _ => lo.length - (intOf i).toNat)
  case atStart => exact ⟨0, Nat.zero_le _, rfl, by simpa [keptBy] using H0.out, KpS.refl _ _ _⟩
  case round =>
    obtain ⟨k, hk, rfl, hJs, hnx⟩ := hrel
    have HJ := hid hJs
    have HN := hid hnx
    have hsz := hnx.size
    clear hJs hnx
    by_cases hlt : k < lo.length
    · obtain ⟨g, hg, hr⟩ := HL.out k hlt
      subst hg
      have hgb := HB.out g rfl
      have RG := hid (HN.out.range hr hgb.1 hgb.2)
      have HT := hid (keptBy_take ch lo k hlt)
      have HLEN := hid (keptBy_len ch (lo.take k))
      have HMEM := hid (List.getElem_mem hlt)
      generalize lo[k] = x at *
      obtain ⟨xi, xr⟩ := x
      dsimp only at RG
      clear hr
      have hlen : (keptBy ch (lo.take k)).length < lo.length := by
        have := HLEN.out
        rw [List.length_take] at this
        omega
      obtain ⟨fn, tmps, assign, body, hy, hR⟩ := HY.out _ (xi, xr) (wr.alloc (.cells (.int .i64 (xi : Int) :: xr.cells).toArray 114)) HMEM.out (HJa.out _ _ _ _ HJ.out) hlen
      have HR := hid hR
      dsimp only at hy
      clear hR
      by_cases hc : ch.length ≤ k
      · have hct : ((k : Int) ≥ (ch.length : Int)) := by omega
        have IL := hid (isLeft_beyond hc)
        have cB := HN.out.cell hcv bc.1 bc.2
        have cb1 : Bc < wr.heap.size := World.block_lt_of_cell? wr _ cB
        clear hc
        gi_wp2_with (first | (refine wpListIn_loadWr rfl _ rfl _ _ rfl _ _ RG.out ?_) | (refine wpListIn_allocWr rfl rfl ?_) | (refine wpListIn_storeWrNew rfl _ _ rfl _ _ _ _ _ rfl _ rfl (by simp) rfl ?_) | (refine opIn_loadWr _ rfl _ _ rfl _ _ (rangeNew _ _ _) ?_) | fail)
        · refine HR.out.mono ?_
          rintro e W3 (⟨rfl, hJ3, hk3⟩ | ⟨rfl, hJx3⟩)
          · have HJ3 := hid hJ3
            have HK3 := hid hk3
            clear hJ3 hk3
            gi_wp2
            go_roundw
            case rel => exact ⟨k + 1, by omega, by simp, by rw [HT.out, IL.out]; exact HJ3.out, (HN.out.alloc (by omega) _).trans HK3.out⟩
            case measure => simp [intOf]; omega
          · have HJ3 := hid hJx3
            clear hJx3
            gi_wp2
            refine bodyPost_ret (results_none rfl _ _ _) rfl ?_
            exact ⟨⟨_, rfl⟩, .inr ⟨_, trivial, HJ3.out⟩⟩
      · have hck : k < ch.length := by omega
        have IL := hid (isLeft_within hck)
        obtain ⟨g2, off2, cap2, hv2, _, hcs⟩ := HROW.out.open (by omega)
        injection hv2 with hv2 _ hv3
        subst hv2
        subst hv3
        have hz1 := HROW.out.bytes _ (List.getElem_mem hck)
        have cB := HN.out.cell hcv bc.1 bc.2
        have cb1 : Bc < wr.heap.size := World.block_lt_of_cell? wr _ cB
        have cZ := HN.out.cell (hcs k hck) (HCB.out g2 rfl (by intro e; simp [e] at hck)) (HOF.out _ _ _ rfl (by intro e; simp [e] at hck))
        have cz1 : g2 < wr.heap.size := World.block_lt_of_cell? wr _ cZ
        have hgd : ch.getD k 0 = ch[k] := by simp [List.getD, List.getElem?_eq_getElem hck]
        rw [← hgd] at hz1
        generalize ch.getD k 0 = z at hz1 cZ IL hgd
        have hct : ¬ ((k : Int) ≥ (ch.length : Int)) := by omega
        have hct2 : (k : Int) < (ch.length : Int) := by omega
        clear hc hcs hgd
        by_cases hz : z % 2 = 1
        · have t0 : (z % 2 == 1) = true := by rw [hz]; rfl
          have IL2 : Hid (isLeft ch k = true) := by rw [Hid, IL.out, hz]; rfl
          clear hz IL
          gi_wp2_with (first | (refine wpListIn_loadWr rfl _ rfl _ _ rfl _ _ RG.out ?_) | (refine wpListIn_allocWr rfl rfl ?_) | (refine wpListIn_storeWrNew rfl _ _ rfl _ _ _ _ _ rfl _ rfl (by simp) rfl ?_) | (refine opIn_loadWr _ rfl _ _ rfl _ _ (rangeNew _ _ _) ?_) | fail)
          · refine HR.out.mono ?_
            rintro e W3 (⟨rfl, hJ3, hk3⟩ | ⟨rfl, hJx3⟩)
            · have HJ3 := hid hJ3
              have HK3 := hid hk3
              clear hJ3 hk3
              gi_wp2
              go_roundw
              case rel => exact ⟨k + 1, by omega, by simp, by rw [HT.out, IL2.out]; exact HJ3.out, (HN.out.alloc (by omega) _).trans HK3.out⟩
              case measure => simp [intOf]; omega
            · have HJ3 := hid hJx3
              clear hJx3
              gi_wp2
              refine bodyPost_ret (results_none rfl _ _ _) rfl ?_
              exact ⟨⟨_, rfl⟩, .inr ⟨_, trivial, HJ3.out⟩⟩
        · have t0 : (z % 2 == 1) = false := by simpa using hz
          have IL2 : Hid (isLeft ch k = false) := by rw [Hid, IL.out]; simpa using hz
          clear hz IL
          gi_wp2_with (first | (refine wpListIn_loadWr rfl _ rfl _ _ rfl _ _ RG.out ?_) | (refine wpListIn_allocWr rfl rfl ?_) | (refine wpListIn_storeWrNew rfl _ _ rfl _ _ _ _ _ rfl _ rfl (by simp) rfl ?_) | fail)
          refine ⟨fun f hf => (by cases hf), ?_⟩
          gi_wp2
          go_roundw
          case rel => exact ⟨k + 1, by omega, by simp, by rw [HT.out, IL2.out]; simpa using HJa.out _ _ _ _ HJ.out, HN.out.alloc (by omega) _⟩
          case measure => simp [intOf]; omega
    · have : k = lo.length := by omega
      subst this
      rw [List.take_length] at HJ
      gi_wp2
      go_end0
      exact ⟨⟨_, rfl⟩, .inl ⟨_, rfl, HJ.out⟩⟩

end Go.Proofs.YtnhcfkiejldicaaGreat
