/- bag: the walk of slices.DeleteFunc over messages of the call's own. -/
import Derived.Test.YtkfebgbgnpdgpaaBgJ
namespace Go.Proofs.Ytkfebgbgnpdgpaa
open Go.RowKit Go.Shelf
set_option maxRecDepth 100000

section
variable {ops : Array Oper} {rest : List Oper} {o : Oper} {a : Act} {w : World} {Q : Exit → Act → World → Prop}
/-- A message is stored into a row of them. -/
theorem wpList_storeMgAt (hgd : o.guard = none) (x y : Operand) (hop : o.op = .store 33 x y) (g off : Nat) (hx : a.eval x = .pointer (some ⟨g, off, none⟩)) (cur : Array Value)
    (hb : w.heap[g]? = some (.cells cur 33 (0, 0))) (hfit : off + 3 ≤ cur.size) (x0 x1 x2 : Value) (hy : a.eval y = .agg #[x0, x1, x2]) (h1 : ∀ v ∈ [x0, x1, x2], v.oneCell' = true)
    (h : ∀ w', Hid (w'.heap[g]? = some (.cells (cur.toList.take off ++ [x0, x1, x2] ++ cur.toList.drop (off + 3)).toArray 33 (0, 0))) → Hid (Keeps [g] w w') → wpList Try.prog ops Q rest (a.put o.dst undef) w') : wpList Try.prog ops Q (o :: rest) a w := by
  refine wpList_plain hgd fun K hK => ?_
  have hst := run_storeCells_at Try.prog g off 33 [x0, x1, x2] 0 cur w hb (by simpa using hfit) h1
  have hr : (Instr.storeAt 33 (.pointer (some ⟨g, off, none⟩)) (.agg #[x0, x1, x2])).run Try.prog w = .ok () (w.setRow g (cur.toList.take off ++ [x0, x1, x2] ++ cur.toList.drop (off + 3)).toArray) := by
    obtain ⟨i0, hi, hz0, hz1, hz2⟩ := info_parts mtB.inf
    have e3 : (Value.agg #[x0, x1, x2]).cells = #[x0, x1, x2] := rfl
    simp only [Nat.add_zero, List.length_cons, List.length_nil] at hst
    simp only [Instr.storeAt, Instr.sureAddr, Sem.run_bind, Sem.run_pure, Result.andThen_ok, storeVar]
    simp [sizeOf, typeInfo, hi, hz1, e3, hst]
  obtain ⟨s1, s2, _⟩ := setRow_keeps (cs := (cur.toList.take off ++ [x0, x1, x2] ++ cur.toList.drop (off + 3)).toArray) hb
  refine wp_stored (w' := w.setRow g (cur.toList.take off ++ [x0, x1, x2] ++ cur.toList.drop (off + 3)).toArray) ?_ (hK _ _ (h _ s1 s2))
  unfold execOp
  simp only [hop, hx, hy, hr, Sem.run_bind, Result.andThen_ok]
  rfl

/-- The rest of a row is cleared. -/
theorem wpList_clearMg (hgd : o.guard = none) (x : Operand) (hop : o.op = .call { callee := .builtin .clear, args := #[x], argTypes := #[39] }) (g off n c : Nat) (hn : 0 < n) (hx : a.eval x = .slice (some ⟨g, off, none⟩) n c) (cur : Array Value)
    (hb : w.heap[g]? = some (.cells cur 33 (0, 0))) (hfit : off + n * 3 ≤ cur.size)
    (h : ∀ w' cs, Hid (w'.heap[g]? = some (.cells cs 33 (0, 0)) ∧ cs.size = cur.size ∧ cs.toList.take off = cur.toList.take off) → Hid (Keeps [g] w w') → wpList Try.prog ops Q rest (a.put o.dst (.tuple #[])) w') : wpList Try.prog ops Q (o :: rest) a w := by
  obtain ⟨i0, hi, hz0, hz1, hz2⟩ := info_parts mtB.inf
  have hzl : (Builtin.zeroCells (Value.agg #[.int .i64 0, .int .i64 0, .slice none 0 0]).cells n).toList.length = n * 3 := by
    rw [Array.length_toList, size_zeroCells]; rfl
  have h1 : ∀ v ∈ (Builtin.zeroCells (Value.agg #[.int .i64 0, .int .i64 0, .slice none 0 0]).cells n).toList, v.oneCell' = true := by
    intro v hv
    simp only [Builtin.zeroCells, Array.toList_map, List.mem_map] at hv
    obtain ⟨i, _, rfl⟩ := hv
    have hm : i % (Value.agg #[.int .i64 0, .int .i64 0, .slice none 0 0]).cells.size < 3 := Nat.mod_lt _ (by decide)
    generalize i % (Value.agg #[.int .i64 0, .int .i64 0, .slice none 0 0]).cells.size = k at hm
    match k, hm with
    | 0, _ => rfl
    | 1, _ => rfl
    | 2, _ => rfl
  have hst := run_storeCells_at Try.prog g off 33 _ 0 cur w hb (by rw [hzl]; simpa using hfit) h1
  have hr : (Builtin.clear_ #[39] o.type #[.slice (some ⟨g, off, none⟩) n c]).run Try.prog w = .ok (.tuple #[]) (w.setRow g (cur.toList.take (off + 0) ++ (Builtin.zeroCells (Value.agg #[.int .i64 0, .int .i64 0, .slice none 0 0]).cells n).toList ++ cur.toList.drop (off + 0 + (Builtin.zeroCells (Value.agg #[.int .i64 0, .int .i64 0, .slice none 0 0]).cells n).toList.length)).toArray) := by
    obtain ⟨m, rfl⟩ : ∃ m, n = m + 1 := ⟨n - 1, by omega⟩
    have hv : ∀ w, (zeroValue 33).run Try.prog w = .ok (Value.agg #[.int .i64 0, .int .i64 0, .slice none 0 0]) w := fun w => by simp [zeroValue, typeInfo, hi, hz0]
    simp [Builtin.clear_, run_underlying Try.underlying39, hv, hst]
  obtain ⟨s1, s2, _⟩ := setRow_keeps (cs := (cur.toList.take (off + 0) ++ (Builtin.zeroCells (Value.agg #[.int .i64 0, .int .i64 0, .slice none 0 0]).cells n).toList ++ cur.toList.drop (off + 0 + (Builtin.zeroCells (Value.agg #[.int .i64 0, .int .i64 0, .slice none 0 0]).cells n).toList.length)).toArray) hb
  refine wpList_is hgd (.tuple #[]) _ ?_ (h _ _ ⟨s1, ?_, ?_⟩ s2)
  · simp [execOp, hop, resolve, invoke, builtin, hx, hr, Result.andThen]
  · rw [hzl]
    simp only [List.size_toArray, List.length_append, List.length_take, List.length_drop, Array.length_toList, hzl]
    omega
  · simp only [Nat.add_zero, List.append_assoc]
    rw [List.take_append_of_le_length (by simp; omega), List.take_take, Nat.min_self]
end

/-- Not to that node. -/
def keepTo (to : Int) (m : Mg) : Bool := !(m.t == to)

theorem filter_none {to : Int} : ∀ {ms : List Mg}, (∀ m ∈ ms, m.t ≠ to) → ms.filter (keepTo to) = ms
  | [], _ => rfl
  | m :: r, h => by
    have h1 : keepTo to m = true := by simpa [keepTo] using h m (List.mem_cons_self ..)
    rw [List.filter_cons, if_pos h1, filter_none (fun x hx => h x (List.mem_cons_of_mem _ hx))]
theorem filter_le (to : Int) (ms : List Mg) : (ms.filter (keepTo to)).length ≤ ms.length := List.length_filter_le _ _

theorem slice_lo {E T : TypeId} (mt : MT E T) (g len cap i : Nat) (hi : i ≤ len) (hc : i < cap) (W : World) : (Instr.sliceAt T (.slice (some ⟨g, 0, none⟩) len cap) (some (.int .i64 (i : Int))) none none).run Try.prog W = .ok (.slice (some ⟨g, i * 3, none⟩) (len - i) (cap - i)) W := by
  rw [run_sliceAt_slice W T _ _ _ _ mt.elem', run_slice_l W T _ len cap mt.elem' .i64 i (by omega) (by omega), mt.elem, mt.size]
  have h : ¬ cap = i := by omega
  simp [Result.andThen, sliced, h, Addr.add_lit]

/-- What DeleteFunc holds behind j of them. -/
structure DelAt (w wr : World) (g cap : Nat) (to : Int) (ms : List Mg) (i j : Nat) : Prop where
  cnt : i = ((ms.take j).filter (keepTo to)).length
  blk : ∃ cur : Array Value, wr.heap[g]? = some (.cells cur 33 (0, 0)) ∧ cur.size = cap * 3 ∧ cur.toList.take (i * 3) = mcells ((ms.take j).filter (keepTo to)) ∧ (cur.toList.drop (j * 3)).take ((ms.length - j) * 3) = mcells (ms.drop j)
  keep : Keeps [g] w wr

theorem DelAt.cells {w wr : World} {g cap : Nat} {to : Int} {ms : List Mg} {i j : Nat} (h : DelAt w wr g cap to ms i j) (hj : j < ms.length) :
    wr.cell? ⟨g, j * 3, none⟩ = some (.int .i64 ms[j].f) ∧ wr.cell? ⟨g, j * 3 + 1, none⟩ = some (.int .i64 ms[j].t) ∧ wr.cell? ⟨g, j * 3 + 2, none⟩ = some ms[j].row := by
  obtain ⟨cur, hb, hs, _, hd⟩ := h.blk
  have at_ : ∀ k u, k < 3 → (mcells (ms.drop j))[k]? = some u → wr.cell? ⟨g, j * 3 + k, none⟩ = some u := fun k u hk hu => by
    rw [cell_of_row _ _ _ _ _ _ hb]
    rw [← hd, List.getElem?_take, if_pos (by omega), List.getElem?_drop] at hu
    rw [← Array.getElem?_toList]
    exact hu
  obtain ⟨m0, m1, m2⟩ := mcells_at (ms.drop j) 0 (by rw [List.length_drop]; omega)
  have e : (ms.drop j)[0]'(by rw [List.length_drop]; omega) = ms[j] := by simp
  rw [e] at m0 m1 m2
  exact ⟨at_ 0 _ (by omega) m0, at_ 1 _ (by omega) m1, at_ 2 _ (by omega) m2⟩

theorem filter_snoc (to : Int) (ms : List Mg) (j : Nat) (hj : j < ms.length) : (ms.take (j + 1)).filter (keepTo to) = (ms.take j).filter (keepTo to) ++ if keepTo to ms[j] then [ms[j]] else [] := by
  rw [List.take_succ_eq_append_getElem hj, List.filter_append]
  cases h : keepTo to ms[j] <;> simp [h]

/-- One more is left out. -/
theorem DelAt.skip {w wr w1 : World} {g cap : Nat} {to : Int} {ms : List Mg} {i j : Nat} (h : DelAt w wr g cap to ms i j) (hj : j < ms.length) (ht : ms[j].t = to) (k : Keeps [] wr w1) : DelAt w w1 g cap to ms i (j + 1) := by
  obtain ⟨cur, hb, hs, hp, hd⟩ := h.blk
  have hf := filter_snoc to ms j hj
  rw [if_neg (by simp [keepTo, ht]), List.append_nil] at hf
  refine ⟨by rw [hf]; exact h.cnt, ⟨cur, (k.block _ (lt_of_block hb) (by simp)).trans hb, hs, by rw [hf]; exact hp, ?_⟩, h.keep.trans (k.mono (by simp))⟩
  have := congrArg (List.drop 3) hd
  rw [List.drop_take, List.drop_drop, ← mcells_drop _ 1, List.drop_drop] at this
  rw [show (j + 1) * 3 = j * 3 + 3 by omega, show (ms.length - (j + 1)) * 3 = (ms.length - j) * 3 - 3 by omega]
  exact this

/-- One more is kept. -/
theorem DelAt.put {w wr w1 : World} {g cap : Nat} {to : Int} {ms : List Mg} {i j : Nat} (h : DelAt w wr g cap to ms i j) (hij : i < j) (hj : j < ms.length) (ht : ms[j].t ≠ to) {cur : Array Value} (hb : wr.heap[g]? = some (.cells cur 33 (0, 0)))
    (hb1 : w1.heap[g]? = some (.cells (cur.toList.take (i * 3) ++ [.int .i64 ms[j].f, .int .i64 ms[j].t, ms[j].row] ++ cur.toList.drop (i * 3 + 3)).toArray 33 (0, 0))) (hcap : ms.length ≤ cap) (k : Keeps [g] wr w1) : DelAt w w1 g cap to ms (i + 1) (j + 1) := by
  obtain ⟨cur', hb', hs, hp, hd⟩ := h.blk
  rw [hb] at hb'
  injection hb' with e
  injection e with e _ _
  subst e
  have hf := filter_snoc to ms j hj
  rw [if_pos (by simp [keepTo, ht])] at hf
  have hl3 : cur.toList.length = cap * 3 := by simpa using hs
  have lt1 : (cur.toList.take (i * 3)).length = i * 3 := by rw [List.length_take]; omega
  refine ⟨by rw [hf, List.length_append, ← h.cnt]; rfl, ⟨_, hb1, ?_, ?_, ?_⟩, h.keep.trans k⟩
  · simp only [List.size_toArray, List.length_append, List.length_take, List.length_drop, List.length_cons, List.length_nil, Array.length_toList]
    omega
  · rw [hf, mcells_append, ← hp]
    have e1 : (i + 1) * 3 = (cur.toList.take (i * 3) ++ [Value.int .i64 ms[j].f, .int .i64 ms[j].t, ms[j].row]).length := by rw [List.length_append, lt1]; simp; omega
    rw [e1]
    simp only [List.take_left]
    simp [mcells]
  · have := congrArg (List.drop 3) hd
    rw [List.drop_take, List.drop_drop, ← mcells_drop _ 1, List.drop_drop] at this
    rw [show (j + 1) * 3 = j * 3 + 3 by omega, show (ms.length - (j + 1)) * 3 = (ms.length - j) * 3 - 3 by omega]
    rw [← this]
    congr 1
    have e2 : j * 3 + 3 = (cur.toList.take (i * 3) ++ [Value.int .i64 ms[j].f, .int .i64 ms[j].t, ms[j].row]).length + (j - i) * 3 := by rw [List.length_append, lt1]; simp; omega
    simp only []
    rw [e2, List.drop_append, List.drop_drop]
    congr 1
    rw [List.length_append, lt1]; simp; omega

def DelPost (w : World) (X : List Nat) (B : Nat) (v : Value) (ms : List Mg) (to : Int) (e : Ending) (w' : World) : Prop :=
  ∃ a c, e = .returned (.slice a (ms.filter (keepTo to)).length c) ∧ Own 33 w' B X (.slice a (ms.filter (keepTo to)).length c) (ms.filter (keepTo to)) ∧ Keeps v.ownBlock.toList w w' ∧ (Value.slice a (ms.filter (keepTo to)).length c).ownBlock = v.ownBlock

set_option maxHeartbeats 6400000 in
theorem bDelF_any (w : World) (X : List Nat) (B : Nat) (v : Value) (ms : List Mg) (h : Own 33 w B X v ms) (hl : ms.length ≤ 1000) (cb : Nat) (to : Int) (hc : w.cell? ⟨cb, 0, none⟩ = some (.int .i64 to)) (hcv : v.ownBlock ≠ some cb) :
    Calls Try.prog 39 #[v, dropV cb] w (DelPost w X B v ms to) := by
  have HH := hid h
  have HC := hid hc
  have HCV := hid hcv
  have I := hid (bIdxF_any w X v ms h.at hl cb to hc)
  obtain ⟨a, c, rfl⟩ := h.shape
  clear h hc hcv
  unfold dropV at I ⊢
  go_enter Try.func39, Try.ntmps39
  go_wp2_with fail
  refine I.out.mono ?_
  rintro e w1 ⟨k1, hres⟩
  have K1 := hid k1
  have H1 := hid (HH.out.later k1)
  rcases hres with ⟨k, hk, rfl, htk, hno⟩ | ⟨rfl, hno⟩
  · obtain ⟨g, cap, cur, hv, hBg, hgb, hnc, hcm, hcs, htake⟩ : ∃ g cap cur, (Value.slice a ms.length c) = .slice (some ⟨g, 0, none⟩) ms.length cap ∧ B ≤ g ∧ w1.heap[g]? = some (.cells cur 33 (0, 0)) ∧ ms.length ≤ cap ∧ cap ≤ maxLen ∧ cur.size = cap * 3 ∧ cur.toList.take (ms.length * 3) = mcells ms := by
      rcases H1.out.row.2 with ⟨_, h0⟩ | h
      · omega
      · exact h
    injection hv with e1 _ e3
    subst e1; subst e3
    have hnf := filter_none (to := to) hno
    have D0 : Hid (DelAt w w1 g c to ms k (k + 1)) := hid ⟨by rw [filter_snoc to ms k hk, if_neg (by simp [keepTo, htk]), List.append_nil, hnf, List.length_take]; omega, ⟨cur, hgb, hcs, by
        rw [filter_snoc to ms k hk, if_neg (by simp [keepTo, htk]), List.append_nil, hnf, mcells_take, ← htake, List.take_take]
        congr 1
        omega, by
        rw [mcells_drop, ← htake, List.drop_take]
        congr 1
        omega⟩, k1.mono (by simp)⟩
    have hkl : k < 1000 := by omega
    have HNC := hid hnc
    clear htake hcs hgb hno hnf k1 htk
    go_wp2_with fail
    go_loopw [5, 6] (fun iv jv wr => ∃ i j : Nat, iv = .int .i64 i ∧ jv = .int .i64 j ∧ i < j ∧ j ≤ ms.length ∧ DelAt w wr g c to ms i j) (fun _ jv _ => ms.length - (intOf jv).toNat)
    case atStart => exact ⟨k, k + 1, rfl, by go_num, by omega, by omega, D0.out⟩
    case round =>
      obtain ⟨i, j, rfl, rfl, hij, hjl, hd⟩ := hrel
      have HD := hid hd
      by_cases hlt : j < ms.length
      · have HA : Hid (i + 1 < j + 1 ∧ j + 1 ≤ ms.length) := hid ⟨by omega, by omega⟩
        obtain ⟨d0, d1, d2⟩ := hd.cells hlt
        obtain ⟨ra, rc, hrow, _⟩ := (HH.out.ok ms[j] (List.getElem_mem _)).row
        rw [hrow] at d2
        have HROW := hid hrow
        have hcc : wr.cell? ⟨cb, 0, none⟩ = some (.int .i64 to) := hd.keep.cell' HC.out (by
          have := HCV.out
          simp [Value.ownBlock] at this
          simp; omega)
        have HCC := hid hcc
        clear hd hrow hcc
        go_wp2_with fail
        have ka := (Keeps.refl [] wr).alloc (.cells #[.int .i64 ms[j].f, .int .i64 ms[j].t, .slice ra ms[j].bs.length rc] 33)
        have ba := heap_alloc_new wr (.cells #[.int .i64 ms[j].f, .int .i64 ms[j].t, .slice ra ms[j].bs.length rc] 33)
        generalize wr.alloc (.cells #[.int .i64 ms[j].f, .int .i64 ms[j].t, .slice ra ms[j].bs.length rc] 33) = wa at ka ba ⊢
        refine (bDropF_any wa _ _ _ _ _ cb to (ka.cell' HCC.out (by simp))).mono ?_
        rintro e w2 ⟨rfl, k2⟩
        have K2 := hid (ka.trans k2)
        have B2 := hid ((k2.block _ (lt_of_block ba) (by simp)).trans ba)
        clear ka ba k2 d0 d1 d2
        by_cases ht : ms[j].t = to
        · have hb : (ms[j].t == to) = true := by simpa using ht
          rw [hb]
          have S := hid (HD.out.skip hlt ht K2.out)
          clear ht hb
          go_wp2_with fail
          go_roundw
          case rel =>
            repeat apply Exists.intro
            refine And.intro ?_ rfl
            exact ⟨i, j + 1, rfl, by go_num, by omega, by omega, S.out⟩
          case measure => simp [intOf]; omega
        · have hb : (ms[j].t == to) = false := by simpa using ht
          rw [hb]
          obtain ⟨cur2, hb2, hs2, _⟩ := HD.out.blk
          have HB2 := hid ((K2.out.block _ (lt_of_block hb2) (by simp)).trans hb2)
          have HBW := hid hb2
          have HS2 := hid hs2
          have HT := hid ht
          obtain ⟨e0, e1, e2, _⟩ := row_block3 B2.out
          have LD := hid (loadB e0 e1 e2)
          have hcb := HNC.out
          clear e0 e1 e2 ht hb hb2 hs2
          go_wp2_with (first | (refine wpList_is rfl _ _ (exec_load _ _ _ _ rfl rfl LD.out) ?_) | (refine wpList_storeMgAt rfl _ _ rfl g (i * 3) (by simp [Act.eval]) cur2 HB2.out (by have := HS2.out; omega) (.int .i64 ms[j].f) (.int .i64 ms[j].t) (.slice ra ms[j].bs.length rc) rfl (by simp [Value.oneCell']) ?_; intro w3 s1 s2) | fail)
          have P := hid (HD.out.put hij hlt HT.out HBW.out (w1 := w3) (by rw [HROW.out]; exact s1.out) HNC.out ((K2.out.mono (by simp)).trans s2.out))
          go_roundw
          case rel =>
            repeat apply Exists.intro
            refine And.intro ?_ rfl
            exact ⟨i + 1, j + 1, by go_num, by go_num, HA.out.1, HA.out.2, P.out⟩
          case measure => simp [intOf]; omega
      · obtain rfl : j = ms.length := by omega
        obtain ⟨cur2, hb2, hs2, hp2, _⟩ := hd.blk
        have hcnt := hd.cnt
        rw [List.take_length] at hcnt hp2
        have HB2 := hid hb2
        have HS2 := hid hs2
        have HP2 := hid hp2
        have HCN := hid hcnt
        have hcb := HNC.out
        have SL := hid (slice_lo mtB g ms.length c i (by omega) (by omega))
        have SH := hid (slice_hi mtB (some ⟨g, 0, none⟩) ms.length c i (by omega))
        clear hd hb2 hs2 hp2 hcnt hlt
        go_wp2_with (first | (refine wpList_is rfl _ _ (exec_sliceR 39 _ _ _ _ rfl (SL.out _)) ?_) | (refine wpList_is rfl _ _ (exec_sliceR 39 _ _ _ _ rfl (SH.out _)) ?_) | (refine wpList_clearMg rfl _ rfl g (i * 3) (ms.length - i) (c - i) (by omega) rfl cur2 HB2.out (by have := HS2.out; omega) ?_; intro w3 cs s1 s2) | fail)
        go_ret
        have hl2 : (ms.filter (keepTo to)).length = i := HCN.out.symm
        obtain ⟨b3, z3, t3⟩ := s1.out
        have kk : Keeps [g] w w3 := HD.out.keep.trans s2.out
        refine ⟨_, _, by rw [hl2]; rfl, ⟨⟨mcells_length _, .inr ⟨g, c, cs, by rw [hl2], hBg, b3, by omega, hcm, by rw [z3]; exact HS2.out, by rw [hl2, t3]; exact HP2.out⟩⟩, fun m hm => (HH.out.ok m (List.mem_filter.1 hm).1).keep kk (fun b hb hm => ?_), fun b hb => HH.out.off b hb, fun b hb => Nat.lt_of_lt_of_le (HH.out.lt b hb) kk.size⟩, kk, rfl⟩
        simp at hm
        subst hm
        exact HH.out.off _ rfl hb
  · have hne : ((-1 : Int) == -1) = true := rfl
    have hf := filter_none (to := to) hno
    have HF := hid hf
    clear hf hno k1
    go_wp2_with fail
    go_ret
    exact ⟨a, c, by rw [HF.out]; rfl, by rw [HF.out]; exact H1.out, K1.out.mono (by simp), by rw [HF.out]⟩
end Go.Proofs.Ytkfebgbgnpdgpaa
