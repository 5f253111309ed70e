/- blocks: slices of pointers cut, stored into; slices.DeleteFunc; Ptrs. -/
import Derived.Test.YtamcllcjondcpaaBkE
namespace Go.Proofs.Ytamcllcjondcpaa
open Go.RowKit Go.Shelf
set_option maxRecDepth 100000
set_option linter.unusedSimpArgs false

theorem addr_add00 : ∀ ad : Addr, ad.add 0 = ad := fun ad => by unfold Addr.add; split <;> simp_all
theorem ptrs_hi (a : Option Addr) (len cap n : Nat) (hn : n ≤ cap) (W : World) : (Instr.sliceAt 39 (.slice a len cap) none (some (.int .i64 (n : Int))) none).run Try.prog W = .ok (.slice a n cap) W := by
  rw [run_sliceAt_slice W 39 _ _ _ _ ptrs_elem, run_slice_h W 39 a len cap ptrs_elem .i64 n (by omega) (by omega), ptrs_el, size_ptr]
  have ha : (if cap = 0 then a else a.map (·.add 0)) = a := by
    split
    · rfl
    · cases a <;> simp [addr_add00]
  simp [Result.andThen, sliced, ha]
theorem ptrs_lo (g len cap i : Nat) (hi : i ≤ len) (hc : i < cap) (W : World) : (Instr.sliceAt 39 (.slice (some ⟨g, 0, none⟩) len cap) (some (.int .i64 (i : Int))) none none).run Try.prog W = .ok (.slice (some ⟨g, i * 5, none⟩) (len - i) (cap - i)) W := by
  rw [run_sliceAt_slice W 39 _ _ _ _ ptrs_elem, run_slice_l W 39 _ len cap ptrs_elem .i64 i (by omega) (by omega), ptrs_el, size_ptr]
  have h : ¬ cap = i := by omega
  simp [Result.andThen, sliced, h, Addr.add_lit]
theorem ptrs_cut (a : Option Addr) (len cap n : Nat) (h1 : len ≤ cap) (hn : n ≤ len) (W : World) : (Instr.sliceAt 39 (.slice a len cap) none (some (.int .i64 (n : Int))) (some (.int .i64 (n : Int)))).run Try.prog W = .ok (.slice a n n) W := by
  rw [run_sliceAt_slice W 39 _ _ _ _ ptrs_elem, run_slice_hm W 39 a len cap ptrs_elem .i64 .i64 n n (by omega) (by omega) (by omega), ptrs_el, size_ptr]
  have ha : (if n = 0 then a else a.map (·.add 0)) = a := by
    split
    · rfl
    · cases a <;> simp [addr_add00]
  simp [Result.andThen, sliced, ha]
theorem setRow_keepsP {w : World} {b : Nat} {old cs : Array Value} {E : TypeId} (hb : w.heap[b]? = some (.cells old E (0, 0))) : (w.setRow b cs).heap[b]? = some (.cells cs E (0, 0)) ∧ Keeps [b] w (w.setRow b cs) :=
  ⟨setRow_heap w b old cs E (0, 0) hb, ⟨rfl, rfl, rfl, by simp [World.setRow], fun k _ hm => setRow_other w b k cs (by simpa using hm)⟩⟩
section
variable {ops : Array Oper} {rest : List Oper} {o : Oper} {a : Act} {w : World} {Q : Exit → Act → World → Prop}
/-- A pointer is stored into a row of them. -/
theorem exec_storePtAt {ρ : Operand → Value} (x y : Operand) (hop : o.op = .store 47 x y) (g off : Nat) (hx : ρ x = .pointer (some ⟨g, off, none⟩)) (cur : Array Value)
    (hb : w.heap[g]? = some (.cells cur 47 (0, 0))) (hfit : off + 5 ≤ cur.size) (t : Pt) (hy : ρ y = ptV t) :
    (execOp ρ o).run Try.prog w = .ok .skip (w.setRow g (cur.toList.take off ++ t.cells ++ cur.toList.drop (off + 5)).toArray) := by
  have hst := run_storeCells_at Try.prog g off 47 t.cells 0 cur w hb (by simpa [Pt.cells] using hfit) (fun v hv => pcells_one [t] v (by simpa [pcells] using hv))
  have hr : (Instr.storeAt 47 (.pointer (some ⟨g, off, none⟩)) (ptV t)).run Try.prog w = .ok () (w.setRow g (cur.toList.take off ++ t.cells ++ cur.toList.drop (off + 5)).toArray) := by
    obtain ⟨i0, hi, hz0, hz1, hz2⟩ := info_parts iPtr
    have e3 : (ptV t).cells = t.cells.toArray := rfl
    have e4 : t.cells.length = 5 := rfl
    simp only [Nat.add_zero, e4] at hst
    simp only [Instr.storeAt, Instr.sureAddr, Sem.run_bind, Sem.run_pure, Result.andThen_ok, storeVar]
    have e5 : t.cells.toArray.size = 5 := rfl
    simp [sizeOf, typeInfo, hi, hz1, e3, e4, e5, hst]
  unfold execOp
  simp only [hop, hx, hy, hr, Sem.run_bind, Result.andThen_ok]
  rfl
theorem wpList_storePtAt (hgd : o.guard = none) (x y : Operand) (hop : o.op = .store 47 x y) (g off : Nat) (hx : a.eval x = .pointer (some ⟨g, off, none⟩)) (cur : Array Value)
    (hb : w.heap[g]? = some (.cells cur 47 (0, 0))) (hfit : off + 5 ≤ cur.size) (t : Pt) (hy : a.eval y = ptV t)
    (h : ∀ w', Hid (w'.heap[g]? = some (.cells (cur.toList.take off ++ t.cells ++ cur.toList.drop (off + 5)).toArray 47 (0, 0))) → Hid (Keeps [g] w w') → wpList Try.prog ops Q rest (a.put o.dst undef) w') : wpList Try.prog ops Q (o :: rest) a w := by
  obtain ⟨s1, s2⟩ := setRow_keepsP (cs := (cur.toList.take off ++ t.cells ++ cur.toList.drop (off + 5)).toArray) hb
  exact wpList_noval hgd _ (exec_storePtAt x y hop g off hx cur hb hfit t hy) (h _ s1 s2)
/-- The rest of a row is cleared. -/
theorem wpList_clearPt (hgd : o.guard = none) (x : Operand) (hop : o.op = .call { callee := .builtin .clear, args := #[x], argTypes := #[39] }) (g off n c : Nat) (hn : 0 < n) (hx : a.eval x = .slice (some ⟨g, off, none⟩) n c) (cur : Array Value)
    (hb : w.heap[g]? = some (.cells cur 47 (0, 0))) (hfit : off + n * 5 ≤ cur.size)
    (h : ∀ w' cs, Hid (w'.heap[g]? = some (.cells cs 47 (0, 0)) ∧ cs.size = cur.size ∧ cs.toList.take off = cur.toList.take off) → Hid (Keeps [g] w w') → wpList Try.prog ops Q rest (a.put o.dst (.tuple #[])) w') : wpList Try.prog ops Q (o :: rest) a w := by
  obtain ⟨i0, hi, hz0, hz1, hz2⟩ := info_parts iPtr
  have hzl : (Builtin.zeroCells (ptV pZ).cells n).toList.length = n * 5 := by
    rw [zeros_pts, pcells_length]; simp
  have h1 : ∀ v ∈ (Builtin.zeroCells (ptV pZ).cells n).toList, v.oneCell' = true := by
    rw [zeros_pts]; exact pcells_one _
  have hst := run_storeCells_at Try.prog g off 47 _ 0 cur w hb (by rw [hzl]; simpa using hfit) h1
  have hr : (Builtin.clear_ #[39] o.type #[.slice (some ⟨g, off, none⟩) n c]).run Try.prog w = .ok (.tuple #[]) (w.setRow g (cur.toList.take (off + 0) ++ (Builtin.zeroCells (ptV pZ).cells n).toList ++ cur.toList.drop (off + 0 + (Builtin.zeroCells (ptV pZ).cells n).toList.length)).toArray) := by
    obtain ⟨m, rfl⟩ : ∃ m, n = m + 1 := ⟨n - 1, by omega⟩
    have hv : ∀ w, (zeroValue 47).run Try.prog w = .ok (ptV pZ) w := fun w => by simp [zeroValue, typeInfo, hi, hz0]
    simp [Builtin.clear_, run_underlying Try.underlying39, hv, hst]
  obtain ⟨s1, s2⟩ := setRow_keepsP (cs := (cur.toList.take (off + 0) ++ (Builtin.zeroCells (ptV pZ).cells n).toList ++ cur.toList.drop (off + 0 + (Builtin.zeroCells (ptV pZ).cells n).toList.length)).toArray) hb
  refine wpList_is hgd (.tuple #[]) _ ?_ (h _ _ ⟨s1, ?_, ?_⟩ s2)
  · simp [execOp, hop, resolve, invoke, builtin, hx, hr, Result.andThen]
  · rw [hzl]
    simp only [List.size_toArray, List.length_append, List.length_take, List.length_drop, Array.length_toList, hzl]
    omega
  · simp only [Nat.add_zero, List.append_assoc]
    rw [List.take_append_of_le_length (by simp; omega), List.take_take, Nat.min_self]
end

/-- Pointers that are not zero. -/
def keepZ (x : Pt) : Bool := !zB x
theorem filterZ_none : ∀ {ms : List Pt}, (∀ m ∈ ms, zB m = false) → ms.filter keepZ = ms
  | [], _ => rfl
  | m :: r, h => by
    have h1 : keepZ m = true := by unfold keepZ; rw [h m (List.mem_cons_self ..)]; rfl
    rw [List.filter_cons, if_pos h1, filterZ_none (fun x hx => h x (List.mem_cons_of_mem _ hx))]
theorem filterZ_le (ms : List Pt) : (ms.filter keepZ).length ≤ ms.length := List.length_filter_le _ _

/-- What DeleteFunc holds behind j of them. -/
structure DelAtP (w wr : World) (g cap : Nat) (ms : List Pt) (i j : Nat) : Prop where
  cnt : i = ((ms.take j).filter keepZ).length
  blk : ∃ cur : Array Value, wr.heap[g]? = some (.cells cur 47 (0, 0)) ∧ cur.size = cap * 5 ∧ cur.toList.take (i * 5) = pcells ((ms.take j).filter keepZ) ∧ (cur.toList.drop (j * 5)).take ((ms.length - j) * 5) = pcells (ms.drop j)
  keep : Keeps [g] w wr
theorem DelAtP.range {w wr : World} {g cap : Nat} {ms : List Pt} {i j : Nat} (h : DelAtP w wr g cap ms i j) (hj : j < ms.length) : wr.rangeAt g (0 + j * 5) ms[j].cells := fun k u hu => by
  obtain ⟨cur, hb, hs, _, hd⟩ := h.blk
  have hk : k < 5 := by
    have := (List.getElem?_eq_some_iff.1 hu).1
    simpa [Pt.cells] using this
  have e := pcells_in (ms.drop j) 0 (by rw [List.length_drop]; omega) k hk
  have e2 : (ms.drop j)[0]'(by rw [List.length_drop]; omega) = ms[j] := by simp
  rw [e2, hu, Nat.zero_mul, Nat.zero_add, ← hd, List.getElem?_take, if_pos (by omega), List.getElem?_drop] at e
  rw [Nat.zero_add, cell_of_row _ _ _ _ _ _ hb, ← Array.getElem?_toList]
  exact e
theorem filterZ_snoc (ms : List Pt) (j : Nat) (hj : j < ms.length) : (ms.take (j + 1)).filter keepZ = (ms.take j).filter keepZ ++ if keepZ ms[j] then [ms[j]] else [] := by
  rw [List.take_succ_eq_append_getElem hj, List.filter_append]
  cases h : keepZ ms[j] <;> simp [h]
/-- One more is left out. -/
theorem DelAtP.skip {w wr w1 : World} {g cap : Nat} {ms : List Pt} {i j : Nat} (h : DelAtP w wr g cap ms i j) (hj : j < ms.length) (ht : zB ms[j] = true) (k : Keeps [] wr w1) : DelAtP w w1 g cap ms i (j + 1) := by
  obtain ⟨cur, hb, hs, hp, hd⟩ := h.blk
  have hf := filterZ_snoc ms j hj
  rw [if_neg (by simp [keepZ, ht]), List.append_nil] at hf
  refine ⟨by rw [hf]; exact h.cnt, ⟨cur, (k.block _ (lt_of_block hb) (by simp)).trans hb, hs, by rw [hf]; exact hp, ?_⟩, h.keep.trans (k.mono (by simp))⟩
  have := congrArg (List.drop 5) hd
  rw [List.drop_take, List.drop_drop, ← pcells_drop _ 1, List.drop_drop] at this
  rw [show (j + 1) * 5 = j * 5 + 5 by omega, show (ms.length - (j + 1)) * 5 = (ms.length - j) * 5 - 5 by omega]
  exact this
/-- One more is kept. -/
theorem DelAtP.put {w wr w1 : World} {g cap : Nat} {ms : List Pt} {i j : Nat} (h : DelAtP w wr g cap ms i j) (hij : i < j) (hj : j < ms.length) (ht : zB ms[j] = false) {cur : Array Value} (hb : wr.heap[g]? = some (.cells cur 47 (0, 0)))
    (hb1 : w1.heap[g]? = some (.cells (cur.toList.take (i * 5) ++ ms[j].cells ++ cur.toList.drop (i * 5 + 5)).toArray 47 (0, 0))) (hcap : ms.length ≤ cap) (k : Keeps [g] wr w1) : DelAtP w w1 g cap ms (i + 1) (j + 1) := by
  obtain ⟨cur', hb', hs, hp, hd⟩ := h.blk
  rw [hb] at hb'
  injection hb' with e
  injection e with e _ _
  subst e
  have hf := filterZ_snoc ms j hj
  rw [if_pos (by simp [keepZ, ht])] at hf
  have hl3 : cur.toList.length = cap * 5 := by simpa using hs
  have lt1 : (cur.toList.take (i * 5)).length = i * 5 := by rw [List.length_take]; omega
  have lt2 : ms[j].cells.length = 5 := rfl
  refine ⟨by rw [hf, List.length_append, ← h.cnt]; rfl, ⟨_, hb1, ?_, ?_, ?_⟩, h.keep.trans k⟩
  · simp only [List.size_toArray, List.length_append, List.length_take, List.length_drop, lt2, Array.length_toList]
    omega
  · rw [hf, pcells_append, ← hp]
    have e1 : (i + 1) * 5 = (cur.toList.take (i * 5) ++ ms[j].cells).length := by rw [List.length_append, lt1, lt2]; omega
    rw [e1]
    simp only [List.take_left]
    simp [pcells]
  · have := congrArg (List.drop 5) hd
    rw [List.drop_take, List.drop_drop, ← pcells_drop _ 1, List.drop_drop] at this
    rw [show (j + 1) * 5 = j * 5 + 5 by omega, show (ms.length - (j + 1)) * 5 = (ms.length - j) * 5 - 5 by omega]
    rw [← this]
    congr 1
    have e2 : j * 5 + 5 = (cur.toList.take (i * 5) ++ ms[j].cells).length + (j - i) * 5 := by rw [List.length_append, lt1, lt2]; omega
    simp only []
    rw [e2, List.drop_append, List.drop_drop]
    congr 1
    rw [List.length_append, lt1]; simp [lt2]; omega

def isZF : Value := .func (.func 76) #[] #[]
def DelPostP (w : World) (M : List Nat) (B : Nat) (v : Value) (ms : List Pt) (e : Ending) (w' : World) : Prop :=
  ∃ a c, e = .returned (.slice a (ms.filter keepZ).length c) ∧ OwnP w' B M (.slice a (ms.filter keepZ).length c) (ms.filter keepZ) ∧ Keeps v.ownBlock.toList w w'
set_option maxHeartbeats 6400000 in
theorem zDelF_any (w : World) (M : List Nat) (B : Nat) (v : Value) (ms : List Pt) (h : OwnP w B M v ms) (hl : ms.length ≤ 1000) :
    Calls Try.prog 79 #[v, .func (.func 76) #[] #[]] w (DelPostP w M B v ms) := by
  have HH := hid h
  have I := hid (zIdxF_any w M v ms h.at (by omega))
  obtain ⟨a, c, rfl⟩ := h.shape
  clear h
  go_enter Try.func79, Try.ntmps79
  go_wp2_with fail
  refine I.out.mono ?_
  rintro e w1 ⟨k1, hres⟩
  have K1 := hid k1
  have H1 := hid (HH.out.later k1)
  rcases hres with ⟨k, hk, rfl, htk, hno⟩ | ⟨rfl, hno⟩
  · obtain ⟨g, cap, cur, hv, hBg, hgb, hnc, hcm, hcs, htake⟩ : ∃ g cap cur, (Value.slice a ms.length c) = .slice (some ⟨g, 0, none⟩) ms.length cap ∧ B ≤ g ∧ w1.heap[g]? = some (.cells cur 47 (0, 0)) ∧ ms.length ≤ cap ∧ cap ≤ maxLen ∧ cur.size = cap * 5 ∧ cur.toList.take (ms.length * 5) = pcells ms := by
      rcases H1.out.row.2 with ⟨_, h0⟩ | h
      · omega
      · exact h
    injection hv with e1 _ e3
    subst e1; subst e3
    have hnf : (ms.take k).filter keepZ = ms.take k := filterZ_none (fun x hx => by
      obtain ⟨j, hj, rfl⟩ := List.mem_iff_getElem.1 hx
      rw [List.length_take] at hj
      rw [List.getElem_take]
      exact hno j (by omega) (by omega))
    have D0 : Hid (DelAtP w w1 g c ms k (k + 1)) := hid ⟨by rw [filterZ_snoc ms k hk, if_neg (by simp [keepZ, htk]), List.append_nil, hnf, List.length_take]; omega, ⟨cur, hgb, hcs, by
        rw [filterZ_snoc ms k hk, if_neg (by simp [keepZ, htk]), List.append_nil, hnf, pcells_take, ← htake, List.take_take]
        congr 1
        omega, by
        rw [pcells_drop, ← htake, List.drop_take]
        congr 1
        omega⟩, k1.mono (by simp)⟩
    have hkl : k < 1000 := by omega
    have HNC := hid hnc
    clear htake hcs hgb hno hnf k1 htk
    go_wp2_with fail
    go_loopw [5, 6] (fun iv jv wr => ∃ i j : Nat, iv = .int .i64 i ∧ jv = .int .i64 j ∧ i < j ∧ j ≤ ms.length ∧ DelAtP w wr g c ms i j) (fun _ jv _ => ms.length - (intOf jv).toNat)
    case atStart => exact ⟨k, k + 1, rfl, by go_num, by omega, by omega, D0.out⟩
    case round =>
      obtain ⟨i, j, rfl, rfl, hij, hjl, hd⟩ := hrel
      have HD := hid hd
      by_cases hlt : j < ms.length
      · have HA : Hid (i + 1 < j + 1 ∧ j + 1 ≤ ms.length) := hid ⟨by omega, by omega⟩
        have R := hid (hd.range hlt)
        have ka : Keeps [] wr (wr.alloc (.cells ms[j].cells.toArray 47)) := (Keeps.refl [] wr).alloc _
        have RA := hid (range_new wr ms[j].cells 47)
        obtain ⟨y, hy⟩ : ∃ y, y = ms[j] := ⟨_, rfl⟩
        have HY := hid hy
        rw [← hy] at R ka RA
        have KA := hid ka
        clear hd ka hy
        go_wp2_with (first | (refine wpList_loadPt rfl _ rfl g (0 + j * 5) (by simp [Act.eval]) y R.out ?_) | (refine wpList_is rfl _ _ (exec_alloc 47 pZ.cells.toArray iPtr2 rfl) ?_) | (refine wpList_noval rfl _ (exec_storeNew 47 _ _ rfl wr pZ.cells.toArray y.cells.toArray rfl rfl rfl iPtr2 rfl (cells_one _)) ?_) | (refine wpList_loadPt rfl _ rfl wr.heap.size 0 rfl y RA.out ?_) | fail)
        refine (isZero_any _ y).mono ?_
        rintro e w2 ⟨rfl, k2⟩
        have K2 := hid (KA.out.trans k2)
        have R2 := hid (range_keep RA.out k2 (by simp))
        clear k2
        cases hz : zB y with
        | true =>
          have S := hid (HD.out.skip hlt (by rw [← HY.out]; exact hz) K2.out)
          clear hz
          go_wp2_with fail
          go_roundw
          case rel =>
            repeat apply Exists.intro
            refine And.intro ?_ rfl
            exact ⟨i, j + 1, rfl, by go_num, by omega, by omega, S.out⟩
          case measure => simp [intOf]; omega
        | false =>
          obtain ⟨cur2, hb2, hs2, _⟩ := HD.out.blk
          have HB2 := hid ((K2.out.block _ (lt_of_block hb2) (by simp)).trans hb2)
          have HBW := hid hb2
          have HS2 := hid hs2
          have HT := hid hz
          have hcb := HNC.out
          clear hz hb2 hs2
          go_wp2_with (first | (refine wpList_loadPt rfl _ rfl wr.heap.size 0 rfl y R2.out ?_) | (refine wpList_storePtAt rfl _ _ rfl g (i * 5) (by simp [Act.eval]) cur2 HB2.out (by have := HS2.out; omega) y rfl ?_; intro w3 s1 s2) | fail)
          have P := hid (HD.out.put hij hlt (by rw [← HY.out]; exact HT.out) HBW.out (w1 := w3) (by rw [← HY.out]; exact s1.out) HNC.out ((K2.out.mono (by simp)).trans s2.out))
          go_roundw
          case rel =>
            repeat apply Exists.intro
            refine And.intro ?_ rfl
            exact ⟨i + 1, j + 1, by go_num, by go_num, HA.out.1, HA.out.2, P.out⟩
          case measure => simp [intOf]; omega
      · obtain rfl : j = ms.length := by omega
        obtain ⟨cur2, hb2, hs2, hp2, _⟩ := hd.blk
        have hcnt := hd.cnt
        rw [List.take_length] at hcnt hp2
        have HB2 := hid hb2
        have HS2 := hid hs2
        have HP2 := hid hp2
        have HCN := hid hcnt
        have hcb := HNC.out
        have SL := hid (ptrs_lo g ms.length c i (by omega) (by omega))
        have SH := hid (ptrs_hi (some ⟨g, 0, none⟩) ms.length c i (by omega))
        clear hd hb2 hs2 hp2 hcnt hlt
        go_wp2_with (first | (refine wpList_is rfl _ _ (exec_sliceR 39 _ _ _ _ rfl (SL.out _)) ?_) | (refine wpList_is rfl _ _ (exec_sliceR 39 _ _ _ _ rfl (SH.out _)) ?_) | (refine wpList_clearPt rfl _ rfl g (i * 5) (ms.length - i) (c - i) (by omega) rfl cur2 HB2.out (by have := HS2.out; omega) ?_; intro w3 cs s1 s2) | fail)
        go_ret
        have hl2 : (ms.filter keepZ).length = i := HCN.out.symm
        obtain ⟨b3, z3, t3⟩ := s1.out
        have kk : Keeps [g] w w3 := HD.out.keep.trans s2.out
        exact ⟨_, _, by rw [hl2]; rfl, ⟨⟨pcells_length _, .inr ⟨g, c, cs, by rw [hl2], hBg, b3, by omega, hcm, by rw [z3]; exact HS2.out, by rw [hl2, t3]; exact HP2.out⟩⟩, HH.out.lt⟩, kk⟩
  · have hne : ((-1 : Int) == -1) = true := rfl
    have hf := filterZ_none hno
    have HF := hid hf
    clear hf hno k1
    go_wp2_with fail
    go_ret
    exact ⟨a, c, by rw [HF.out]; rfl, by rw [HF.out]; exact H1.out, K1.out.mono (by simp)⟩

set_option maxHeartbeats 1600000 in
/-- Ptrs. -/
theorem zPtrs_any {w : World} {M : List Nat} {q : Nat} {s : Bk} (h : BkAt w M q s) (hM : ∀ b ∈ M, b < w.heap.size) : Calls Try.prog 45 #[.pointer (some ⟨q, 0, none⟩)] w fun e w' => ∃ a c, e = .returned (.slice a (s.L.filter keepZ).length c) ∧ OwnP w' w.heap.size M (.slice a (s.L.filter keepZ).length c) (s.L.filter keepZ) ∧ Keeps [] w w' := by
  have HM := hid hM
  have HF := hid h.good.few
  obtain ⟨a, c, c0, c1, c2, hv⟩ := h.cells
  have CL := hid (zClone0_any w M hM _ s.L hv (by have := HF.out; omega))
  have H := hid h
  clear h hv c0 c1 hM
  go_enter Try.func45, Try.ntmps45
  go_wp2_with fail
  refine (zMade_any H.out).mono ?_
  rintro e _ ⟨rfl, rfl⟩
  go_wp2_with fail
  refine CL.out.mono ?_
  rintro e w2 ⟨a2, c3, rfl, o2, k2⟩
  have O2 := hid o2
  have K2 := hid k2
  clear o2 k2
  go_wp2_with fail
  refine (zDelF_any w2 M w.heap.size _ s.L O2.out (by have := HF.out; omega)).mono ?_
  rintro e w3 ⟨a3, c4, rfl, o3, k3⟩
  have O3 := hid o3
  have K3 := hid (K2.out.trans' k3 (S := []) (fun i hi hm => by
    have := (O2.out.blk i (by simpa using hm)).1
    omega))
  clear o3 k3
  go_wp2_with fail
  go_ret
  exact ⟨_, _, rfl, O3.out, K3.out⟩
end Go.Proofs.Ytamcllcjondcpaa
