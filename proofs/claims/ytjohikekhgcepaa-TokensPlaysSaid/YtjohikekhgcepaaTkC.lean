/- tokens: slices.IndexFunc, ContainsFunc, DeleteFunc, Clone over rows, by whatever function value. -/
import Derived.Test.YtjohikekhgcepaaTkB
namespace Go.Proofs.Ytjohikekhgcepaa
open Go.RowKit Go.Shelf
set_option maxRecDepth 100000
set_option linter.unusedSimpArgs false

/-- A function value by which rows are told: what it binds ahead, what behind. -/
structure Cb (w : World) (f : Nat) (bs cb : Array Value) (p : Rk → Bool) : Prop where
  eg : ∀ args W, (callFunc f args).run Try.prog W = .ok (.enter f args) W
  call : ∀ W, Keeps [] w W → ∀ x, Calls Try.prog f (bs ++ #[rkV x] ++ cb) W (PB W (p x))
theorem Cb.later {w w1 : World} {f : Nat} {bs cb : Array Value} {p : Rk → Bool} (h : Cb w f bs cb p) (k : Keeps [] w w1) : Cb w1 f bs cb p := ⟨h.eg, fun W hW x => h.call W (k.trans hW) x⟩
def idxK (p : Rk → Bool) (rs : List Rk) : Int := match rs.findIdx? p with | some i => (i : Int) | none => -1
theorem idxK_hit {p : Rk → Bool} {rs : List Rk} {k : Nat} (hk : k < rs.length) (h : p rs[k] = true) (hno : ∀ j (hj : j < rs.length), j < k → p rs[j] = false) : idxK p rs = (k : Int) := by
  have e : rs.findIdx? p = some k := List.findIdx?_eq_some_iff_getElem.2 ⟨hk, h, fun j hj => by simpa using hno j (by omega) hj⟩
  unfold idxK; rw [e]
theorem idxK_miss {p : Rk → Bool} {rs : List Rk} (hno : ∀ j (hj : j < rs.length), p rs[j] = false) : idxK p rs = -1 := by
  have e : rs.findIdx? p = none := List.findIdx?_eq_none_iff.2 (fun x hx => by obtain ⟨j, hj, rfl⟩ := List.mem_iff_getElem.1 hx; exact hno j hj)
  unfold idxK; rw [e]
theorem idxK_cases (p : Rk → Bool) (rs : List Rk) : (idxK p rs = -1 ∧ ∀ x ∈ rs, p x = false) ∨ ∃ k, ∃ hk : k < rs.length, idxK p rs = (k : Int) ∧ p rs[k] = true ∧ ∀ j (hj : j < rs.length), j < k → p rs[j] = false := by
  unfold idxK
  cases hf : rs.findIdx? p with
  | none => rw [List.findIdx?_eq_none_iff] at hf; exact Or.inl ⟨rfl, hf⟩
  | some i =>
    rw [List.findIdx?_eq_some_iff_getElem] at hf
    obtain ⟨hi, h1, h2⟩ := hf
    exact Or.inr ⟨i, hi, rfl, h1, fun j hj hlt => by simpa using h2 j hlt⟩
theorem any_idx (p : Rk → Bool) (rs : List Rk) : decide (0 ≤ idxK p rs) = rs.any p := by
  rcases idxK_cases p rs with ⟨e, h⟩ | ⟨k, hk, e, h, _⟩
  · rw [e, Bool.eq_iff_iff]; simp; exact h
  · rw [e, Bool.eq_iff_iff]; simp; exact ⟨_, List.getElem_mem hk, h⟩
theorem rks_elem : Try.prog.underlying 67 = some (.slice (Try.prog.elem 67)) := by kernel_rfl
theorem rks_el : Try.prog.elem 67 = 59 := by kernel_rfl
theorem size_rk (W : World) : (sizeOf 59).run Try.prog W = .ok 4 W := cRk.sizeOf W

set_option maxHeartbeats 3200000 in
theorem idx_any {w : World} {M : List Nat} {v : Value} {rs : List Rk} {f : Nat} {bs cb : Array Value} {p : Rk → Bool} (C : Cb w f bs cb p) (h : RksAt w M v rs) (hl : rs.length ≤ 100000) :
    Calls Try.prog 79 #[v, .func (.func f) bs cb] w fun e w' => e = .returned (.int .i64 (idxK p rs)) ∧ Keeps [] w w' := by
  obtain ⟨a, c, rfl⟩ := h.shape
  have H := hid h
  have CC := hid C
  have eg := C.eg
  clear h C
  go_enter Try.func79, Try.ntmps79
  go_wp2_with fail
  go_loopw [5, 8] (fun _ iv wr => ∃ k : Nat, iv = .int .i64 (k : Int) ∧ k ≤ rs.length ∧ Hid (∀ j (hj : j < rs.length), j < k → p rs[j] = false) ∧ Hid (Keeps [] w wr)) (fun _ iv _ => rs.length - (intOf iv).toNat)
  case atStart => exact ⟨0, rfl, by omega, hid (fun j _ h => absurd h (Nat.not_lt_zero _)), hid (Keeps.refl _ _)⟩
  case round =>
    obtain ⟨k, rfl, hk, HA, HK⟩ := hrel
    by_cases hlt : k < rs.length
    · obtain ⟨g, off, rfl, _, hcap, hg, hM, hr⟩ := (H.out.later HK.out).open (by omega)
      have R0 := range_rk hr k hlt
      obtain ⟨y, hy⟩ : ∃ y, y = rs[k] := ⟨_, rfl⟩
      rw [← hy] at R0
      have HY := hid hy
      have R := hid R0
      have hcall := CC.out.call wr HK.out y
      clear hr hcap hg hM R0 hy
      cases hq : p y with
      | true =>
        rw [hq] at hcall
        have HQ := hid hq
        clear hq
        go_wp2_with (first | (refine wpList_loadRk cRk rfl _ rfl g (off + k * 4) (by simp [Act.eval]) y R.out ?_) | (go_at_fn f; refine hcall.mono ?_; rintro e w' ⟨rfl, k2⟩; have K2 := hid k2; clear k2) | fail)
        go_ret
        exact ⟨by rw [idxK_hit hlt (by rw [← HY.out]; exact HQ.out) HA.out]; rfl, HK.out.trans K2.out⟩
      | false =>
        rw [hq] at hcall
        have HQ := hid hq
        clear hq
        go_wp2_with (first | (refine wpList_loadRk cRk rfl _ rfl g (off + k * 4) (by simp [Act.eval]) y R.out ?_) | (go_at_fn f; refine hcall.mono ?_; rintro e w' ⟨rfl, k2⟩; have K2 := hid k2; clear k2) | fail)
        go_roundw
        case rel =>
          refine ⟨k + 1, by go_num, by omega, hid fun j hj hjk => ?_, hid (HK.out.trans K2.out)⟩
          by_cases e : j = k
          · subst e; rw [← HY.out]; exact HQ.out
          · exact HA.out j hj (by omega)
        case measure => simp [intOf]; omega
    · obtain rfl : k = rs.length := by omega
      go_wp2_with fail
      go_ret
      exact ⟨by rw [idxK_miss (fun j hj => HA.out j hj hj)]; rfl, HK.out⟩
set_option maxHeartbeats 3200000 in
theorem cont_any {w : World} {M : List Nat} {v : Value} {rs : List Rk} {f : Nat} {bs cb : Array Value} {p : Rk → Bool} (C : Cb w f bs cb p) (h : RksAt w M v rs) (hl : rs.length ≤ 100000) :
    Calls Try.prog 70 #[v, .func (.func f) bs cb] w (PB w (rs.any p)) := by
  have I := hid (idx_any C h hl)
  have E := hid (any_idx p rs)
  obtain ⟨a, c, rfl⟩ := h.shape
  clear h C
  obtain ⟨i, hi⟩ : ∃ i, i = idxK p rs := ⟨_, rfl⟩
  rw [← hi] at I E
  clear hi
  go_enter Try.func70, Try.ntmps70
  go_wp2_with fail
  refine I.out.mono ?_
  rintro e w2 ⟨rfl, k2⟩
  have K2 := hid k2
  clear k2
  go_wp2_with fail
  go_ret
  exact ⟨ret_boolK (by rw [← E.out]), K2.out⟩
def keepK (p : Rk → Bool) (x : Rk) : Bool := !p x
theorem zeros_rks (m : Nat) : (Builtin.zeroCells (rkV rZ).cells m).toList = rkcells (List.replicate m rZ) := by
  have e : (rkV rZ).cells = #[.int .i64 0, .int .i64 0, .int .i64 0, .bool false] := rfl
  rw [e]
  apply List.ext_getElem?
  intro j
  simp only [Builtin.zeroCells, Array.toList_map, Array.toList_range, List.getElem?_map]
  have hsz : (#[Value.int .i64 0, .int .i64 0, .int .i64 0, .bool false] : Array Value).size = 4 := rfl
  rw [hsz]
  by_cases h : j < m * 4
  · rw [List.getElem?_range h]
    have hi : j / 4 < m := by omega
    have hj : j % 4 < 4 := Nat.mod_lt _ (by omega)
    have e2 := rkcells_in (List.replicate m rZ) (j / 4) (by simpa using hi) (j % 4) hj
    rw [show j / 4 * 4 + j % 4 = j by omega] at e2
    rw [e2, List.getElem_replicate, Option.map_some]
    generalize j % 4 = k at hj
    match k, hj with
    | 0, _ => rfl
    | 1, _ => rfl
    | 2, _ => rfl
    | 3, _ => rfl
  · rw [List.getElem?_eq_none (by simpa using h), List.getElem?_eq_none (by rw [rkcells_length]; simpa using h)]
    rfl
theorem addr_add0k : ∀ ad : Addr, ad.add 0 = ad := fun ad => by unfold Addr.add; split <;> simp_all
theorem rks_hi (a : Option Addr) (len cap n : Nat) (hn : n ≤ cap) (W : World) : (Instr.sliceAt 67 (.slice a len cap) none (some (.int .i64 (n : Int))) none).run Try.prog W = .ok (.slice a n cap) W := by
  rw [run_sliceAt_slice W 67 _ _ _ _ rks_elem, run_slice_h W 67 a len cap rks_elem .i64 n (by omega) (by omega), rks_el, size_rk]
  have ha : (if cap = 0 then a else a.map (·.add 0)) = a := by
    split
    · rfl
    · cases a <;> simp [addr_add0k]
  simp [Result.andThen, sliced, ha]
theorem rks_lo (g len cap i : Nat) (hi : i ≤ len) (hc : i < cap) (W : World) : (Instr.sliceAt 67 (.slice (some ⟨g, 0, none⟩) len cap) (some (.int .i64 (i : Int))) none none).run Try.prog W = .ok (.slice (some ⟨g, i * 4, none⟩) (len - i) (cap - i)) W := by
  rw [run_sliceAt_slice W 67 _ _ _ _ rks_elem, run_slice_l W 67 _ len cap rks_elem .i64 i (by omega) (by omega), rks_el, size_rk]
  have h : ¬ cap = i := by omega
  simp [Result.andThen, sliced, h, Addr.add_lit]
theorem rks_cut (a : Option Addr) (len cap n : Nat) (h1 : len ≤ cap) (hn : n ≤ len) (W : World) : (Instr.sliceAt 67 (.slice a len cap) none (some (.int .i64 (n : Int))) (some (.int .i64 (n : Int)))).run Try.prog W = .ok (.slice a n n) W := by
  rw [run_sliceAt_slice W 67 _ _ _ _ rks_elem, run_slice_hm W 67 a len cap rks_elem .i64 .i64 n n (by omega) (by omega) (by omega), rks_el, size_rk]
  have ha : (if n = 0 then a else a.map (·.add 0)) = a := by
    split
    · rfl
    · cases a <;> simp [addr_add0k]
  simp [Result.andThen, sliced, ha]
theorem setRow_keepsK {w : World} {b : Nat} {old cs : Array Value} {E : TypeId} (hb : w.heap[b]? = some (.cells old E (0, 0))) : (w.setRow b cs).heap[b]? = some (.cells cs E (0, 0)) ∧ Keeps [b] w (w.setRow b cs) :=
  ⟨setRow_heap w b old cs E (0, 0) hb, ⟨rfl, rfl, rfl, by simp [World.setRow], fun k _ hm => setRow_other w b k cs (by simpa using hm)⟩⟩
section
variable {ops : Array Oper} {rest : List Oper} {o : Oper} {a : Act} {w : World} {Q : Exit → Act → World → Prop}
/-- A pointer is stored into a row of them. -/
theorem exec_storeRkAt {ρ : Operand → Value} (x y : Operand) (hop : o.op = .store 59 x y) (g off : Nat) (hx : ρ x = .pointer (some ⟨g, off, none⟩)) (cur : Array Value)
    (hb : w.heap[g]? = some (.cells cur 59 (0, 0))) (hfit : off + 4 ≤ cur.size) (t : Rk) (hy : ρ y = rkV t) :
    (execOp ρ o).run Try.prog w = .ok .skip (w.setRow g (cur.toList.take off ++ t.cells ++ cur.toList.drop (off + 4)).toArray) := by
  have hst := run_storeCells_at Try.prog g off 59 t.cells 0 cur w hb (by simpa [Rk.cells] using hfit) (fun v hv => rkcells_all [t] v (by simpa [rkcells] using hv))
  have hr : (Instr.storeAt 59 (.pointer (some ⟨g, off, none⟩)) (rkV t)).run Try.prog w = .ok () (w.setRow g (cur.toList.take off ++ t.cells ++ cur.toList.drop (off + 4)).toArray) := by
    obtain ⟨i0, hi, hz0, hz1, hz2⟩ := info_parts cRk.info
    have e3 : (rkV t).cells = t.cells.toArray := rfl
    have e4 : t.cells.length = 4 := rfl
    simp only [Nat.add_zero, e4] at hst
    simp only [Instr.storeAt, Instr.sureAddr, Sem.run_bind, Sem.run_pure, Result.andThen_ok, storeVar]
    have e5 : t.cells.toArray.size = 4 := rfl
    simp [sizeOf, typeInfo, hi, hz1, e3, e4, e5, hst]
  unfold execOp
  simp only [hop, hx, hy, hr, Sem.run_bind, Result.andThen_ok]
  rfl
theorem wpList_storeRkAt (hgd : o.guard = none) (x y : Operand) (hop : o.op = .store 59 x y) (g off : Nat) (hx : a.eval x = .pointer (some ⟨g, off, none⟩)) (cur : Array Value)
    (hb : w.heap[g]? = some (.cells cur 59 (0, 0))) (hfit : off + 4 ≤ cur.size) (t : Rk) (hy : a.eval y = rkV t)
    (h : ∀ w', Hid (w'.heap[g]? = some (.cells (cur.toList.take off ++ t.cells ++ cur.toList.drop (off + 4)).toArray 59 (0, 0))) → Hid (Keeps [g] w w') → wpList Try.prog ops Q rest (a.put o.dst undef) w') : wpList Try.prog ops Q (o :: rest) a w := by
  obtain ⟨s1, s2⟩ := setRow_keepsK (cs := (cur.toList.take off ++ t.cells ++ cur.toList.drop (off + 4)).toArray) hb
  exact wpList_noval hgd _ (exec_storeRkAt x y hop g off hx cur hb hfit t hy) (h _ s1 s2)
/-- The rest of a row is cleared. -/
theorem wpList_clearRk (hgd : o.guard = none) (x : Operand) (hop : o.op = .call { callee := .builtin .clear, args := #[x], argTypes := #[67] }) (g off n c : Nat) (hn : 0 < n) (hx : a.eval x = .slice (some ⟨g, off, none⟩) n c) (cur : Array Value)
    (hb : w.heap[g]? = some (.cells cur 59 (0, 0))) (hfit : off + n * 4 ≤ cur.size)
    (h : ∀ w' cs, Hid (w'.heap[g]? = some (.cells cs 59 (0, 0)) ∧ cs.size = cur.size ∧ cs.toList.take off = cur.toList.take off) → Hid (Keeps [g] w w') → wpList Try.prog ops Q rest (a.put o.dst (.tuple #[])) w') : wpList Try.prog ops Q (o :: rest) a w := by
  obtain ⟨i0, hi, hz0, hz1, hz2⟩ := info_parts cRk.info
  have hzl : (Builtin.zeroCells (rkV rZ).cells n).toList.length = n * 4 := by
    rw [zeros_rks, rkcells_length]; simp
  have h1 : ∀ v ∈ (Builtin.zeroCells (rkV rZ).cells n).toList, v.oneCell' = true := by
    rw [zeros_rks]; exact rkcells_all _
  have hst := run_storeCells_at Try.prog g off 59 _ 0 cur w hb (by rw [hzl]; simpa using hfit) h1
  have hr : (Builtin.clear_ #[67] o.type #[.slice (some ⟨g, off, none⟩) n c]).run Try.prog w = .ok (.tuple #[]) (w.setRow g (cur.toList.take (off + 0) ++ (Builtin.zeroCells (rkV rZ).cells n).toList ++ cur.toList.drop (off + 0 + (Builtin.zeroCells (rkV rZ).cells n).toList.length)).toArray) := by
    obtain ⟨m, rfl⟩ : ∃ m, n = m + 1 := ⟨n - 1, by omega⟩
    have hv : ∀ w, (zeroValue 59).run Try.prog w = .ok (rkV rZ) w := fun w => by simp [zeroValue, typeInfo, hi, hz0]
    simp [Builtin.clear_, run_underlying Try.underlying67, hv, hst]
  obtain ⟨s1, s2⟩ := setRow_keepsK (cs := (cur.toList.take (off + 0) ++ (Builtin.zeroCells (rkV rZ).cells n).toList ++ cur.toList.drop (off + 0 + (Builtin.zeroCells (rkV rZ).cells n).toList.length)).toArray) hb
  refine wpList_is hgd (.tuple #[]) _ ?_ (h _ _ ⟨s1, ?_, ?_⟩ s2)
  · simp [execOp, hop, resolve, invoke, builtin, hx, hr, Result.andThen]
  · rw [hzl]
    simp only [List.size_toArray, List.length_append, List.length_take, List.length_drop, Array.length_toList, hzl]
    omega
  · simp only [Nat.add_zero, List.append_assoc]
    rw [List.take_append_of_le_length (by simp; omega), List.take_take, Nat.min_self]
end

theorem filterK_none {p : Rk → Bool} : ∀ {ms : List Rk}, (∀ m ∈ ms, p m = false) → ms.filter (keepK p) = ms
  | [], _ => rfl
  | m :: r, h => by
    have h1 : keepK p m = true := by unfold keepK; rw [h m (List.mem_cons_self ..)]; rfl
    rw [List.filter_cons, if_pos h1, filterK_none (fun x hx => h x (List.mem_cons_of_mem _ hx))]
theorem filterK_le (p : Rk → Bool) (ms : List Rk) : (ms.filter (keepK p)).length ≤ ms.length := List.length_filter_le _ _

/-- What DeleteFunc holds behind j of them. -/
structure DelAtK (p : Rk → Bool) (w wr : World) (g cap : Nat) (ms : List Rk) (i j : Nat) : Prop where
  cnt : i = ((ms.take j).filter (keepK p)).length
  blk : ∃ cur : Array Value, wr.heap[g]? = some (.cells cur 59 (0, 0)) ∧ cur.size = cap * 4 ∧ cur.toList.take (i * 4) = rkcells ((ms.take j).filter (keepK p)) ∧ (cur.toList.drop (j * 4)).take ((ms.length - j) * 4) = rkcells (ms.drop j)
  keep : Keeps [g] w wr
theorem DelAtK.range {p : Rk → Bool} {w wr : World} {g cap : Nat} {ms : List Rk} {i j : Nat} (h : DelAtK p w wr g cap ms i j) (hj : j < ms.length) : wr.rangeAt g (0 + j * 4) ms[j].cells := fun k u hu => by
  obtain ⟨cur, hb, hs, _, hd⟩ := h.blk
  have hk : k < 4 := by
    have := (List.getElem?_eq_some_iff.1 hu).1
    simpa [Rk.cells] using this
  have e := rkcells_in (ms.drop j) 0 (by rw [List.length_drop]; omega) k hk
  have e2 : (ms.drop j)[0]'(by rw [List.length_drop]; omega) = ms[j] := by simp
  rw [e2, hu, Nat.zero_mul, Nat.zero_add, ← hd, List.getElem?_take, if_pos (by omega), List.getElem?_drop] at e
  rw [Nat.zero_add, cell_of_row _ _ _ _ _ _ hb, ← Array.getElem?_toList]
  exact e
theorem filterK_snoc (p : Rk → Bool) (ms : List Rk) (j : Nat) (hj : j < ms.length) : (ms.take (j + 1)).filter (keepK p) = (ms.take j).filter (keepK p) ++ if keepK p ms[j] then [ms[j]] else [] := by
  rw [List.take_succ_eq_append_getElem hj, List.filter_append]
  cases h : keepK p ms[j] <;> simp [h]
/-- One more is left out. -/
theorem DelAtK.skip {p : Rk → Bool} {w wr w1 : World} {g cap : Nat} {ms : List Rk} {i j : Nat} (h : DelAtK p w wr g cap ms i j) (hj : j < ms.length) (ht : p ms[j] = true) (k : Keeps [] wr w1) : DelAtK p w w1 g cap ms i (j + 1) := by
  obtain ⟨cur, hb, hs, hp, hd⟩ := h.blk
  have hf := filterK_snoc p ms j hj
  rw [if_neg (by simp [keepK, ht]), List.append_nil] at hf
  refine ⟨by rw [hf]; exact h.cnt, ⟨cur, (k.block _ (lt_of_block hb) (by simp)).trans hb, hs, by rw [hf]; exact hp, ?_⟩, h.keep.trans (k.mono (by simp))⟩
  have := congrArg (List.drop 4) hd
  rw [List.drop_take, List.drop_drop, ← rkcells_drop _ 1, List.drop_drop] at this
  rw [show (j + 1) * 4 = j * 4 + 4 by omega, show (ms.length - (j + 1)) * 4 = (ms.length - j) * 4 - 4 by omega]
  exact this
/-- One more is kept. -/
theorem DelAtK.put {p : Rk → Bool} {w wr w1 : World} {g cap : Nat} {ms : List Rk} {i j : Nat} (h : DelAtK p w wr g cap ms i j) (hij : i < j) (hj : j < ms.length) (ht : p ms[j] = false) {cur : Array Value} (hb : wr.heap[g]? = some (.cells cur 59 (0, 0)))
    (hb1 : w1.heap[g]? = some (.cells (cur.toList.take (i * 4) ++ ms[j].cells ++ cur.toList.drop (i * 4 + 4)).toArray 59 (0, 0))) (hcap : ms.length ≤ cap) (k : Keeps [g] wr w1) : DelAtK p w w1 g cap ms (i + 1) (j + 1) := by
  obtain ⟨cur', hb', hs, hp, hd⟩ := h.blk
  rw [hb] at hb'
  injection hb' with e
  injection e with e _ _
  subst e
  have hf := filterK_snoc p ms j hj
  rw [if_pos (by simp [keepK, ht])] at hf
  have hl3 : cur.toList.length = cap * 4 := by simpa using hs
  have lt1 : (cur.toList.take (i * 4)).length = i * 4 := by rw [List.length_take]; omega
  have lt2 : ms[j].cells.length = 4 := rfl
  refine ⟨by rw [hf, List.length_append, ← h.cnt]; rfl, ⟨_, hb1, ?_, ?_, ?_⟩, h.keep.trans k⟩
  · simp only [List.size_toArray, List.length_append, List.length_take, List.length_drop, lt2, Array.length_toList]
    omega
  · rw [hf, rkcells_append, ← hp]
    have e1 : (i + 1) * 4 = (cur.toList.take (i * 4) ++ ms[j].cells).length := by rw [List.length_append, lt1, lt2]; omega
    rw [e1]
    simp only [List.take_left]
    simp [rkcells]
  · have := congrArg (List.drop 4) hd
    rw [List.drop_take, List.drop_drop, ← rkcells_drop _ 1, List.drop_drop] at this
    rw [show (j + 1) * 4 = j * 4 + 4 by omega, show (ms.length - (j + 1)) * 4 = (ms.length - j) * 4 - 4 by omega]
    rw [← this]
    congr 1
    have e2 : j * 4 + 4 = (cur.toList.take (i * 4) ++ ms[j].cells).length + (j - i) * 4 := by rw [List.length_append, lt1, lt2]; omega
    simp only []
    rw [e2, List.drop_append, List.drop_drop]
    congr 1
    rw [List.length_append, lt1]; simp [lt2]; omega

end Go.Proofs.Ytjohikekhgcepaa
