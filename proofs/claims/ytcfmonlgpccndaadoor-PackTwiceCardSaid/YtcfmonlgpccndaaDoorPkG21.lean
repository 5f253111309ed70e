/- BkF, BkG. -/
import Derived.Test.YtcfmonlgpccndaaDoorPkG20
/- blocks: slices of pointers cut, stored into; slices.DeleteFunc; Ptrs. -/
namespace Go.Proofs.YtcfmonlgpccndaaDoor
open Go.RowKit Go.Shelf
set_option maxRecDepth 100000
set_option linter.unusedSimpArgs false

theorem addr_add00 : ∀ ad : Addr, ad.add 0 = ad := fun ad => by unfold Addr.add; split <;> simp_all
theorem ptrs_hi (a : Option Addr) (len cap n : Nat) (hn : n ≤ cap) (W : World) : (Instr.sliceAt 57 (.slice a len cap) none (some (.int .i64 (n : Int))) none).run Tryd.prog W = .ok (.slice a n cap) W := by
  rw [run_sliceAt_slice W 57 _ _ _ _ ptrs_elem, run_slice_h W 57 a len cap ptrs_elem .i64 n (by omega) (by omega), ptrs_el, size_ptr]
  have ha : (if cap = 0 then a else a.map (·.add 0)) = a := by
    split
    · rfl
    · cases a <;> simp [addr_add00]
  simp [Result.andThen, sliced, ha]
theorem ptrs_lo (g len cap i : Nat) (hi : i ≤ len) (hc : i < cap) (W : World) : (Instr.sliceAt 57 (.slice (some ⟨g, 0, none⟩) len cap) (some (.int .i64 (i : Int))) none none).run Tryd.prog W = .ok (.slice (some ⟨g, i * 5, none⟩) (len - i) (cap - i)) W := by
  rw [run_sliceAt_slice W 57 _ _ _ _ ptrs_elem, run_slice_l W 57 _ len cap ptrs_elem .i64 i (by omega) (by omega), ptrs_el, size_ptr]
  have h : ¬ cap = i := by omega
  simp [Result.andThen, sliced, h, Addr.add_lit]
theorem ptrs_cut (a : Option Addr) (len cap n : Nat) (h1 : len ≤ cap) (hn : n ≤ len) (W : World) : (Instr.sliceAt 57 (.slice a len cap) none (some (.int .i64 (n : Int))) (some (.int .i64 (n : Int)))).run Tryd.prog W = .ok (.slice a n n) W := by
  rw [run_sliceAt_slice W 57 _ _ _ _ ptrs_elem, run_slice_hm W 57 a len cap ptrs_elem .i64 .i64 n n (by omega) (by omega) (by omega), ptrs_el, size_ptr]
  have ha : (if n = 0 then a else a.map (·.add 0)) = a := by
    split
    · rfl
    · cases a <;> simp [addr_add00]
  simp [Result.andThen, sliced, ha]
theorem setRow_keepsP {w : World} {b : Nat} {old cs : Array Value} {E : TypeId} (hb : w.heap[b]? = some (.cells old E (0, 0))) : (w.setRow b cs).heap[b]? = some (.cells cs E (0, 0)) ∧ Keeps [b] w (w.setRow b cs) :=
  ⟨setRow_heap w b old cs E (0, 0) hb, ⟨rfl, rfl, rfl, by simp [World.setRow], fun k _ hm => setRow_other w b k cs (by simpa using hm)⟩⟩
section
variable {ops : Array Oper} {rest : List Oper} {o : Oper} {a : Act} {w : World} {Q : Exit → Act → World → Prop}
/-- A pointer is stored into a row of them. -/
theorem exec_storePtAt {ρ : Operand → Value} (x y : Operand) (hop : o.op = .store 36 x y) (g off : Nat) (hx : ρ x = .pointer (some ⟨g, off, none⟩)) (cur : Array Value)
    (hb : w.heap[g]? = some (.cells cur 36 (0, 0))) (hfit : off + 5 ≤ cur.size) (t : Pt) (hy : ρ y = ptV t) :
    (execOp ρ o).run Tryd.prog w = .ok .skip (w.setRow g (cur.toList.take off ++ t.cells ++ cur.toList.drop (off + 5)).toArray) := by
  have hst := run_storeCells_at Tryd.prog g off 36 t.cells 0 cur w hb (by simpa [Pt.cells] using hfit) (fun v hv => pcells_one [t] v (by simpa [pcells] using hv))
  have hr : (Instr.storeAt 36 (.pointer (some ⟨g, off, none⟩)) (ptV t)).run Tryd.prog w = .ok () (w.setRow g (cur.toList.take off ++ t.cells ++ cur.toList.drop (off + 5)).toArray) := by
    obtain ⟨i0, hi, hz0, hz1, hz2⟩ := info_parts iPtr
    have e3 : (ptV t).cells = t.cells.toArray := rfl
    have e4 : t.cells.length = 5 := rfl
    simp only [Nat.add_zero, e4] at hst
    simp only [Instr.storeAt, Instr.sureAddr, Sem.run_bind, Sem.run_pure, Result.andThen_ok, storeVar]
    have e5 : t.cells.toArray.size = 5 := rfl
    simp [sizeOf, typeInfo, hi, hz1, e3, e4, e5, hst]
  unfold execOp
  simp only [hop, hx, hy, hr, Sem.run_bind, Result.andThen_ok]
  rfl
theorem wpList_storePtAt (hgd : o.guard = none) (x y : Operand) (hop : o.op = .store 36 x y) (g off : Nat) (hx : a.eval x = .pointer (some ⟨g, off, none⟩)) (cur : Array Value)
    (hb : w.heap[g]? = some (.cells cur 36 (0, 0))) (hfit : off + 5 ≤ cur.size) (t : Pt) (hy : a.eval y = ptV t)
    (h : ∀ w', Hid (w'.heap[g]? = some (.cells (cur.toList.take off ++ t.cells ++ cur.toList.drop (off + 5)).toArray 36 (0, 0))) → Hid (Keeps [g] w w') → wpList Tryd.prog ops Q rest (a.put o.dst undef) w') : wpList Tryd.prog ops Q (o :: rest) a w := by
  obtain ⟨s1, s2⟩ := setRow_keepsP (cs := (cur.toList.take off ++ t.cells ++ cur.toList.drop (off + 5)).toArray) hb
  exact wpList_noval hgd _ (exec_storePtAt x y hop g off hx cur hb hfit t hy) (h _ s1 s2)
/-- The rest of a row is cleared. -/
theorem wpList_clearPt (hgd : o.guard = none) (x : Operand) (hop : o.op = .call { callee := .builtin .clear, args := #[x], argTypes := #[57] }) (g off n c : Nat) (hn : 0 < n) (hx : a.eval x = .slice (some ⟨g, off, none⟩) n c) (cur : Array Value)
    (hb : w.heap[g]? = some (.cells cur 36 (0, 0))) (hfit : off + n * 5 ≤ cur.size)
    (h : ∀ w' cs, Hid (w'.heap[g]? = some (.cells cs 36 (0, 0)) ∧ cs.size = cur.size ∧ cs.toList.take off = cur.toList.take off) → Hid (Keeps [g] w w') → wpList Tryd.prog ops Q rest (a.put o.dst (.tuple #[])) w') : wpList Tryd.prog ops Q (o :: rest) a w := by
  obtain ⟨i0, hi, hz0, hz1, hz2⟩ := info_parts iPtr
  have hzl : (Builtin.zeroCells (ptV pZ).cells n).toList.length = n * 5 := by
    rw [zeros_pts, pcells_length]; simp
  have h1 : ∀ v ∈ (Builtin.zeroCells (ptV pZ).cells n).toList, v.oneCell' = true := by
    rw [zeros_pts]; exact pcells_one _
  have hst := run_storeCells_at Tryd.prog g off 36 _ 0 cur w hb (by rw [hzl]; simpa using hfit) h1
  have hr : (Builtin.clear_ #[57] o.type #[.slice (some ⟨g, off, none⟩) n c]).run Tryd.prog w = .ok (.tuple #[]) (w.setRow g (cur.toList.take (off + 0) ++ (Builtin.zeroCells (ptV pZ).cells n).toList ++ cur.toList.drop (off + 0 + (Builtin.zeroCells (ptV pZ).cells n).toList.length)).toArray) := by
    obtain ⟨m, rfl⟩ : ∃ m, n = m + 1 := ⟨n - 1, by omega⟩
    have hv : ∀ w, (zeroValue 36).run Tryd.prog w = .ok (ptV pZ) w := fun w => by simp [zeroValue, typeInfo, hi, hz0]
    simp [Builtin.clear_, run_underlying Tryd.underlying57, hv, hst]
  obtain ⟨s1, s2⟩ := setRow_keepsP (cs := (cur.toList.take (off + 0) ++ (Builtin.zeroCells (ptV pZ).cells n).toList ++ cur.toList.drop (off + 0 + (Builtin.zeroCells (ptV pZ).cells n).toList.length)).toArray) hb
  refine wpList_is hgd (.tuple #[]) _ ?_ (h _ _ ⟨s1, ?_, ?_⟩ s2)
  · simp [execOp, hop, resolve, invoke, builtin, hx, hr, Result.andThen]
  · rw [hzl]
    simp only [List.size_toArray, List.length_append, List.length_take, List.length_drop, Array.length_toList, hzl]
    omega
  · simp only [Nat.add_zero, List.append_assoc]
    rw [List.take_append_of_le_length (by simp; omega), List.take_take, Nat.min_self]
end

/-- Pointers that are not zero. -/
def keepZ (x : Pt) : Bool := !zB x
theorem filterZ_none : ∀ {ms : List Pt}, (∀ m ∈ ms, zB m = false) → ms.filter keepZ = ms
  | [], _ => rfl
  | m :: r, h => by
    have h1 : keepZ m = true := by unfold keepZ; rw [h m (List.mem_cons_self ..)]; rfl
    rw [List.filter_cons, if_pos h1, filterZ_none (fun x hx => h x (List.mem_cons_of_mem _ hx))]
theorem filterZ_le (ms : List Pt) : (ms.filter keepZ).length ≤ ms.length := List.length_filter_le _ _

/-- What DeleteFunc holds behind j of them. -/
structure DelAtP (w wr : World) (g cap : Nat) (ms : List Pt) (i j : Nat) : Prop where
  cnt : i = ((ms.take j).filter keepZ).length
  blk : ∃ cur : Array Value, wr.heap[g]? = some (.cells cur 36 (0, 0)) ∧ cur.size = cap * 5 ∧ cur.toList.take (i * 5) = pcells ((ms.take j).filter keepZ) ∧ (cur.toList.drop (j * 5)).take ((ms.length - j) * 5) = pcells (ms.drop j)
  keep : Keeps [g] w wr
theorem DelAtP.range {w wr : World} {g cap : Nat} {ms : List Pt} {i j : Nat} (h : DelAtP w wr g cap ms i j) (hj : j < ms.length) : wr.rangeAt g (0 + j * 5) ms[j].cells := fun k u hu => by
  obtain ⟨cur, hb, hs, _, hd⟩ := h.blk
  have hk : k < 5 := by
    have := (List.getElem?_eq_some_iff.1 hu).1
    simpa [Pt.cells] using this
  have e := pcells_in (ms.drop j) 0 (by rw [List.length_drop]; omega) k hk
  have e2 : (ms.drop j)[0]'(by rw [List.length_drop]; omega) = ms[j] := by simp
  rw [e2, hu, Nat.zero_mul, Nat.zero_add, ← hd, List.getElem?_take, if_pos (by omega), List.getElem?_drop] at e
  rw [Nat.zero_add, cell_of_row _ _ _ _ _ _ hb, ← Array.getElem?_toList]
  exact e
theorem filterZ_snoc (ms : List Pt) (j : Nat) (hj : j < ms.length) : (ms.take (j + 1)).filter keepZ = (ms.take j).filter keepZ ++ if keepZ ms[j] then [ms[j]] else [] := by
  rw [List.take_succ_eq_append_getElem hj, List.filter_append]
  cases h : keepZ ms[j] <;> simp [h]
/-- One more is left out. -/
theorem DelAtP.skip {w wr w1 : World} {g cap : Nat} {ms : List Pt} {i j : Nat} (h : DelAtP w wr g cap ms i j) (hj : j < ms.length) (ht : zB ms[j] = true) (k : Keeps [] wr w1) : DelAtP w w1 g cap ms i (j + 1) := by
  obtain ⟨cur, hb, hs, hp, hd⟩ := h.blk
  have hf := filterZ_snoc ms j hj
  rw [if_neg (by simp [keepZ, ht]), List.append_nil] at hf
  refine ⟨by rw [hf]; exact h.cnt, ⟨cur, (k.block _ (lt_of_block hb) (by simp)).trans hb, hs, by rw [hf]; exact hp, ?_⟩, h.keep.trans (k.mono (by simp))⟩
  have := congrArg (List.drop 5) hd
  rw [List.drop_take, List.drop_drop, ← pcells_drop _ 1, List.drop_drop] at this
  rw [show (j + 1) * 5 = j * 5 + 5 by omega, show (ms.length - (j + 1)) * 5 = (ms.length - j) * 5 - 5 by omega]
  exact this
/-- One more is kept. -/
theorem DelAtP.put {w wr w1 : World} {g cap : Nat} {ms : List Pt} {i j : Nat} (h : DelAtP w wr g cap ms i j) (hij : i < j) (hj : j < ms.length) (ht : zB ms[j] = false) {cur : Array Value} (hb : wr.heap[g]? = some (.cells cur 36 (0, 0)))
    (hb1 : w1.heap[g]? = some (.cells (cur.toList.take (i * 5) ++ ms[j].cells ++ cur.toList.drop (i * 5 + 5)).toArray 36 (0, 0))) (hcap : ms.length ≤ cap) (k : Keeps [g] wr w1) : DelAtP w w1 g cap ms (i + 1) (j + 1) := by
  obtain ⟨cur', hb', hs, hp, hd⟩ := h.blk
  rw [hb] at hb'
  injection hb' with e
  injection e with e _ _
  subst e
  have hf := filterZ_snoc ms j hj
  rw [if_pos (by simp [keepZ, ht])] at hf
  have hl3 : cur.toList.length = cap * 5 := by simpa using hs
  have lt1 : (cur.toList.take (i * 5)).length = i * 5 := by rw [List.length_take]; omega
  have lt2 : ms[j].cells.length = 5 := rfl
  refine ⟨by rw [hf, List.length_append, ← h.cnt]; rfl, ⟨_, hb1, ?_, ?_, ?_⟩, h.keep.trans k⟩
  · simp only [List.size_toArray, List.length_append, List.length_take, List.length_drop, lt2, Array.length_toList]
    omega
  · rw [hf, pcells_append, ← hp]
    have e1 : (i + 1) * 5 = (cur.toList.take (i * 5) ++ ms[j].cells).length := by rw [List.length_append, lt1, lt2]; omega
    rw [e1]
    simp only [List.take_left]
    simp [pcells]
  · have := congrArg (List.drop 5) hd
    rw [List.drop_take, List.drop_drop, ← pcells_drop _ 1, List.drop_drop] at this
    rw [show (j + 1) * 5 = j * 5 + 5 by omega, show (ms.length - (j + 1)) * 5 = (ms.length - j) * 5 - 5 by omega]
    rw [← this]
    congr 1
    have e2 : j * 5 + 5 = (cur.toList.take (i * 5) ++ ms[j].cells).length + (j - i) * 5 := by rw [List.length_append, lt1, lt2]; omega
    simp only []
    rw [e2, List.drop_append, List.drop_drop]
    congr 1
    rw [List.length_append, lt1]; simp [lt2]; omega

def isZF : Value := .func (.func 49) #[] #[]
def DelPostP (w : World) (M : List Nat) (B : Nat) (v : Value) (ms : List Pt) (e : Ending) (w' : World) : Prop :=
  ∃ a c, e = .returned (.slice a (ms.filter keepZ).length c) ∧ OwnP w' B M (.slice a (ms.filter keepZ).length c) (ms.filter keepZ) ∧ Keeps v.ownBlock.toList w w'
end Go.Proofs.YtcfmonlgpccndaaDoor


/- blocks: gone. -/
namespace Go.Proofs.YtcfmonlgpccndaaDoor
open Go.RowKit Go.Shelf
set_option maxRecDepth 100000
set_option linter.unusedSimpArgs false

def goneS (has l : List Pt) (x : Pt) : List Pt := if (!zB x && !hasP has x && !hasP l x) = true then l ++ [x] else l
/-- What stood in one row and stands in another no more, each once. -/
def goneL (had has : List Pt) : List Pt := had.foldl (goneS has) []
theorem goneL_snoc (had has : List Pt) (k : Nat) (h : k < had.length) : goneL (had.take (k + 1)) has = goneS has (goneL (had.take k) has) had[k] := by
  unfold goneL
  rw [List.take_succ_eq_append_getElem h, List.foldl_append]
  rfl
theorem goneL_le (had has : List Pt) : (goneL had has).length ≤ had.length := by
  have : ∀ (xs l : List Pt), (xs.foldl (goneS has) l).length ≤ l.length + xs.length := by
    intro xs
    induction xs with
    | nil => intro l; simp
    | cons x xs ih =>
      intro l
      have := ih (goneS has l x)
      have h2 : (goneS has l x).length ≤ l.length + 1 := by unfold goneS; split <;> simp
      simp only [List.foldl_cons, List.length_cons]
      omega
  simpa [goneL] using this had []
theorem exec_onePt {ρ : Operand → Value} {o : Oper} {w : World} (x : Operand) (t : Pt) (ho : o.op = .buildSlice 57 1 #[(0, x)]) (hx : ρ x = ptV t) :
    (execOp ρ o).run Tryd.prog w = .ok (.value (.slice (some ⟨w.heap.size, 0, none⟩) 1 1)) (w.alloc (.cells t.cells.toArray 36)) := by
  obtain ⟨ie, hie, hz, hs, _⟩ := info_parts iPtr
  have h : (Instr.buildSlice 57 1 #[(0, ptV t)]).run Tryd.prog w = .ok (.slice (some ⟨w.heap.size, 0, none⟩) 1 1) (w.alloc (.cells t.cells.toArray 36)) := by
    refine run_buildSlice w _ _ 1 _ _ ie _ Tryd.underlying57 hie hz (by rw [hs]; decide) (by rw [hs]; decide) ?_
    rw [hs]
    have e : (Array.range (1 * 5)) = #[0, 1, 2, 3, 4] := rfl
    have e2 : (ptV pZ).cells = #[.int .i64 0, .int .i64 0, .int .i64 0, .int .i64 0, .int .i64 0] := rfl
    have e3 : (ptV t).cells = #[.int .i64 t.c, .int .i64 t.l, .int .i64 t.n, .int .i64 t.a, .int .i64 t.k] := rfl
    simp only [Instr.fill, e, e2, e3]
    simp [Pt.cells]
  simp only [execOp, ho, List.map_toArray, List.map_cons, List.map_nil, hx, Sem.run_bind, h, Result.andThen_ok, Sem.run_pure]
theorem one_pts (w : World) (M : List Nat) (hM : ∀ b ∈ M, b < w.heap.size) (t : Pt) : PtsAt (w.alloc (.cells t.cells.toArray 36)) M (.slice (some ⟨w.heap.size, 0, none⟩) 1 1) [t] :=
  ⟨_, 1, rfl, by simp, by decide, by simp, fun ad had => ⟨w.heap.size, 0, (Option.some.inj had).symm, by simp, fun hm => by have := hM _ hm; omega, by
    have := range_new w t.cells 36
    simpa [pcells] using this⟩⟩

def GonePost (w : World) (M : List Nat) (l : List Pt) (e : Ending) (w' : World) : Prop :=
  ∃ a c, e = .returned (.slice a l.length c) ∧ OwnP w' w.heap.size M (.slice a l.length c) l ∧ Keeps [] w w'
set_option maxHeartbeats 6400000 in
theorem zGone_any (w : World) (M : List Nat) (hM : ∀ b ∈ M, b < w.heap.size) (v u : Value) (had has : List Pt) (hv : PtsAt w M v had) (hu : PtsAt w M u has) (hl : had.length ≤ 1000) (hl2 : has.length ≤ 1000) :
    Calls Tryd.prog 37 #[v, u] w (GonePost w M (goneL had has)) := by
  have HM := hid hM
  have HV := hid hv
  have HU := hid hu
  have HL2 := hid hl2
  obtain ⟨a, c, rfl⟩ := hv.shape
  clear hu hv hM hl2
  go_enter Tryd.func37, Tryd.ntmps37
  go_wp2_with fail
  go_loopw [5, 10] (fun lv kv wr => ∃ (k : Nat) (b : Option Addr) (n d : Nat), kv = .int .i64 k ∧ k ≤ had.length ∧ lv = .slice b n d ∧ n = (goneL (had.take k) has).length ∧ OwnP wr w.heap.size M (.slice b n d) (goneL (had.take k) has) ∧ Keeps [] w wr) (fun _ kv _ => had.length - (intOf kv).toNat)
  case atStart => exact ⟨0, none, 0, 0, rfl, Nat.zero_le _, rfl, rfl, OwnP.nil _ _ _ HM.out, Keeps.refl _ _⟩
  case round =>
    obtain ⟨k, b, n, d, rfl, hk, rfl, hn, ho, hkp⟩ := hrel
    have HN := hid hn
    have HO := hid ho
    have HK := hid hkp
    clear hn ho hkp
    by_cases hlt : k < had.length
    · have HE := hid (goneL_snoc had has k hlt)
      obtain ⟨g, off, rfl, _, hcap, hg, hgM, hr⟩ := (HV.out.later HK.out).open (by omega)
      have R0 := range_pt hr k hlt
      obtain ⟨y, hy⟩ : ∃ y, y = had[k] := ⟨_, rfl⟩
      rw [← hy] at HE R0
      have R := hid R0
      obtain ⟨L, hL⟩ : ∃ L, L = goneL (had.take k) has := ⟨_, rfl⟩
      have HLL := hid (show L.length ≤ 1000 by rw [hL]; have := goneL_le (had.take k) has; rw [List.length_take] at this; omega)
      rw [← hL] at HN HO HE
      have RA := hid (range_new wr y.cells 36)
      have ka : Keeps [] wr (wr.alloc (.cells y.cells.toArray 36)) := (Keeps.refl [] wr).alloc _
      have KA := hid ka
      clear hr hcap hg hgM R0 hy ka hL
      obtain ⟨uA, uC, hU⟩ := HU.out.shape
      subst hU
      cases hz : zB y with
      | true =>
        have HZ := hid hz
        clear hz
        go_wp2_with (first | (refine wpList_isW rfl _ _ (exec_load _ _ _ _ rfl rfl (loadPt_run _ g (off + k * 5) y R.out)) ?_) | (refine wpList_is rfl _ _ (exec_alloc 36 pZ.cells.toArray iPtr2 rfl) ?_) | (refine wpList_noval rfl _ (exec_storeNew 36 _ _ rfl wr pZ.cells.toArray y.cells.toArray rfl rfl rfl iPtr2 rfl (cells_one _)) ?_) | (refine wpList_isW rfl _ _ (exec_load _ _ _ _ rfl rfl (loadPt_run _ wr.heap.size 0 y RA.out)) ?_) | fail)
        refine (isZero_any _ y).mono ?_
        rintro e w2 ⟨rfl, k2⟩
        have K2 := hid (KA.out.trans k2)
        have R2 := hid (range_keep RA.out k2 (by simp))
        clear k2
        rw [HZ.out]
        go_wp2_with fail
        go_roundw
        case rel =>
          refine ⟨k + 1, b, n, d, by go_num, by omega, rfl, ?_, ?_, HK.out.trans K2.out⟩
          · rw [HE.out]; unfold goneS; rw [HZ.out]; exact HN.out
          · rw [HE.out]; unfold goneS; rw [HZ.out]; exact HO.out.later K2.out
        case measure => simp [intOf]; omega
      | false =>
        have HZ := hid hz
        clear hz
        cases hc : hasP has y with
        | true =>
          have HC := hid hc
          clear hc
          go_wp2_with (first | (refine wpList_isW rfl _ _ (exec_load _ _ _ _ rfl rfl (loadPt_run _ g (off + k * 5) y R.out)) ?_) | (refine wpList_is rfl _ _ (exec_alloc 36 pZ.cells.toArray iPtr2 rfl) ?_) | (refine wpList_noval rfl _ (exec_storeNew 36 _ _ rfl wr pZ.cells.toArray y.cells.toArray rfl rfl rfl iPtr2 rfl (cells_one _)) ?_) | (refine wpList_isW rfl _ _ (exec_load _ _ _ _ rfl rfl (loadPt_run _ wr.heap.size 0 y RA.out)) ?_) | fail)
          refine (isZero_any _ y).mono ?_
          rintro e w2 ⟨rfl, k2⟩
          have K2 := hid (KA.out.trans k2)
          have R2 := hid (range_keep RA.out k2 (by simp))
          clear k2
          rw [HZ.out]
          go_wp2_with (first | (refine wpList_isW rfl _ _ (exec_load _ _ _ _ rfl rfl (loadPt_run _ wr.heap.size 0 y R2.out)) ?_) | fail)
          refine (zContains_any w2 M _ has (HU.out.later (HK.out.trans K2.out)) (by have := HL2.out; omega) y).mono ?_
          rintro e w3 ⟨rfl, k3⟩
          have K3 := hid (K2.out.trans k3)
          have R3 := hid (range_keep R2.out k3 (by simp))
          clear k3
          rw [HC.out]
          go_wp2_with fail
          go_roundw
          case rel =>
            refine ⟨k + 1, b, n, d, by go_num, by omega, rfl, ?_, ?_, HK.out.trans K3.out⟩
            · rw [HE.out]; unfold goneS; rw [HZ.out, HC.out]; exact HN.out
            · rw [HE.out]; unfold goneS; rw [HZ.out, HC.out]; exact HO.out.later K3.out
          case measure => simp [intOf]; omega
        | false =>
          have HC := hid hc
          clear hc
          cases hd : hasP L y with
          | true =>
            have HD := hid hd
            clear hd
            go_wp2_with (first | (refine wpList_isW rfl _ _ (exec_load _ _ _ _ rfl rfl (loadPt_run _ g (off + k * 5) y R.out)) ?_) | (refine wpList_is rfl _ _ (exec_alloc 36 pZ.cells.toArray iPtr2 rfl) ?_) | (refine wpList_noval rfl _ (exec_storeNew 36 _ _ rfl wr pZ.cells.toArray y.cells.toArray rfl rfl rfl iPtr2 rfl (cells_one _)) ?_) | (refine wpList_isW rfl _ _ (exec_load _ _ _ _ rfl rfl (loadPt_run _ wr.heap.size 0 y RA.out)) ?_) | fail)
            refine (isZero_any _ y).mono ?_
            rintro e w2 ⟨rfl, k2⟩
            have K2 := hid (KA.out.trans k2)
            have R2 := hid (range_keep RA.out k2 (by simp))
            clear k2
            rw [HZ.out]
            go_wp2_with (first | (refine wpList_isW rfl _ _ (exec_load _ _ _ _ rfl rfl (loadPt_run _ wr.heap.size 0 y R2.out)) ?_) | fail)
            refine (zContains_any w2 M _ has (HU.out.later (HK.out.trans K2.out)) (by have := HL2.out; omega) y).mono ?_
            rintro e w3 ⟨rfl, k3⟩
            have K3 := hid (K2.out.trans k3)
            have R3 := hid (range_keep R2.out k3 (by simp))
            clear k3
            rw [HC.out]
            go_wp2_with (first | (refine wpList_isW rfl _ _ (exec_load _ _ _ _ rfl rfl (loadPt_run _ wr.heap.size 0 y R3.out)) ?_) | fail)
            refine (zContains_any w3 M _ L ((HO.out.later K3.out).at) (by have := HLL.out; omega) y).mono ?_
            rintro e w4 ⟨rfl, k4⟩
            have K4 := hid (K3.out.trans k4)
            have R4 := hid (range_keep R3.out k4 (by simp))
            clear k4
            rw [HD.out]
            go_wp2_with fail
            go_roundw
            case rel =>
              refine ⟨k + 1, b, n, d, by go_num, by omega, rfl, ?_, ?_, HK.out.trans K4.out⟩
              · rw [HE.out]; unfold goneS; rw [HZ.out, HC.out, HD.out]; exact HN.out
              · rw [HE.out]; unfold goneS; rw [HZ.out, HC.out, HD.out]; exact HO.out.later K4.out
            case measure => simp [intOf]; omega
          | false =>
            have HD := hid hd
            clear hd
            go_wp2_with (first | (refine wpList_isW rfl _ _ (exec_load _ _ _ _ rfl rfl (loadPt_run _ g (off + k * 5) y R.out)) ?_) | (refine wpList_is rfl _ _ (exec_alloc 36 pZ.cells.toArray iPtr2 rfl) ?_) | (refine wpList_noval rfl _ (exec_storeNew 36 _ _ rfl wr pZ.cells.toArray y.cells.toArray rfl rfl rfl iPtr2 rfl (cells_one _)) ?_) | (refine wpList_isW rfl _ _ (exec_load _ _ _ _ rfl rfl (loadPt_run _ wr.heap.size 0 y RA.out)) ?_) | fail)
            refine (isZero_any _ y).mono ?_
            rintro e w2 ⟨rfl, k2⟩
            have K2 := hid (KA.out.trans k2)
            have R2 := hid (range_keep RA.out k2 (by simp))
            clear k2
            rw [HZ.out]
            go_wp2_with (first | (refine wpList_isW rfl _ _ (exec_load _ _ _ _ rfl rfl (loadPt_run _ wr.heap.size 0 y R2.out)) ?_) | fail)
            refine (zContains_any w2 M _ has (HU.out.later (HK.out.trans K2.out)) (by have := HL2.out; omega) y).mono ?_
            rintro e w3 ⟨rfl, k3⟩
            have K3 := hid (K2.out.trans k3)
            have R3 := hid (range_keep R2.out k3 (by simp))
            clear k3
            rw [HC.out]
            go_wp2_with (first | (refine wpList_isW rfl _ _ (exec_load _ _ _ _ rfl rfl (loadPt_run _ wr.heap.size 0 y R3.out)) ?_) | fail)
            refine (zContains_any w3 M _ L ((HO.out.later K3.out).at) (by have := HLL.out; omega) y).mono ?_
            rintro e w4 ⟨rfl, k4⟩
            have K4 := hid (K3.out.trans k4)
            have R4 := hid (range_keep R3.out k4 (by simp))
            clear k4
            rw [HD.out]
            have OL := HO.out.later K4.out
            have k5 : Keeps [] w4 (w4.alloc (.cells y.cells.toArray 36)) := (Keeps.refl [] w4).alloc _
            have S5 := one_pts w4 M (fun b hb => by have := HM.out b hb; have := HK.out.size; have := K4.out.size; omega) y
            have K5 := hid (K4.out.trans k5)
            obtain ⟨a', c', w6, hrun, o6, k6⟩ := append_pts (OL.later k5) _ _ _ S5 (by have := HLL.out; simp; omega) (by have := HK.out.size; have := K5.out.size; omega) 57
            have O6 := hid o6
            have K6 := hid ((HK.out.trans K5.out).trans' k6 (S := []) (fun i hi hm => by have := (HO.out.blk i (by simpa using hm)).1; omega))
            have RUN := hid hrun
            clear OL k5 S5 hrun o6 k6
            go_wp2_with (first | (refine wpList_isW rfl _ _ (exec_load _ _ _ _ rfl rfl (loadPt_run _ wr.heap.size 0 y R4.out)) ?_) | (refine wpList_is rfl _ _ (exec_onePt _ y rfl rfl) ?_) | (refine wpList_is rfl _ _ (exec_appendT 57 _ _ rfl rfl rfl RUN.out) ?_) | fail)
            go_roundw
            case rel =>
              refine ⟨k + 1, a', _, c', by go_num, by omega, rfl, ?_, ?_, K6.out⟩
              · rw [HE.out]; unfold goneS; rw [HZ.out, HC.out, HD.out]; simp
              · rw [HE.out]; unfold goneS; rw [HZ.out, HC.out, HD.out]; exact O6.out
            case measure => simp [intOf]; omega
    · obtain rfl : k = had.length := by omega
      go_wp2_with fail
      go_ret
      rw [List.take_length] at HN HO
      exact ⟨b, d, by rw [HN.out]; rfl, by rw [← HN.out]; exact HO.out, HK.out⟩
end Go.Proofs.YtcfmonlgpccndaaDoor
