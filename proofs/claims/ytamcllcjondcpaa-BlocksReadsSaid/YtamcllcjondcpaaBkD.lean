/- blocks: a file's map plainly; in memory; isMade, Size, Count, At. -/
import Derived.Test.YtamcllcjondcpaaBkC
namespace Go.Proofs.Ytamcllcjondcpaa
open Go.RowKit Go.Shelf
set_option maxRecDepth 100000
set_option linter.unusedSimpArgs false

structure Dl where
  d : Int
  i : Int
  b : Int
  s : Int
  t : Pt
  o : Pt
deriving Inhabited
def Dl.cells (x : Dl) : List Value := [.int .i64 x.d, .int .i64 x.i, .int .i64 x.b, .int .i64 x.s] ++ x.t.cells ++ x.o.cells
def dlV (x : Dl) : Value := .agg x.cells.toArray
/-- A file's map. -/
structure Bk where
  sz : Int
  L : List Pt
deriving Inhabited
def cnt (s : Int) : Nat := ((s + 63) / 64).toNat
def atB (L : List Pt) (b : Int) : Pt := if 0 ≤ b then L.getD b.toNat pZ else pZ
def mayD (m : Bk) (x : Dl) : Bool :=
  if x.d = 1 then btw x.b 0 63 && btw x.s (x.b * 64 + 1) 4096 && mayP x.t
  else if x.d = 2 then btw x.s 0 4096
  else if x.d = 3 then !zB x.o && eqP (atB m.L x.b) x.o && mayP x.t && (x.t.k == x.o.k)
  else false
def fitL (L : List Pt) (n : Nat) : List Pt := L.take n ++ List.replicate (n - L.length) pZ
def doD (m : Bk) (x : Dl) : Bk :=
  if x.d = 1 then ⟨max m.sz x.s, (fitL m.L (cnt (max m.sz x.s))).set x.b.toNat x.t⟩
  else if x.d = 2 then ⟨x.s, fitL m.L (cnt x.s)⟩
  else ⟨m.sz, m.L.set x.b.toNat x.t⟩
def stepD (m : Bk) (x : Dl) : Bk := if mayD m x = true then doD m x else m
structure GoodB (m : Bk) : Prop where
  lo : 0 ≤ m.sz
  hi : m.sz ≤ 4096
  len : m.L.length = cnt m.sz
  may : ∀ x ∈ m.L, mayP x = true
theorem cnt_le {s : Int} (h : s ≤ 4096) : cnt s ≤ 64 := by unfold cnt; omega
theorem GoodB.few {m : Bk} (h : GoodB m) : m.L.length ≤ 64 := by rw [h.len]; exact cnt_le h.hi
theorem fitL_len (L : List Pt) (n : Nat) : (fitL L n).length = n := by unfold fitL; simp; omega
theorem mayP_zero : mayP pZ = true := by decide
theorem mem_fitL {L : List Pt} {n : Nat} {x : Pt} (h : x ∈ fitL L n) : x ∈ L ∨ x = pZ := by
  unfold fitL at h
  rcases List.mem_append.1 h with h | h
  · exact Or.inl (List.mem_of_mem_take h)
  · exact Or.inr (List.eq_of_mem_replicate h)
theorem atB_mem {L : List Pt} {b : Int} (h : atB L b ≠ pZ) : 0 ≤ b ∧ b.toNat < L.length := by
  unfold atB at h
  by_cases h0 : 0 ≤ b
  · rw [if_pos h0] at h
    refine ⟨h0, ?_⟩
    rcases Nat.lt_or_ge b.toNat L.length with h1 | h1
    · exact h1
    · rw [List.getD_eq_getElem?_getD, List.getElem?_eq_none h1] at h
      exact absurd rfl h
  · rw [if_neg h0] at h; exact absurd rfl h
theorem eqP_is {a b : Pt} : eqP a b = true ↔ a = b := by simp [eqP]
theorem GoodB.step {m : Bk} (h : GoodB m) (x : Dl) (hm : mayD m x = true) : GoodB (doD m x) := by
  have e1 := h.lo; have e2 := h.hi
  unfold mayD at hm
  unfold doD
  by_cases h1 : x.d = 1
  · rw [if_pos h1] at hm ⊢
    simp only [Bool.and_eq_true, btw_is] at hm
    obtain ⟨⟨⟨a1, a2⟩, a3, a4⟩, a5⟩ := hm
    refine ⟨by simp; omega, by simp; omega, by simp [fitL_len], fun y hy => ?_⟩
    rcases List.mem_or_eq_of_mem_set hy with hy | rfl
    · rcases mem_fitL hy with hy | rfl
      · exact h.may y hy
      · exact mayP_zero
    · exact a5
  · rw [if_neg h1] at hm ⊢
    by_cases h2 : x.d = 2
    · rw [if_pos h2] at hm ⊢
      rw [btw_is] at hm
      refine ⟨hm.1, hm.2, by simp [fitL_len], fun y hy => ?_⟩
      rcases mem_fitL hy with hy | rfl
      · exact h.may y hy
      · exact mayP_zero
    · rw [if_neg h2] at hm ⊢
      by_cases h3 : x.d = 3
      · rw [if_pos h3] at hm
        simp only [Bool.and_eq_true] at hm
        refine ⟨e1, e2, by simp [h.len], fun y hy => ?_⟩
        rcases List.mem_or_eq_of_mem_set hy with hy | rfl
        · exact h.may y hy
        · exact hm.1.2
      · rw [if_neg h3] at hm; cases hm
theorem GoodB.steps {m : Bk} (h : GoodB m) (x : Dl) : GoodB (stepD m x) := by
  unfold stepD
  split
  · rename_i hm; exact h.step x hm
  · exact h
def bk0 : Bk := ⟨0, []⟩
theorem good0 : GoodB bk0 := ⟨by decide, by decide, by decide, by simp [bk0]⟩

/-- A map of the package's, its row in none of the blocks of M. -/
structure BkAt (w : World) (M : List Nat) (q : Nat) (s : Bk) : Prop where
  ex : ∃ v, w.heap[q]? = some (.cells #[.bool true, .int .i64 s.sz, v] 76 (0, 0)) ∧ PtsAt w M v s.L
  mem : q ∈ M
  good : GoodB s
theorem BkAt.lt {w : World} {M : List Nat} {q : Nat} {s : Bk} (h : BkAt w M q s) : q < w.heap.size := by obtain ⟨⟨v, hb, _⟩, _, _⟩ := h; exact lt_of_block hb
theorem BkAt.keep {w w' : World} {M S : List Nat} {q : Nat} {s : Bk} (h : BkAt w M q s) (k : Keeps S w w') (hq : q ∉ S) (hS : ∀ b ∈ S, b ∈ M) : BkAt w' M q s := by
  have hl := h.lt
  obtain ⟨⟨v, hb, hv⟩, h2, h3⟩ := h
  exact ⟨⟨v, (k.block q hl hq).trans hb, hv.keep k hS⟩, h2, h3⟩
theorem BkAt.later {w w' : World} {M : List Nat} {q : Nat} {s : Bk} (h : BkAt w M q s) (k : Keeps [] w w') : BkAt w' M q s := h.keep k (by simp) (by simp)
theorem BkAt.more {w : World} {M N : List Nat} {q : Nat} {s : Bk} (h : BkAt w M q s) (hN : ∀ b ∈ N, b ∈ M ∨ w.heap.size ≤ b) (hq : q ∈ N) : BkAt w N q s := by
  obtain ⟨⟨v, hb, hv⟩, h2, h3⟩ := h
  exact ⟨⟨v, hb, hv.more hN⟩, hq, h3⟩
theorem BkAt.cells {w : World} {M : List Nat} {q : Nat} {s : Bk} (h : BkAt w M q s) : ∃ a c, w.cell? ⟨q, 0, none⟩ = some (.bool true) ∧ w.cell? ⟨q, 1, none⟩ = some (.int .i64 s.sz) ∧ w.cell? ⟨q, 2, none⟩ = some (.slice a s.L.length c) ∧ PtsAt w M (.slice a s.L.length c) s.L := by
  obtain ⟨⟨v, hb, hv⟩, _, _⟩ := h
  obtain ⟨a, c, rfl⟩ := hv.shape
  obtain ⟨c0, c1, c2⟩ := block_cells3 hb
  exact ⟨a, c, c0, c1, c2, hv⟩

section
variable {w : World} {M : List Nat} {q : Nat} {s : Bk}
theorem zMade_any (h : BkAt w M q s) : Calls Try.prog 49 #[.pointer (some ⟨q, 0, none⟩)] w fun e w' => e = .returned (.bool true) ∧ w = w' := by
  obtain ⟨a, c, c0, c1, c2, hv⟩ := h.cells
  clear c1 c2 hv h
  go_enter Try.func49, Try.ntmps49
  go_wp2_with fail
  go_ret
  exact ⟨rfl, rfl⟩
theorem zSize_any (h : BkAt w M q s) : Calls Try.prog 30 #[.pointer (some ⟨q, 0, none⟩)] w fun e w' => e = .returned (.int .i64 s.sz) ∧ w = w' := by
  obtain ⟨a, c, c0, c1, c2, hv⟩ := h.cells
  clear c2 hv
  have H := hid h
  clear h
  go_enter Try.func30, Try.ntmps30
  go_wp2_with fail
  refine (zMade_any H.out).mono ?_
  rintro e _ ⟨rfl, rfl⟩
  go_wp2_with fail
  go_ret
  exact ⟨rfl, rfl⟩
theorem zCount_any (h : BkAt w M q s) : Calls Try.prog 31 #[.pointer (some ⟨q, 0, none⟩)] w fun e w' => e = .returned (.int .i64 (s.L.length : Int)) ∧ w = w' := by
  obtain ⟨a, c, c0, c1, c2, hv⟩ := h.cells
  clear hv
  have H := hid h
  clear h
  go_enter Try.func31, Try.ntmps31
  go_wp2_with fail
  refine (zMade_any H.out).mono ?_
  rintro e _ ⟨rfl, rfl⟩
  go_wp2_with fail
  go_ret
  exact ⟨rfl, rfl⟩
end

def AtPost (w : World) (x : Pt) (e : Ending) (w' : World) : Prop := e = .returned (ptV x) ∧ Keeps [] w w'
theorem pt_ret {fn : Func} {p : Tmp} (hr : fn.results = #[.cell p 47]) {tmps : Array Value} {w : World} {b : Nat} {x : Pt} (hp : tmps.getD p undef = .pointer (some ⟨b, 0, none⟩)) (hx : w.rangeAt b 0 x.cells) : (results fn tmps).run Try.prog w = .ok (ptV x) w := by
  have hp' : tmps[p]?.getD undef = .pointer (some ⟨b, 0, none⟩) := by simpa using hp
  have hv : (loadVar 47 ⟨b, 0, none⟩).run Try.prog w = .ok (ptV x) w := run_loadVar_mid w b 0 47 x.cells _ hx uPtr rfl (by rw [sPtr]; rfl)
  simp [results, hr, hp', asAddr, hv]
set_option maxHeartbeats 1600000 in
theorem zAt_any {w : World} {M : List Nat} {q : Nat} {s : Bk} (h : BkAt w M q s) (b : Int) : Calls Try.prog 32 #[.pointer (some ⟨q, 0, none⟩), .int .i64 b] w (AtPost w (atB s.L b)) := by
  have kA : Keeps [] w (w.alloc (.cells pZ.cells.toArray 47)) := (Keeps.refl [] w).alloc _
  have HA := hid (h.later kA)
  have HF := hid h.good.few
  obtain ⟨a, c, c0, c1, c2, hv⟩ := HA.out.cells
  have HV := hid hv
  clear hv c0 c1 h kA
  by_cases h0 : b < 0
  · have E : Hid (atB s.L b = pZ) := hid (by unfold atB; rw [if_neg (by omega)])
    clear c2
    go_enter Try.func32, Try.ntmps32
    go_wp2_with (first | (refine wpList_is rfl _ _ (exec_alloc 47 pZ.cells.toArray iPtr2 rfl) ?_) | (refine wpList_is rfl _ _ (exec_buildPtZ rfl) ?_) | (refine wpList_noval rfl _ (exec_storeNew 47 _ _ rfl w pZ.cells.toArray pZ.cells.toArray rfl rfl rfl iPtr2 rfl (cells_one pZ)) ?_) | fail)
    refine bodyPost_ret (pt_ret rfl rfl (range_new w pZ.cells 47)) rfl ?_
    exact ⟨by rw [E.out], (Keeps.refl [] w).alloc _⟩
  · by_cases h1 : b < (s.L.length : Int)
    · obtain ⟨k, rfl⟩ := Int.eq_ofNat_of_zero_le (show 0 ≤ b by omega)
      have hk : k < s.L.length := by omega
      have E : Hid (atB s.L (k : Int) = s.L[k]) := hid (by
        unfold atB
        rw [if_pos (by omega), List.getD_eq_getElem?_getD, Int.toNat_natCast, List.getElem?_eq_getElem hk]
        rfl)
      obtain ⟨g, off, rfl, _, hcap, hg, hM, hr⟩ := HV.out.open (by omega)
      have R0 := range_pt hr k hk
      obtain ⟨y, hy⟩ : ∃ y, y = s.L[k] := ⟨_, rfl⟩
      rw [← hy] at R0 E
      have R := hid R0
      clear hr hcap hg hM h0 hy hk R0
      go_enter Try.func32, Try.ntmps32
      go_wp2_with (first | (refine wpList_is rfl _ _ (exec_alloc 47 pZ.cells.toArray iPtr2 rfl) ?_) | (go_at_call 31; refine (zCount_any HA.out).mono ?_; rintro e _ ⟨rfl, rfl⟩) | (refine wpList_loadPt rfl _ rfl g (off + k * 5) rfl y R.out ?_) | (refine wpList_noval rfl _ (exec_storeNew 47 _ _ rfl w pZ.cells.toArray y.cells.toArray rfl rfl rfl iPtr2 rfl (cells_one _)) ?_) | fail)
      refine bodyPost_ret (pt_ret rfl rfl (range_new w y.cells 47)) rfl ?_
      exact ⟨by rw [E.out], (Keeps.refl [] w).alloc _⟩
    · have E : Hid (atB s.L b = pZ) := hid (by
        unfold atB
        rw [if_pos (by omega), List.getD_eq_getElem?_getD, List.getElem?_eq_none (by omega)]
        rfl)
      clear c2
      go_enter Try.func32, Try.ntmps32
      go_wp2_with (first | (refine wpList_is rfl _ _ (exec_alloc 47 pZ.cells.toArray iPtr2 rfl) ?_) | (go_at_call 31; refine (zCount_any HA.out).mono ?_; rintro e _ ⟨rfl, rfl⟩) | (refine wpList_is rfl _ _ (exec_buildPtZ rfl) ?_) | (refine wpList_noval rfl _ (exec_storeNew 47 _ _ rfl w pZ.cells.toArray pZ.cells.toArray rfl rfl rfl iPtr2 rfl (cells_one pZ)) ?_) | fail)
      refine bodyPost_ret (pt_ret rfl rfl (range_new w pZ.cells 47)) rfl ?_
      exact ⟨by rw [E.out], (Keeps.refl [] w).alloc _⟩
end Go.Proofs.Ytamcllcjondcpaa
