/- BkC, BkD, ShelfBk, BkE. -/
import Derived.Test.YtcfmonlgpccndaaDoorPkG19
import Derived.Shelf.SlicesQ.Contains
import Derived.Shelf.SlicesQ.IndexFunc
import Derived.Shelf.SlicesE.Clone
import Derived.Test.YtcfmonlgpccndaaDoorProg
/- blocks: May. -/
namespace Go.Proofs.YtcfmonlgpccndaaDoor
open Go.RowKit Go.Shelf
set_option maxRecDepth 100000

set_option maxHeartbeats 1600000 in
theorem may11_any (w : World) (x : Pt) : Calls Tryd.prog 48 #[ptV x] w fun e w' => e = .returned (.bool (mayP x)) ∧ Keeps [] w w' := by
  have HR := hid (range_new w x.cells 36)
  have KB := hid ((Keeps.refl [] w).alloc (.cells x.cells.toArray 36))
  have HZ := hid (isZero_any (w.alloc (.cells x.cells.toArray 36)) x)
  have hsz : w.heap.size < (w.alloc (.cells x.cells.toArray 36)).heap.size := by simp
  have HS := hid hsz
  clear hsz
  obtain ⟨r, hr⟩ : ∃ r, r = mayP x := ⟨_, rfl⟩
  rw [← hr]
  have HM := hid hr
  clear hr
  cases h0 : zB x with
  | true =>
    rw [h0] at HZ
    have Z := hid h0
    clear h0
    go_enter Tryd.func48, Tryd.ntmps48
    go_wp2_with (first | (refine wpList_boxPt rfl _ rfl x rfl ?_) | (refine wpList_loadPt rfl _ rfl w.heap.size 0 rfl x HR.out ?_) | fail)
    refine HZ.out.mono ?_
    rintro e w2 ⟨rfl, k2⟩
    have K2 := hid (KB.out.trans k2)
    clear k2
    go_wp2_with fail
    go_ret
    exact ⟨by rw [HM.out]; unfold mayP; rw [Z.out]; rfl, K2.out⟩
  | false =>
    rw [h0] at HZ
    have Z := hid h0
    clear h0
    cases h0 : btw x.c 0 4 with
    | false =>
      have H0 := hid h0
      clear h0
      go_enter Tryd.func48, Tryd.ntmps48
      go_wp2_with (first | (refine wpList_boxPt rfl _ rfl x rfl ?_) | (refine wpList_loadPt rfl _ rfl w.heap.size 0 rfl x HR.out ?_) | fail)
      refine HZ.out.mono ?_
      rintro e w2 ⟨rfl, k2⟩
      have K2 := hid (KB.out.trans k2)
      obtain ⟨c0, c1, c2, c3, c4⟩ := range_at (range_keep HR.out k2 (by simp))
      simp only [Nat.zero_add] at c1 c2 c3 c4
      clear k2
      go_wp2_with fail
      refine (bwithin_as _ x.c 0 4 _ H0.out).mono ?_
      rintro e _ ⟨rfl, rfl⟩
      go_wp2_with fail
      go_ret
      exact ⟨by rw [HM.out]; unfold mayP; rw [Z.out, H0.out]; rfl, K2.out⟩
    | true =>
      have H0 := hid h0
      clear h0
      cases h1 : btw x.l 0 1048576 with
      | false =>
        have H1 := hid h1
        clear h1
        go_enter Tryd.func48, Tryd.ntmps48
        go_wp2_with (first | (refine wpList_boxPt rfl _ rfl x rfl ?_) | (refine wpList_loadPt rfl _ rfl w.heap.size 0 rfl x HR.out ?_) | fail)
        refine HZ.out.mono ?_
        rintro e w2 ⟨rfl, k2⟩
        have K2 := hid (KB.out.trans k2)
        obtain ⟨c0, c1, c2, c3, c4⟩ := range_at (range_keep HR.out k2 (by simp))
        simp only [Nat.zero_add] at c1 c2 c3 c4
        clear k2
        go_wp2_with fail
        refine (bwithin_as _ x.c 0 4 _ H0.out).mono ?_
        rintro e _ ⟨rfl, rfl⟩
        go_wp2_with fail
        refine (bwithin_as _ x.l 0 1048576 _ H1.out).mono ?_
        rintro e _ ⟨rfl, rfl⟩
        go_wp2_with fail
        go_ret
        exact ⟨by rw [HM.out]; unfold mayP; rw [Z.out, H0.out, H1.out]; rfl, K2.out⟩
      | true =>
        have H1 := hid h1
        clear h1
        cases h2 : btw x.n 0 1073741824 with
        | false =>
          have H2 := hid h2
          clear h2
          go_enter Tryd.func48, Tryd.ntmps48
          go_wp2_with (first | (refine wpList_boxPt rfl _ rfl x rfl ?_) | (refine wpList_loadPt rfl _ rfl w.heap.size 0 rfl x HR.out ?_) | fail)
          refine HZ.out.mono ?_
          rintro e w2 ⟨rfl, k2⟩
          have K2 := hid (KB.out.trans k2)
          obtain ⟨c0, c1, c2, c3, c4⟩ := range_at (range_keep HR.out k2 (by simp))
          simp only [Nat.zero_add] at c1 c2 c3 c4
          clear k2
          go_wp2_with fail
          refine (bwithin_as _ x.c 0 4 _ H0.out).mono ?_
          rintro e _ ⟨rfl, rfl⟩
          go_wp2_with fail
          refine (bwithin_as _ x.l 0 1048576 _ H1.out).mono ?_
          rintro e _ ⟨rfl, rfl⟩
          go_wp2_with fail
          refine (bwithin_as _ x.n 0 1073741824 _ H2.out).mono ?_
          rintro e _ ⟨rfl, rfl⟩
          go_wp2_with fail
          go_ret
          exact ⟨by rw [HM.out]; unfold mayP; rw [Z.out, H0.out, H1.out, H2.out]; rfl, K2.out⟩
        | true =>
          have H2 := hid h2
          clear h2
          cases h3 : btw x.a 0 5999 with
          | false =>
            have H3 := hid h3
            clear h3
            go_enter Tryd.func48, Tryd.ntmps48
            go_wp2_with (first | (refine wpList_boxPt rfl _ rfl x rfl ?_) | (refine wpList_loadPt rfl _ rfl w.heap.size 0 rfl x HR.out ?_) | fail)
            refine HZ.out.mono ?_
            rintro e w2 ⟨rfl, k2⟩
            have K2 := hid (KB.out.trans k2)
            obtain ⟨c0, c1, c2, c3, c4⟩ := range_at (range_keep HR.out k2 (by simp))
            simp only [Nat.zero_add] at c1 c2 c3 c4
            clear k2
            go_wp2_with fail
            refine (bwithin_as _ x.c 0 4 _ H0.out).mono ?_
            rintro e _ ⟨rfl, rfl⟩
            go_wp2_with fail
            refine (bwithin_as _ x.l 0 1048576 _ H1.out).mono ?_
            rintro e _ ⟨rfl, rfl⟩
            go_wp2_with fail
            refine (bwithin_as _ x.n 0 1073741824 _ H2.out).mono ?_
            rintro e _ ⟨rfl, rfl⟩
            go_wp2_with fail
            refine (bwithin_as _ x.a 0 5999 _ H3.out).mono ?_
            rintro e _ ⟨rfl, rfl⟩
            go_wp2_with fail
            go_ret
            exact ⟨by rw [HM.out]; unfold mayP; rw [Z.out, H0.out, H1.out, H2.out, H3.out]; rfl, K2.out⟩
          | true =>
            obtain ⟨b1, b2⟩ := btw_is.1 h3
            have H3 := hid h3
            clear h3
            cases h4 : btw x.k 1 (min 64 (6000 - x.a)) with
            | false =>
              have H4 := hid h4
              clear h4
              go_enter Tryd.func48, Tryd.ntmps48
              go_wp2_with (first | (refine wpList_boxPt rfl _ rfl x rfl ?_) | (refine wpList_loadPt rfl _ rfl w.heap.size 0 rfl x HR.out ?_) | fail)
              refine HZ.out.mono ?_
              rintro e w2 ⟨rfl, k2⟩
              have K2 := hid (KB.out.trans k2)
              obtain ⟨c0, c1, c2, c3, c4⟩ := range_at (range_keep HR.out k2 (by simp))
              simp only [Nat.zero_add] at c1 c2 c3 c4
              clear k2
              go_wp2_with fail
              refine (bwithin_as _ x.c 0 4 _ H0.out).mono ?_
              rintro e _ ⟨rfl, rfl⟩
              go_wp2_with fail
              refine (bwithin_as _ x.l 0 1048576 _ H1.out).mono ?_
              rintro e _ ⟨rfl, rfl⟩
              go_wp2_with fail
              refine (bwithin_as _ x.n 0 1073741824 _ H2.out).mono ?_
              rintro e _ ⟨rfl, rfl⟩
              go_wp2_with fail
              refine (bwithin_as _ x.a 0 5999 _ H3.out).mono ?_
              rintro e _ ⟨rfl, rfl⟩
              go_wp2_with fail
              refine (bwithin_as _ x.k 1 (min 64 (6000 - x.a)) _ H4.out).mono ?_
              rintro e _ ⟨rfl, rfl⟩
              go_wp2_with fail
              go_ret
              exact ⟨by rw [HM.out]; unfold mayP; rw [Z.out, H0.out, H1.out, H2.out, H3.out, H4.out]; rfl, K2.out⟩
            | true =>
              have H4 := hid h4
              clear h4
              go_enter Tryd.func48, Tryd.ntmps48
              go_wp2_with (first | (refine wpList_boxPt rfl _ rfl x rfl ?_) | (refine wpList_loadPt rfl _ rfl w.heap.size 0 rfl x HR.out ?_) | fail)
              refine HZ.out.mono ?_
              rintro e w2 ⟨rfl, k2⟩
              have K2 := hid (KB.out.trans k2)
              obtain ⟨c0, c1, c2, c3, c4⟩ := range_at (range_keep HR.out k2 (by simp))
              simp only [Nat.zero_add] at c1 c2 c3 c4
              clear k2
              go_wp2_with fail
              refine (bwithin_as _ x.c 0 4 _ H0.out).mono ?_
              rintro e _ ⟨rfl, rfl⟩
              go_wp2_with fail
              refine (bwithin_as _ x.l 0 1048576 _ H1.out).mono ?_
              rintro e _ ⟨rfl, rfl⟩
              go_wp2_with fail
              refine (bwithin_as _ x.n 0 1073741824 _ H2.out).mono ?_
              rintro e _ ⟨rfl, rfl⟩
              go_wp2_with fail
              refine (bwithin_as _ x.a 0 5999 _ H3.out).mono ?_
              rintro e _ ⟨rfl, rfl⟩
              go_wp2_with fail
              refine (bwithin_as _ x.k 1 (min 64 (6000 - x.a)) _ H4.out).mono ?_
              rintro e _ ⟨rfl, rfl⟩
              go_wp2_with fail
              go_ret
              exact ⟨by rw [HM.out]; unfold mayP; rw [Z.out, H0.out, H1.out, H2.out, H3.out, H4.out]; rfl, K2.out⟩
end Go.Proofs.YtcfmonlgpccndaaDoor


/- blocks: a file's map plainly; in memory; isMade, Size, Count, At. -/
namespace Go.Proofs.YtcfmonlgpccndaaDoor
open Go.RowKit Go.Shelf
set_option maxRecDepth 100000
set_option linter.unusedSimpArgs false

structure Dl where
  d : Int
  i : Int
  b : Int
  s : Int
  t : Pt
  o : Pt
deriving Inhabited
def Dl.cells (x : Dl) : List Value := [.int .i64 x.d, .int .i64 x.i, .int .i64 x.b, .int .i64 x.s] ++ x.t.cells ++ x.o.cells
def dlV (x : Dl) : Value := .agg x.cells.toArray
/-- A file's map. -/
structure Bk where
  sz : Int
  L : List Pt
deriving Inhabited
def cnt (s : Int) : Nat := ((s + 63) / 64).toNat
def atB (L : List Pt) (b : Int) : Pt := if 0 ≤ b then L.getD b.toNat pZ else pZ
def mayD (m : Bk) (x : Dl) : Bool :=
  if x.d = 1 then btw x.b 0 63 && btw x.s (x.b * 64 + 1) 4096 && mayP x.t
  else if x.d = 2 then btw x.s 0 4096
  else if x.d = 3 then !zB x.o && eqP (atB m.L x.b) x.o && mayP x.t && (x.t.k == x.o.k)
  else false
def fitL (L : List Pt) (n : Nat) : List Pt := L.take n ++ List.replicate (n - L.length) pZ
def doD (m : Bk) (x : Dl) : Bk :=
  if x.d = 1 then ⟨max m.sz x.s, (fitL m.L (cnt (max m.sz x.s))).set x.b.toNat x.t⟩
  else if x.d = 2 then ⟨x.s, fitL m.L (cnt x.s)⟩
  else ⟨m.sz, m.L.set x.b.toNat x.t⟩
def stepD (m : Bk) (x : Dl) : Bk := if mayD m x = true then doD m x else m
structure GoodB (m : Bk) : Prop where
  lo : 0 ≤ m.sz
  hi : m.sz ≤ 4096
  len : m.L.length = cnt m.sz
  may : ∀ x ∈ m.L, mayP x = true
theorem cnt_le {s : Int} (h : s ≤ 4096) : cnt s ≤ 64 := by unfold cnt; omega
theorem GoodB.few {m : Bk} (h : GoodB m) : m.L.length ≤ 64 := by rw [h.len]; exact cnt_le h.hi
theorem fitL_len (L : List Pt) (n : Nat) : (fitL L n).length = n := by unfold fitL; simp; omega
theorem mayP_zero : mayP pZ = true := by decide
theorem mem_fitL {L : List Pt} {n : Nat} {x : Pt} (h : x ∈ fitL L n) : x ∈ L ∨ x = pZ := by
  unfold fitL at h
  rcases List.mem_append.1 h with h | h
  · exact Or.inl (List.mem_of_mem_take h)
  · exact Or.inr (List.eq_of_mem_replicate h)
theorem atB_mem {L : List Pt} {b : Int} (h : atB L b ≠ pZ) : 0 ≤ b ∧ b.toNat < L.length := by
  unfold atB at h
  by_cases h0 : 0 ≤ b
  · rw [if_pos h0] at h
    refine ⟨h0, ?_⟩
    rcases Nat.lt_or_ge b.toNat L.length with h1 | h1
    · exact h1
    · rw [List.getD_eq_getElem?_getD, List.getElem?_eq_none h1] at h
      exact absurd rfl h
  · rw [if_neg h0] at h; exact absurd rfl h
theorem eqP_is {a b : Pt} : eqP a b = true ↔ a = b := by simp [eqP]
theorem GoodB.step {m : Bk} (h : GoodB m) (x : Dl) (hm : mayD m x = true) : GoodB (doD m x) := by
  have e1 := h.lo; have e2 := h.hi
  unfold mayD at hm
  unfold doD
  by_cases h1 : x.d = 1
  · rw [if_pos h1] at hm ⊢
    simp only [Bool.and_eq_true, btw_is] at hm
    obtain ⟨⟨⟨a1, a2⟩, a3, a4⟩, a5⟩ := hm
    refine ⟨by simp; omega, by simp; omega, by simp [fitL_len], fun y hy => ?_⟩
    rcases List.mem_or_eq_of_mem_set hy with hy | rfl
    · rcases mem_fitL hy with hy | rfl
      · exact h.may y hy
      · exact mayP_zero
    · exact a5
  · rw [if_neg h1] at hm ⊢
    by_cases h2 : x.d = 2
    · rw [if_pos h2] at hm ⊢
      rw [btw_is] at hm
      refine ⟨hm.1, hm.2, by simp [fitL_len], fun y hy => ?_⟩
      rcases mem_fitL hy with hy | rfl
      · exact h.may y hy
      · exact mayP_zero
    · rw [if_neg h2] at hm ⊢
      by_cases h3 : x.d = 3
      · rw [if_pos h3] at hm
        simp only [Bool.and_eq_true] at hm
        refine ⟨e1, e2, by simp [h.len], fun y hy => ?_⟩
        rcases List.mem_or_eq_of_mem_set hy with hy | rfl
        · exact h.may y hy
        · exact hm.1.2
      · rw [if_neg h3] at hm; cases hm
theorem GoodB.steps {m : Bk} (h : GoodB m) (x : Dl) : GoodB (stepD m x) := by
  unfold stepD
  split
  · rename_i hm; exact h.step x hm
  · exact h
def bk0 : Bk := ⟨0, []⟩
theorem good0 : GoodB bk0 := ⟨by decide, by decide, by decide, by simp [bk0]⟩

/-- A map of the package's, its row in none of the blocks of M. -/
structure BkAt (w : World) (M : List Nat) (q : Nat) (s : Bk) : Prop where
  ex : ∃ v, w.heap[q]? = some (.cells #[.bool true, .int .i64 s.sz, v] 76 (0, 0)) ∧ PtsAt w M v s.L
  mem : q ∈ M
  good : GoodB s
theorem BkAt.lt {w : World} {M : List Nat} {q : Nat} {s : Bk} (h : BkAt w M q s) : q < w.heap.size := by obtain ⟨⟨v, hb, _⟩, _, _⟩ := h; exact lt_of_block hb
theorem BkAt.keep {w w' : World} {M S : List Nat} {q : Nat} {s : Bk} (h : BkAt w M q s) (k : Keeps S w w') (hq : q ∉ S) (hS : ∀ b ∈ S, b ∈ M) : BkAt w' M q s := by
  have hl := h.lt
  obtain ⟨⟨v, hb, hv⟩, h2, h3⟩ := h
  exact ⟨⟨v, (k.block q hl hq).trans hb, hv.keep k hS⟩, h2, h3⟩
theorem BkAt.later {w w' : World} {M : List Nat} {q : Nat} {s : Bk} (h : BkAt w M q s) (k : Keeps [] w w') : BkAt w' M q s := h.keep k (by simp) (by simp)
theorem BkAt.more {w : World} {M N : List Nat} {q : Nat} {s : Bk} (h : BkAt w M q s) (hN : ∀ b ∈ N, b ∈ M ∨ w.heap.size ≤ b) (hq : q ∈ N) : BkAt w N q s := by
  obtain ⟨⟨v, hb, hv⟩, h2, h3⟩ := h
  exact ⟨⟨v, hb, hv.more hN⟩, hq, h3⟩
theorem BkAt.cells {w : World} {M : List Nat} {q : Nat} {s : Bk} (h : BkAt w M q s) : ∃ a c, w.cell? ⟨q, 0, none⟩ = some (.bool true) ∧ w.cell? ⟨q, 1, none⟩ = some (.int .i64 s.sz) ∧ w.cell? ⟨q, 2, none⟩ = some (.slice a s.L.length c) ∧ PtsAt w M (.slice a s.L.length c) s.L := by
  obtain ⟨⟨v, hb, hv⟩, _, _⟩ := h
  obtain ⟨a, c, rfl⟩ := hv.shape
  obtain ⟨c0, c1, c2⟩ := block_cells3 hb
  exact ⟨a, c, c0, c1, c2, hv⟩

section
variable {w : World} {M : List Nat} {q : Nat} {s : Bk}
theorem zMade_any (h : BkAt w M q s) : Calls Tryd.prog 33 #[.pointer (some ⟨q, 0, none⟩)] w fun e w' => e = .returned (.bool true) ∧ w = w' := by
  obtain ⟨a, c, c0, c1, c2, hv⟩ := h.cells
  clear c1 c2 hv h
  go_enter Tryd.func33, Tryd.ntmps33
  go_wp2_with fail
  go_ret
  exact ⟨rfl, rfl⟩
theorem zSize_any (h : BkAt w M q s) : Calls Tryd.prog 20 #[.pointer (some ⟨q, 0, none⟩)] w fun e w' => e = .returned (.int .i64 s.sz) ∧ w = w' := by
  obtain ⟨a, c, c0, c1, c2, hv⟩ := h.cells
  clear c2 hv
  have H := hid h
  clear h
  go_enter Tryd.func20, Tryd.ntmps20
  go_wp2_with fail
  refine (zMade_any H.out).mono ?_
  rintro e _ ⟨rfl, rfl⟩
  go_wp2_with fail
  go_ret
  exact ⟨rfl, rfl⟩
theorem zCount_any (h : BkAt w M q s) : Calls Tryd.prog 23 #[.pointer (some ⟨q, 0, none⟩)] w fun e w' => e = .returned (.int .i64 (s.L.length : Int)) ∧ w = w' := by
  obtain ⟨a, c, c0, c1, c2, hv⟩ := h.cells
  clear hv
  have H := hid h
  clear h
  go_enter Tryd.func23, Tryd.ntmps23
  go_wp2_with fail
  refine (zMade_any H.out).mono ?_
  rintro e _ ⟨rfl, rfl⟩
  go_wp2_with fail
  go_ret
  exact ⟨rfl, rfl⟩
end

def AtPost (w : World) (x : Pt) (e : Ending) (w' : World) : Prop := e = .returned (ptV x) ∧ Keeps [] w w'
theorem pt_ret {fn : Func} {p : Tmp} (hr : fn.results = #[.cell p 36]) {tmps : Array Value} {w : World} {b : Nat} {x : Pt} (hp : tmps.getD p undef = .pointer (some ⟨b, 0, none⟩)) (hx : w.rangeAt b 0 x.cells) : (results fn tmps).run Tryd.prog w = .ok (ptV x) w := by
  have hp' : tmps[p]?.getD undef = .pointer (some ⟨b, 0, none⟩) := by simpa using hp
  have hv : (loadVar 36 ⟨b, 0, none⟩).run Tryd.prog w = .ok (ptV x) w := run_loadVar_mid w b 0 36 x.cells _ hx uPtr rfl (by rw [sPtr]; rfl)
  simp [results, hr, hp', asAddr, hv]
set_option maxHeartbeats 1600000 in
theorem zAt_any {w : World} {M : List Nat} {q : Nat} {s : Bk} (h : BkAt w M q s) (b : Int) : Calls Tryd.prog 21 #[.pointer (some ⟨q, 0, none⟩), .int .i64 b] w (AtPost w (atB s.L b)) := by
  have kA : Keeps [] w (w.alloc (.cells pZ.cells.toArray 36)) := (Keeps.refl [] w).alloc _
  have HA := hid (h.later kA)
  have HF := hid h.good.few
  obtain ⟨a, c, c0, c1, c2, hv⟩ := HA.out.cells
  have HV := hid hv
  clear hv c0 c1 h kA
  by_cases h0 : b < 0
  · have E : Hid (atB s.L b = pZ) := hid (by unfold atB; rw [if_neg (by omega)])
    clear c2
    go_enter Tryd.func21, Tryd.ntmps21
    go_wp2_with (first | (refine wpList_is rfl _ _ (exec_alloc 36 pZ.cells.toArray iPtr2 rfl) ?_) | (refine wpList_is rfl _ _ (exec_buildPtZ rfl) ?_) | (refine wpList_noval rfl _ (exec_storeNew 36 _ _ rfl w pZ.cells.toArray pZ.cells.toArray rfl rfl rfl iPtr2 rfl (cells_one pZ)) ?_) | fail)
    refine bodyPost_ret (pt_ret rfl rfl (range_new w pZ.cells 36)) rfl ?_
    exact ⟨by rw [E.out], (Keeps.refl [] w).alloc _⟩
  · by_cases h1 : b < (s.L.length : Int)
    · obtain ⟨k, rfl⟩ := Int.eq_ofNat_of_zero_le (show 0 ≤ b by omega)
      have hk : k < s.L.length := by omega
      have E : Hid (atB s.L (k : Int) = s.L[k]) := hid (by
        unfold atB
        rw [if_pos (by omega), List.getD_eq_getElem?_getD, Int.toNat_natCast, List.getElem?_eq_getElem hk]
        rfl)
      obtain ⟨g, off, rfl, _, hcap, hg, hM, hr⟩ := HV.out.open (by omega)
      have R0 := range_pt hr k hk
      obtain ⟨y, hy⟩ : ∃ y, y = s.L[k] := ⟨_, rfl⟩
      rw [← hy] at R0 E
      have R := hid R0
      clear hr hcap hg hM h0 hy hk R0
      go_enter Tryd.func21, Tryd.ntmps21
      go_wp2_with (first | (refine wpList_is rfl _ _ (exec_alloc 36 pZ.cells.toArray iPtr2 rfl) ?_) | (go_at_call 23; refine (zCount_any HA.out).mono ?_; rintro e _ ⟨rfl, rfl⟩) | (refine wpList_loadPt rfl _ rfl g (off + k * 5) rfl y R.out ?_) | (refine wpList_noval rfl _ (exec_storeNew 36 _ _ rfl w pZ.cells.toArray y.cells.toArray rfl rfl rfl iPtr2 rfl (cells_one _)) ?_) | fail)
      refine bodyPost_ret (pt_ret rfl rfl (range_new w y.cells 36)) rfl ?_
      exact ⟨by rw [E.out], (Keeps.refl [] w).alloc _⟩
    · have E : Hid (atB s.L b = pZ) := hid (by
        unfold atB
        rw [if_pos (by omega), List.getD_eq_getElem?_getD, List.getElem?_eq_none (by omega)]
        rfl)
      clear c2
      go_enter Tryd.func21, Tryd.ntmps21
      go_wp2_with (first | (refine wpList_is rfl _ _ (exec_alloc 36 pZ.cells.toArray iPtr2 rfl) ?_) | (go_at_call 23; refine (zCount_any HA.out).mono ?_; rintro e _ ⟨rfl, rfl⟩) | (refine wpList_is rfl _ _ (exec_buildPtZ rfl) ?_) | (refine wpList_noval rfl _ (exec_storeNew 36 _ _ rfl w pZ.cells.toArray pZ.cells.toArray rfl rfl rfl iPtr2 rfl (cells_one pZ)) ?_) | fail)
      refine bodyPost_ret (pt_ret rfl rfl (range_new w pZ.cells 36)) rfl ?_
      exact ⟨by rw [E.out], (Keeps.refl [] w).alloc _⟩
end Go.Proofs.YtcfmonlgpccndaaDoor


/- The library's contracts of slices.Contains, Clone, IndexFunc laid over this program, by the library's tools (numbers by tokens). -/
namespace Go.Proofs
open Go.Shelf
def Tryd.contP_ren : Go.Shelf.Ren := ⟨fun | 7 => 51 | 6 => 64 | n => n, fun | 22 => 57 | 24 => 36 | 4 => 4 | 0 => 0 | 3 => 3 | n => n, fun | n => n⟩
theorem Tryd.contP : Go.Proofs.SlLaysQ.n7 Tryd.prog Tryd.contP_ren := {
  mixed := by kernel_rfl
  f6 := ⟨Tryd.f64.name, by decide, Tryd.func64.trans (congrArg some (by kernel_rfl))⟩
  f7 := ⟨Tryd.f51.name, by decide, Tryd.func51.trans (congrArg some (by kernel_rfl))⟩
  t0 := Tryd.underlying0
  a0 := Tryd.isAgg0
  z0 := Tryd.sizeOf0
  v0 := Tryd.zeroValue0
  t3 := Tryd.underlying3
  a3 := Tryd.isAgg3
  z3 := Tryd.sizeOf3
  v3 := Tryd.zeroValue3
  t4 := Tryd.underlying4
  a4 := Tryd.isAgg4
  z4 := Tryd.sizeOf4
  v4 := Tryd.zeroValue4
  t22 := Tryd.underlying57
  a22 := Tryd.isAgg57
  z22 := Tryd.sizeOf57
  v22 := Tryd.zeroValue57 }
def Tryd.cloneP_ren : Go.Shelf.Ren := ⟨fun | 41 => 50 | n => n, fun | 22 => 57 | 23 => 36 | 4 => 4 | n => n, fun | n => n⟩
theorem Tryd.cloneP : Go.Proofs.SlLaysE0.n41 Tryd.prog Tryd.cloneP_ren := {
  mixed := by kernel_rfl
  f41 := ⟨Tryd.f50.name, by decide, Tryd.func50.trans (congrArg some (by kernel_rfl))⟩
  t4 := Tryd.underlying4
  a4 := Tryd.isAgg4
  z4 := Tryd.sizeOf4
  v4 := Tryd.zeroValue4
  t22 := Tryd.underlying57
  a22 := Tryd.isAgg57
  z22 := Tryd.sizeOf57
  v22 := Tryd.zeroValue57 }
end Go.Proofs


/- blocks: slices.Clone, slices.Contains, slices.IndexFunc over pointers. -/
namespace Go.Proofs.YtcfmonlgpccndaaDoor
open Go.RowKit Go.Shelf
set_option maxRecDepth 100000
set_option linter.unusedSimpArgs false

theorem Keeps.ofBelowB {w w' : World} (h : Below w.heap.size w w') : Keeps [] w w' := ⟨h.os, h.tape, h.output, h.size, fun k hk _ => h.block k hk⟩
/-- slices.Clone. -/
theorem zClone0_any (w : World) (M : List Nat) (hM : ∀ b ∈ M, b < w.heap.size) (v : Value) (ps : List Pt) (h : PtsAt w M v ps) (hl : ps.length ≤ 1000) :
    Calls Tryd.prog 50 #[v] w fun e w' => ∃ a c, e = .returned (.slice a ps.length c) ∧ OwnP w' w.heap.size M (.slice a ps.length c) ps ∧ Keeps [] w w' := by
  obtain ⟨i, hi, hz, hz5, hz40⟩ := info_parts iPtr
  rcases h.two with ⟨rfl, rfl⟩ | ⟨g, off, cap, rfl, h1, h2, hg, hgM, hc⟩
  · refine (AnyE.slices_Clone_nil Tryd.cloneP _ _ w).mono ?_
    rintro e w' ⟨rfl, rfl⟩
    exact ⟨none, 0, rfl, OwnP.nil _ _ _ hM, Keeps.refl _ _⟩
  · refine (AnyE.slices_Clone Tryd.cloneP i _ 5 40 hi hz hz5 hz40 rfl (by omega) (fun w => size_ptr w) g off ps.length cap (pcells ps) w (pcells_length ps) (by unfold maxLen; omega) (by omega) (fun j u hu => hc j u hu) (pcells_one ps)).mono ?_
    rintro e w' ⟨v', rfl, ho, hn, hb⟩
    have O : OwnP w' w.heap.size M v' ps := ⟨ho, hM⟩
    obtain ⟨a', c', rfl⟩ := O.shape
    exact ⟨a', c', rfl, O, Keeps.ofBelowB hb⟩

def hasP (l : List Pt) (x : Pt) : Bool := l.any fun y => eqP x y
theorem hasP_is {l : List Pt} {x : Pt} : hasP l x = true ↔ x ∈ l := by
  unfold hasP
  rw [List.any_eq_true]
  constructor
  · rintro ⟨y, hy, he⟩; rw [eqP_is.1 he]; exact hy
  · intro h; exact ⟨x, h, eqP_is.2 rfl⟩
theorem zIndexNil_any (w : World) (x : Pt) : Calls Tryd.prog 64 #[.slice none 0 0, ptV x] w fun e w' => e = .returned (.int .i64 (-1)) ∧ Keeps [] w w' := by
  go_enter Tryd.func64, Tryd.ntmps64
  go_wp2_with (first | (refine wpList_boxPt rfl _ rfl x rfl ?_) | fail)
  go_loopw [5, 8] (fun _ s wr => s = .int .i64 0 ∧ wr = w.alloc (.cells x.cells.toArray 36)) (fun _ _ _ => 0)
  case atStart => exact ⟨rfl, rfl⟩
  case round =>
    obtain ⟨rfl, rfl⟩ := hrel
    go_wp2_with fail
    go_ret
    exact ⟨rfl, (Keeps.refl [] w).alloc _⟩
theorem zContains_any (w : World) (M : List Nat) (v : Value) (ps : List Pt) (h : PtsAt w M v ps) (hl : ps.length ≤ 100000) (x : Pt) :
    Calls Tryd.prog 51 #[v, ptV x] w fun e w' => e = .returned (.bool (hasP ps x)) ∧ Keeps [] w w' := by
  rcases h.two with ⟨rfl, rfl⟩ | ⟨g, off, cap, rfl, h1, h2, hg, hgM, hc⟩
  · have HR := hid (range_new w x.cells 36)
    have K := hid ((Keeps.refl [] w).alloc (.cells x.cells.toArray 36))
    have N := hid (fun W => zIndexNil_any W x)
    clear h hl
    go_enter Tryd.func51, Tryd.ntmps51
    go_wp2_with (first | (refine wpList_boxPt rfl _ rfl x rfl ?_) | (refine wpList_loadPt rfl _ rfl w.heap.size 0 rfl x HR.out ?_) | fail)
    refine (N.out _).mono ?_
    rintro e w2 ⟨rfl, k2⟩
    have K2 := hid (K.out.trans k2)
    clear k2
    go_wp2_with fail
    go_ret
    exact ⟨rfl, K2.out⟩
  · refine (AnyQ.slices_Contains Tryd.contP 5 (fun w => Tryd.isAgg36 w) (fun w => size_ptr w) Pt.cells (fun _ => rfl) eqP eqlAtPt g off ps.length cap ps x w (Nat.le_refl _) (by omega) (fun j hj i u hu => ?_)).mono ?_
    · rw [getElem!_pos ps j hj] at hu
      have := range_pt hc j hj i u hu
      exact this
    · rintro e w' ⟨rfl, hb⟩
      rw [List.take_length]
      exact ⟨rfl, Keeps.ofBelowB hb⟩

theorem first_zero : ∀ (ps : List Pt), (¬ ∀ x ∈ ps, zB x = false) → ∃ k, ∃ hk : k < ps.length, zB ps[k] = true ∧ ∀ j (hj : j < ps.length), j < k → zB ps[j] = false
  | [], h => absurd (by simp) h
  | y :: r, h => by
    cases hy : zB y with
    | true => exact ⟨0, by simp, hy, fun j _ hj => absurd hj (Nat.not_lt_zero _)⟩
    | false =>
      obtain ⟨k, hk, hz, hno⟩ := first_zero r (fun hr => h (fun x hx => by
        rcases List.mem_cons.1 hx with rfl | hx
        · exact hy
        · exact hr x hx))
      refine ⟨k + 1, by simpa using hk, by simpa using hz, fun j hj hjk => ?_⟩
      cases j with
      | zero => exact hy
      | succ j => simpa using hno j (by simpa using hj) (by omega)
end Go.Proofs.YtcfmonlgpccndaaDoor
