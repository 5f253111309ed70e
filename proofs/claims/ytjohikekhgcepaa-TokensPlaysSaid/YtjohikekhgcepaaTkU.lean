/- tokens: the reference's ReadTokens. -/
import Derived.Test.YtjohikekhgcepaaTkT
import Derived.Deep.CutRange
namespace Go.Proofs.Ytjohikekhgcepaa
open Go.RowKit Go.Shelf
set_option maxRecDepth 100000
set_option linter.unusedSimpArgs false
set_option linter.unusedVariables false

def formK (st : PSt) (b : Bool) : PSt := if b = true ∧ st.2 = 0 then (st.1, 4) else st
set_option maxHeartbeats 1600000 in
theorem rkFall_any {w : World} {B p : Nat} {st : PSt} (h : REyL w B p st) (y : Int) :
    Calls Try.prog 107 #[.pointer (some ⟨p, 0, none⟩), .int .i64 y] w fun e w' => e = .returned (.tuple #[]) ∧ REyL w' B p (if st.2 = 0 then (st.1, y) else st) ∧ Keeps [p] w w' := by
  have H := hid h
  obtain ⟨c1, f1⟩ := h.cells
  clear h
  by_cases hz : st.2 = 0
  · have HZ := hid hz
    have hzb : (st.2 == 0) = true := by simpa using hz
    clear hz
    go_enter Try.func107, Try.ntmps107
    go_wp2_with fail
    go_end0
    obtain ⟨v2, he⟩ := H.out
    obtain ⟨e1, e2⟩ := he.setBad y
    exact ⟨rfl, ⟨v2, e1⟩, e2⟩
  · have HZ := hid hz
    have hzb : (st.2 == 0) = false := by simpa using hz
    clear hz
    go_enter Try.func107, Try.ntmps107
    go_wp2_with fail
    go_end0
    exact ⟨rfl, H.out, Keeps.refl _ _⟩
set_option maxHeartbeats 1600000 in
theorem rkForm_any {w : World} {B p : Nat} {st : PSt} (h : REyL w B p st) (b : Bool) :
    Calls Try.prog 104 #[.pointer (some ⟨p, 0, none⟩), .bool b] w fun e w' => e = .returned (.tuple #[]) ∧ REyL w' B p (formK st b) ∧ Keeps [p] w w' := by
  have H := hid h
  clear h
  cases b with
  | true =>
    go_enter Try.func104, Try.ntmps104
    go_wp2_with fail
    refine (rkFall_any H.out 4).mono ?_
    rintro e w2 ⟨rfl, h2, k2⟩
    have H2 := hid h2
    have K2 := hid k2
    clear h2 k2
    go_wp2_with fail
    go_end0
    refine ⟨rfl, ?_, K2.out⟩
    have := H2.out
    unfold formK
    by_cases hz : st.2 = 0
    · rw [if_pos hz] at this
      rw [if_pos ⟨rfl, hz⟩]
      exact this
    · rw [if_neg hz] at this
      rw [if_neg (fun h => hz h.2)]
      exact this
  | false =>
    go_enter Try.func104, Try.ntmps104
    go_wp2_with fail
    go_end0
    exact ⟨rfl, by unfold formK; rw [if_neg (by simp)]; exact H.out, Keeps.refl _ _⟩

/-- The reference's tokens, their rows in v. -/
structure RTokV (w : World) (B q : Nat) (v : Value) (rs : List Rk) : Prop where
  blk : w.heap[q]? = some (.cells #[v] 44 (0, 0))
  own : OwnK w B 62 [] v rs
  ne : v.ownBlock ≠ some q
  lo : B ≤ q
def RTok (w : World) (B q : Nat) (rs : List Rk) : Prop := ∃ a c, RTokV w B q (.slice a rs.length c) rs
theorem OwnK.off {w w' : World} {B : Nat} {T : TypeId} {M S : List Nat} {v : Value} {ps : List Rk} (h : OwnK w B T M v ps) (k : Keeps S w w') (hs : ∀ b, v.ownBlock = some b → b ∉ S) : OwnK w' B T M v ps := ⟨ownsRow_keepK h.row k hs, h.lt⟩
theorem RTokV.lt {w : World} {B q : Nat} {v : Value} {rs : List Rk} (h : RTokV w B q v rs) : q < w.heap.size := lt_of_block h.blk
theorem RTokV.keep {w w' : World} {B q : Nat} {v : Value} {rs : List Rk} {S : List Nat} (h : RTokV w B q v rs) (k : Keeps S w w') (hq : q ∉ S) (ho : ∀ b, v.ownBlock = some b → b ∉ S) : RTokV w' B q v rs :=
  ⟨(k.block q h.lt hq).trans h.blk, h.own.off k ho, h.ne, h.lo⟩
theorem RTokV.later {w w' : World} {B q : Nat} {v : Value} {rs : List Rk} (h : RTokV w B q v rs) (k : Keeps [] w w') : RTokV w' B q v rs := h.keep k (by simp) (by simp)
theorem RTokV.cell {w : World} {B q : Nat} {v : Value} {rs : List Rk} (h : RTokV w B q v rs) : w.cell? ⟨q, 0, none⟩ = some v ∧ w.frozen? ⟨q, 0, none⟩ = false := by
  constructor
  · simp [World.cell?, h.blk]
  · simp [World.frozen?, h.blk]
theorem RTok.lt {w : World} {B q : Nat} {rs : List Rk} (h : RTok w B q rs) : q < w.heap.size := by obtain ⟨a, c, h⟩ := h; exact h.lt
theorem RTok.later {w w' : World} {B q : Nat} {rs : List Rk} (h : RTok w B q rs) (k : Keeps [] w w') : RTok w' B q rs := by obtain ⟨a, c, h⟩ := h; exact ⟨a, c, h.later k⟩
theorem RTok.keep {w w' : World} {B q p : Nat} {rs : List Rk} (h : RTok w B q rs) (k : Keeps [p] w w') (hp : p < B) : RTok w' B q rs := by
  obtain ⟨a, c, h⟩ := h
  refine ⟨a, c, h.keep k (by have := h.lo; simp; omega) (fun b hb hm => ?_)⟩
  have := (h.own.blk b hb).1
  simp at hm
  omega
theorem RTokV.set {w w1 : World} {B q : Nat} {u v : Value} {rs ms : List Rk} (h : RTokV w B q u rs) {S : List Nat} (k : Keeps S w w1) (hS : q ∉ S) (ho : OwnK w1 B 62 [] v ms) (hne : v.ownBlock ≠ some q) : RTokV (w1.setCell ⟨q, 0, none⟩ v) B q v ms := by
  refine ⟨?_, ho.off (set_keep (b := q) (i := 0) (u := v)) (fun b hb hm => by simp at hm; subst hm; exact hne hb), hne, h.lo⟩
  have := set_five ((k.block q h.lt hS).trans h.blk) (i := 0) v
  simpa using this
/-- What makes a row of bytes no row, whatever the others are; and with another one. -/
def bad0 (x : Rk) : Bool := decide (4 ≤ x.c) || (decide (4 ≤ x.h) || (decide (x.n < 2) || decide (128 < x.n)))
def badW (x y : Rk) : Bool := clashK y x || !aheadK y x
theorem takeK_bad {rs : List Rk} (h : GoodK rs) {r : Rk} (hc : 0 ≤ r.c) (hh : 0 ≤ r.h) : (bad0 r || rs.any (badW r)) = !takeK rs r := by
  have e1 : bad0 r = !mayK r := by
    unfold bad0 mayK btwK
    rw [Bool.eq_iff_iff]
    simp
    omega
  have e2 : rs.any (badW r) = !(lastK rs r && !rs.any (clashK r)) := by
    cases hcl : rs.any (clashK r) with
    | true =>
      obtain ⟨y, hy, hq⟩ := List.any_eq_true.1 hcl
      rw [List.any_eq_true.2 ⟨y, hy, by unfold badW; rw [clashK_comm, hq]; rfl⟩]
      simp
    | false =>
      cases hl : lastK rs r with
      | true =>
        have := last_all h hl
        have : rs.any (badW r) = false := by
          rw [List.any_eq_false]
          intro y hy
          unfold badW
          rw [this y hy, clashK_comm]
          have := List.any_eq_false.1 hcl y hy
          simpa using this
        rw [this]; rfl
      | false =>
        have hne : rs.length ≠ 0 := by intro e; unfold lastK at hl; rw [if_pos e] at hl; cases hl
        have hl2 : aheadK (rs[rs.length - 1]'(by omega)) r = false := by
          unfold lastK at hl
          rw [if_neg hne, List.getD_eq_getElem?_getD, List.getElem?_eq_getElem (by omega)] at hl
          exact hl
        rw [List.any_eq_true.2 ⟨_, List.getElem_mem (show rs.length - 1 < rs.length by omega), by unfold badW; rw [hl2]; simp⟩]
        rfl
  rw [e1, e2]
  unfold takeK
  cases mayK r <;> simp
theorem badW_c {x y : Rk} (hn : y.n = x.n) (hb : (y.b || x.b) = true) : badW x y = true := by unfold badW clashK; rw [hb]; simp [hn]
theorem badW_gt {x y : Rk} (hc : x.c < y.c) : badW x y = true := by
  have : aheadK y x = false := by cases h : aheadK y x with
    | false => rfl
    | true => have := aheadK_is.1 h; omega
  unfold badW; rw [this]; simp
theorem badW_eq {x y : Rk} (hc : y.c = x.c) (hh : x.h ≤ y.h) : badW x y = true := by
  have : aheadK y x = false := by cases h : aheadK y x with
    | false => rfl
    | true => have := aheadK_is.1 h; omega
  unfold badW; rw [this]; simp
theorem badW_no {x y : Rk} (hcl : clashK y x = false) (h : y.c < x.c ∨ (y.c = x.c ∧ y.h < x.h)) : badW x y = false := by
  have : aheadK y x = true := aheadK_is.2 h
  unfold badW; rw [this, hcl]; rfl
theorem clash_ne {x y : Rk} (h : y.n ≠ x.n) : clashK y x = false := by unfold clashK; simp [h]
theorem clash_ff {x y : Rk} (h1 : y.b = false) (h2 : x.b = false) : clashK y x = false := by unfold clashK; simp [h1, h2]
theorem any_take_succ (p : Rk → Bool) {rs : List Rk} {k : Nat} (hk : k < rs.length) : (rs.take (k + 1)).any p = ((rs.take k).any p || p rs[k]) := by
  rw [List.take_succ_eq_append_getElem hk, List.any_append]
  simp
theorem rdT_bad (m : Nat) (rs : List Rk) {st : PSt} (h : st.2 ≠ 0) : rdT m rs st = (rs, st) := by
  cases m with
  | zero => rfl
  | succ m => unfold rdT; rw [if_pos h]
theorem RkZ_build (w : World) : (Instr.build 62 #[]).run Try.prog w = .ok (rkV rZ) w := by kernel_rfl
theorem exec_rrz {ρ : Operand → Value} {o : Oper} {w : World} (ho : o.op = .build 62 #[]) : (execOp ρ o).run Try.prog w = .ok (.value (rkV rZ)) w := by
  simp only [execOp, ho, List.map_toArray, List.map_nil, Sem.run_bind, RkZ_build, Result.andThen_ok, Sem.run_pure]
theorem iRTok : (Try.prog.info? 44).map (fun i => (i.zero, i.size)) = some (some (.agg #[.slice none 0 0]), 1) := by kernel_rfl
def RRdPost (w : World) (B p : Nat) (R : List Rk × PSt) (e : Ending) (w' : World) : Prop :=
  Keeps [p] w w' ∧ ∃ q, w.heap.size ≤ q ∧ e = .returned (.pointer (some ⟨q, 0, none⟩)) ∧ RTok w' w.heap.size q R.1 ∧ REyL w' B p R.2
theorem rdRow_nn {st : PSt} (hb : ∀ z ∈ st.1, 0 ≤ z ∧ z ≤ 255) : 0 ≤ (rdRow st).1.c ∧ 0 ≤ (rdRow st).1.h := by
  have h1 := numE1_le hb
  have h2 := numE1_le (numE_bytes 1 hb)
  exact ⟨h1.1, h2.1⟩
theorem REyL.bytes {wr : World} {B p : Nat} {st : PSt} (h : REyL wr B p st) : ∀ z ∈ st.1, 0 ≤ z ∧ z ≤ 255 := by
  obtain ⟨v2, he⟩ := h
  exact he.row.bytes
end Go.Proofs.Ytjohikekhgcepaa
