/- Slots: what a head is, how the slots lie in memory; laws of the walk for heads. -/
import Derived.Test.YtnhcfkiejldicaaGreatDkB
import Derived.Test.YtnhcfkiejldicaaGreatModel
namespace Go.Proofs.YtnhcfkiejldicaaGreat
open Go.RowKit

/-- What a slot's head says. -/
structure Hd where
  used : Bool
  held : Nat
  key : List Int
def hd0 : Hd := ⟨false, 0, []⟩
def Hd.cells (h : Hd) : List Value := [.bool h.used, .int .i64 h.held, .string (strOfNums h.key)]
def hdV (h : Hd) : Value := .agg h.cells.toArray
def hdsC (hs : List Hd) : List Value := hs.flatMap Hd.cells
theorem hdsC_len (hs : List Hd) : (hdsC hs).length = hs.length * 3 := by
  induction hs with
  | nil => rfl
  | cons x l ih =>
    have hx : x.cells.length = 3 := rfl
    unfold hdsC at ih ⊢
    rw [List.flatMap_cons, List.length_append, ih, hx, List.length_cons]
    omega

/-- A head that may be. -/
structure Hd.Ok (h : Hd) : Prop where
  key : h.key.length ≤ 40
  byte : ∀ z ∈ h.key, 0 ≤ z ∧ z ≤ 255
  held : h.held ≤ 448
  free : h.used = false → h = hd0

theorem uHd : Tryz.prog.underlying 100 = some (.struct (Tryz.prog.fieldsOf 100)) := by kernel_rfl
theorem sHd : (Tryz.prog.info? 100).map (·.size) = some 3 := by kernel_rfl
theorem iHd : (Tryz.prog.info? 100).map (fun i => (i.zero, i.size)) = some (some (hdV hd0), 3) := by kernel_rfl

theorem Hd.one (h : Hd) : h.cells.toArray.all (·.oneCell') = true := by simp [Hd.cells, Value.oneCell']

/-- The slots: the struct at q (the disk's at p), the heads at g. -/
structure SlotsAt (w : World) (q p g : Nat) (first : Nat) (hs : List Hd) : Prop where
  blk : w.heap[q]? = some (.cells #[.pointer (some ⟨p, 0, none⟩), .int .i64 first, .slice (some ⟨g, 0, none⟩) hs.length hs.length] 92 (0, 0))
  hds : w.heap[g]? = some (.cells (hdsC hs).toArray 100 (0, 0))
  ne : q ≠ g
  ok : ∀ h ∈ hs, h.Ok
  few : hs.length ≤ 520

section
variable {w w' : World} {q p g first : Nat} {hs : List Hd}
theorem SlotsAt.c0 (h : SlotsAt w q p g first hs) : w.cell? ⟨q, 0, none⟩ = some (.pointer (some ⟨p, 0, none⟩)) := by simp [World.cell?, h.blk]
theorem SlotsAt.c1 (h : SlotsAt w q p g first hs) : w.cell? ⟨q, 1, none⟩ = some (.int .i64 first) := by simp [World.cell?, h.blk]
theorem SlotsAt.c2 (h : SlotsAt w q p g first hs) : w.cell? ⟨q, 2, none⟩ = some (.slice (some ⟨g, 0, none⟩) hs.length hs.length) := by simp [World.cell?, h.blk]
theorem SlotsAt.keep {S : List Nat} (h : SlotsAt w q p g first hs) (k : Keeps S w w') (h1 : q ∉ S) (h2 : g ∉ S) : SlotsAt w' q p g first hs :=
  ⟨by rw [k.block q (lt_of_block h.blk) h1]; exact h.blk, by rw [k.block g (lt_of_block h.hds) h2]; exact h.hds, h.ne, h.ok, h.few⟩
theorem SlotsAt.ltq (h : SlotsAt w q p g first hs) : q < w.heap.size := lt_of_block h.blk
theorem SlotsAt.ltg (h : SlotsAt w q p g first hs) : g < w.heap.size := lt_of_block h.hds

theorem hdsC_at (hs : List Hd) (i : Nat) (h : i < hs.length) (j : Nat) (hj : j < 3) : (hdsC hs)[i * 3 + j]? = hs[i].cells[j]? := by
  induction hs generalizing i with
  | nil => simp at h
  | cons x l ih =>
    simp only [hdsC, List.flatMap_cons]
    have hx : x.cells.length = 3 := rfl
    cases i with
    | zero => rw [List.getElem?_append_left (by omega)]; simp
    | succ i =>
      rw [List.getElem?_append_right (by omega), hx]
      have : (i + 1) * 3 + j - 3 = i * 3 + j := by omega
      rw [this]
      have := ih i (by simpa using h)
      simpa [hdsC] using this

theorem SlotsAt.at_ (h : SlotsAt w q p g first hs) (i : Nat) (hi : i < hs.length) : w.rangeAt g (i * 3) hs[i].cells := fun j v hv => by
  have hj : j < 3 := (List.getElem?_eq_some_iff.1 hv).1
  rw [cell_of_row w g (i * 3 + j) _ _ (0, 0) h.hds]
  simpa [hdsC_at hs i hi j hj] using hv
theorem SlotsAt.u (h : SlotsAt w q p g first hs) (i : Nat) (hi : i < hs.length) : w.cell? ⟨g, i * 3, none⟩ = some (.bool hs[i].used) := h.at_ i hi 0 _ rfl
theorem SlotsAt.n (h : SlotsAt w q p g first hs) (i : Nat) (hi : i < hs.length) : w.cell? ⟨g, i * 3 + 1, none⟩ = some (.int .i64 hs[i].held) := h.at_ i hi 1 _ rfl
theorem SlotsAt.k (h : SlotsAt w q p g first hs) (i : Nat) (hi : i < hs.length) : w.cell? ⟨g, i * 3 + 2, none⟩ = some (.string (strOfNums hs[i].key)) := h.at_ i hi 2 _ rfl
end

theorem hdsC_set (hs : List Hd) (i : Nat) (h : Hd) (hi : i < hs.length) : hdsC (hs.set i h) = (hdsC hs).take (i * 3) ++ h.cells ++ (hdsC hs).drop (i * 3 + 3) := by
  induction hs generalizing i with
  | nil => simp at hi
  | cons x l ih =>
    have hx : x.cells.length = 3 := rfl
    cases i with
    | zero =>
      simp only [List.set_cons_zero, hdsC, List.flatMap_cons]
      simp [hx]
    | succ i =>
      have := ih i (by simpa using hi)
      simp only [List.set_cons_succ, hdsC, List.flatMap_cons] at this ⊢
      rw [this]
      have e1 : (i + 1) * 3 + 3 = x.cells.length + (i * 3 + 3) := by rw [hx]; omega
      have e2 : (i + 1) * 3 = x.cells.length + i * 3 := by rw [hx]; omega
      have d1 : x.cells.take (x.cells.length + i * 3) = x.cells := List.take_of_length_le (by omega)
      have d2 : x.cells.drop (x.cells.length + (i * 3 + 3)) = [] := List.drop_eq_nil_of_le (by omega)
      rw [e1, e2, List.take_append, List.drop_append, d1, d2]
      simp

section
variable {ops : Array Oper} {rest : List Oper} {o : Oper} {a : Act} {w : World} {Q : Exit → Act → World → Prop}
theorem wpList_loadHd (hgd : o.guard = none) (x : Operand) (ho : o.op = .load 100 x) (b off : Nat) (hx : a.eval x = .pointer (some ⟨b, off, none⟩)) (h : Hd) (hc : w.rangeAt b off h.cells)
    (hk : wpList Tryz.prog ops Q rest (a.put o.dst (hdV h)) w) : wpList Tryz.prog ops Q (o :: rest) a w :=
  wpList_load_mid hgd _ x ho b off hx h.cells _ hc uHd rfl (by rw [sHd]; rfl) hk
end

section
variable (w : World) (q p g first : Nat) (hs : List Hd)
theorem lMade_any (S : SlotsAt w q p g first hs) : Calls Tryz.prog 54 #[.pointer (some ⟨q, 0, none⟩)] w fun e w' => e = .returned (.bool true) ∧ w = w' := by
  have c0 := S.c0
  clear S
  go_enter Tryz.func54, Tryz.ntmps54
  go_wp2_with fail
  go_ret
  exact ⟨rfl, rfl⟩
theorem lCount_any (S : SlotsAt w q p g first hs) : Calls Tryz.prog 24 #[.pointer (some ⟨q, 0, none⟩)] w fun e w' => e = .returned (.int .i64 hs.length) ∧ w = w' := by
  have c2 := S.c2
  clear S
  go_enter Tryz.func24, Tryz.ntmps24
  go_wp2_with fail
  go_ret
  exact ⟨rfl, rfl⟩
theorem lBegin_any (S : SlotsAt w q p g first hs) (i : Nat) (hi : i ≤ 4160) (hf : first ≤ 4160) : Calls Tryz.prog 68 #[.pointer (some ⟨q, 0, none⟩), .int .i64 i] w fun e w' => e = .returned (.int .i64 ((first + i * 8 : Nat) : Int)) ∧ w = w' := by
  have c1 := S.c1
  clear S
  go_enter Tryz.func68, Tryz.ntmps68
  go_wp2_with fail
  go_ret
  refine ⟨by congr 2, rfl⟩
/-- Is there such a slot? -/
def hasS (hs : List Hd) (i : Int) : Bool := decide (0 ≤ i) && decide (i < hs.length)
theorem lHas_any (S : SlotsAt w q p g first hs) (i : Int) : Calls Tryz.prog 55 #[.pointer (some ⟨q, 0, none⟩), .int .i64 i] w fun e w' => e = .returned (.bool (hasS hs i)) ∧ w = w' := by
  unfold hasS
  by_cases h0 : 0 ≤ i
  · have t0 : (decide (0 ≤ i)) = true := by simpa using h0
    go_enter Tryz.func55, Tryz.ntmps55
    go_wp2_with (first | (go_at_call 24; refine (lCount_any w q p g first hs S).mono ?_; rintro e w' ⟨rfl, rfl⟩) | fail)
    go_ret
    exact ⟨by simp [t0], rfl⟩
  · have t0 : (decide (0 ≤ i)) = false := by simpa using h0
    go_enter Tryz.func55, Tryz.ntmps55
    go_wp2_with fail
    go_ret
    exact ⟨by simp, rfl⟩
end
end Go.Proofs.YtnhcfkiejldicaaGreat
