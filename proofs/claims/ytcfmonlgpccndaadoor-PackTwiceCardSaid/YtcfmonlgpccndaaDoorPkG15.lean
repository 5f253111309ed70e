/- OpenC, LyC, PyKnown, PyOpen, PyRows. -/
import Derived.Test.YtcfmonlgpccndaaDoorPkG01
import Derived.OpenShut
import Derived.SizedLaws
import Derived.Deep.Slices
import Derived.Test.YtcfmonlgpccndaaDoorPkG06
import Derived.Test.YtcfmonlgpccndaaDoorPkG05
import Derived.ProofKit
import Derived.Test.YtcfmonlgpccndaaDoorPkG02
/- How arguments are read: a row of bytes. (For every layer.) -/
namespace Go.Proofs.YtcfmonlgpccndaaDoor
open Go.ChangeShapes Go.WideShapes Go.ChangeAt Go.RowKit

section
variable {H : Type} {enc : TypeId × Value → H}

theorem bytes_u8 : Tryd.prog.bytesOf 5 = 1 := by kernel_rfl
theorem cells_u8 : Tryd.prog.cellsOf 5 = 1 := by kernel_rfl
theorem cells_row : Tryd.prog.cellsOf 31 = 1 := by kernel_rfl
theorem reach_is : reachBytes = 140737488351232 := by decide

/-- A row of bytes that came in. -/
theorem row_of_trod {W : World} {fuel : Nat} {cs : List Value} {x : DataW H × List MemPlace} (h : DataW.trod enc Tryd.prog W 0 (fun _ => true) true fuel 31 cs = some x)
    (hs : ∀ n ∈ x.1.weights Tryd.prog 31, n ≤ reachBytes) : ∃ v zs, cs = [v] ∧ RowAt W v zs ∧ zs.length ≤ 140737488351232 := by
  rcases open_ints Tryd.underlying31 Tryd.underlying5 cells_u8 h with ⟨rfl, _⟩ | ⟨a, len, cap, zs, rfl, _, hl, hm, hz, rfl, hcell, hwz⟩
  · exact ⟨_, [], rfl, RowAt.nil W, by simp⟩
  · simp only [if_true] at hz
    have hlen : (zs.take len).length = len := by rw [List.length_take]; omega
    refine ⟨_, zs.take len, rfl, ⟨some a, cap, by rw [hlen], by rw [hlen]; exact hl, hm, by simp, ?_, ?_⟩, ?_⟩
    · intro z hzm
      exact bounds_u8 (hwz z (List.mem_of_mem_take hzm))
    · intro ad had j u hu
      obtain rfl := Option.some.inj had
      have hj : j < len := by
        have := (List.getElem?_eq_some_iff.1 hu).1
        simp at this; omega
      rw [hcell j (by omega), ← hu]
      rw [List.getElem?_map, List.getElem?_take, if_pos hj, List.getElem?_eq_getElem (by omega), List.getD_eq_getElem?_getD, List.getElem?_eq_getElem (by omega)]
      rfl
    · have := hs ((lits .u8 (zs.take len) : List (DataW H)).length + (lits .u8 (zs.drop len) : List (DataW H)).length) (by
        simp only [DataW.weights, Tryd.underlying31, bytes_u8]
        simp)
      rw [reach_is] at this
      simp only [lits, List.length_map] at this
      omega

/-- Out of something for each place: one list. -/
theorem list_of {α : Type} {P : Nat → α → Prop} : ∀ (n : Nat), (∀ i, i < n → ∃ d, P i d) → ∃ ds : List α, ds.length = n ∧ ∀ i (h : i < ds.length), P i ds[i]
  | 0, _ => ⟨[], rfl, fun i h => by simp at h⟩
  | n + 1, h => by
    obtain ⟨ds, hl, hd⟩ := list_of n (fun i hi => h i (by omega))
    obtain ⟨d, hp⟩ := h n (by omega)
    refine ⟨ds ++ [d], by simp [hl], fun i hi => ?_⟩
    rw [List.getElem_append]
    split
    · rename_i hlt
      exact hd i hlt
    · have : i = n := by simp at hi; omega
      subst this
      simpa using hp

theorem i64_of {z : Int} (h : (Lit.int .i64 z).wf = true) : i64 z := bounds_i64 h

theorem mem_weightsAll {P : Program} {e : TypeId} {d : DataW H} {k : Nat} : ∀ {l : List (DataW H)}, d ∈ l → k ∈ d.weights P e → k ∈ DataW.weightsAll P e l
  | [], h, _ => by cases h
  | y :: l, h, hk => by
    simp only [DataW.weightsAll, List.mem_append]
    rcases List.mem_cons.1 h with rfl | h
    · exact Or.inl hk
    · exact Or.inr (mem_weightsAll h hk)

end

theorem each_le {H : Type} {ts : List TypeId} {ds : List (DataW H)} (h : (DataW.weightsEach Tryd.prog ts ds).all (· ≤ reachBytes) = true) {j : Nat} {t : TypeId} {d : DataW H} (ht : ts[j]? = some t) (hd : ds[j]? = some d) :
    ∀ n ∈ d.weights Tryd.prog t, n ≤ reachBytes := by
  intro n hn
  have := List.all_eq_true.1 h _ (DataW.weights_mem_each ht hd n hn)
  simpa using this
end Go.Proofs.YtcfmonlgpccndaaDoor


/- layout: which spans have which fragments (Span, of both); heads that may be; how long a fragment is, by the reference. -/
namespace Go.Proofs.YtcfmonlgpccndaaDoor
open Go.RowKit
set_option maxRecDepth 100000
set_option linter.unusedSimpArgs false
set_option linter.unusedVariables false

/-- What Span answers: first, last, error. -/
def spanL (a c z n : Int) : Int × Int × Int :=
  if a < 0 ∨ c < 1 ∨ mayHv z n = false ∨ z - c < a then (0, 0, 1) else (a / eachI z n, (a + c - 1) / eachI z n, 0)
def SpanPost (w : World) (r : Int × Int × Int) (e : Ending) (w' : World) : Prop := e = .returned (.tuple #[.int .i64 r.1, .int .i64 r.2.1, .int .i64 r.2.2]) ∧ Keeps [] w w'
theorem span_no {w w' : World} {a c z n : Int} {r : Int × Int × Int} (hr : r = spanL a c z n) (h : a < 0 ∨ c < 1 ∨ mayHv z n = false ∨ z - c < a) (k : Keeps [] w w') : SpanPost w r (.returned (.tuple #[.int .i64 0, .int .i64 0, .int .i64 1])) w' := by
  subst hr
  unfold spanL
  rw [if_pos h]
  exact ⟨rfl, k⟩
end Go.Proofs.YtcfmonlgpccndaaDoor


/- Chapter 2's examples (the law ParityKnown): whatever the start, the law returns true and nothing that was there has turned. No condition. -/
namespace Go.Proofs.YtcfmonlgpccndaaDoor
open Go.ChangeShapes Go.WideShapes Go.ChangeAt Go.RowKit

theorem known2_fill : fillM [[1, 2], [], [2, 2]] 1 1 = some [3] := by decide +kernel
theorem known2_none : fillM [[1]] 1 0 = none := by decide +kernel

theorem FillPost.good {w w' : World} {zs : List Int} {e : Ending} (h : FillPost w (some zs) e w') :
    ∃ a cap, e = .returned (.tuple #[.slice a zs.length cap, .int .i64 0]) ∧ RowAt w' (.slice a zs.length cap) zs ∧ Keeps [] w w' := h
theorem FillPost.bad {w w' : World} {e : Ending} (h : FillPost w Option.none e w') :
    ∃ a cap, e = .returned (.tuple #[.slice a 0 cap, .int .i64 1]) ∧ RowAt w' (.slice a 0 cap) [] ∧ Keeps [] w w' := h

theorem rows_nil {w0 : World} (w : World) : RowsAt w (.slice none 0 0) ([] : List (El w0)) := ⟨none, 0, rfl, by simp, by simp, fun _ => rfl, by simp⟩

theorem lit_keep (w : World) (o : Obj) : Keeps [] w (w.alloc o) := (Keeps.refl _ _).alloc _

end Go.Proofs.YtcfmonlgpccndaaDoor


/- How a slice of rows is read. -/
namespace Go.Proofs.YtcfmonlgpccndaaDoor
open Go.ChangeShapes Go.WideShapes Go.ChangeAt Go.RowKit
set_option maxRecDepth 100000

section
variable {H : Type} {enc : TypeId × Value → H}

theorem bytes_row : Tryd.prog.bytesOf 31 = 24 := by kernel_rfl

theorem rows_of_trod {W : World} {fuel : Nat} {cs : List Value} {x : DataW H × List MemPlace} (h : DataW.trod enc Tryd.prog W 0 (fun _ => true) true fuel 81 cs = some x)
    (hs : ∀ n ∈ x.1.weights Tryd.prog 81, n ≤ reachBytes) : ∃ (v : Value) (rs : List (El W)), cs = [v] ∧ RowsAt W v rs := by
  rcases Go.Deep.open_slice Tryd.underlying81 h with ⟨rfl, _⟩ | ⟨a, len, cap, m, n, D, Pl, rfl, _, hl, hm, hmm, rfl, hi⟩
  · exact ⟨_, [], rfl, none, 0, rfl, by simp, by simp, fun _ => rfl, by simp⟩
  · simp only [if_true] at hmm
    subst hmm
    have hD : ∀ i, i < len → ∀ k ∈ (D i).weights Tryd.prog 31, k ≤ reachBytes := by
      intro i hi k hk
      refine hs k ?_
      simp only [DataW.weights, Tryd.underlying81]
      refine List.mem_cons_of_mem _ (List.mem_append.2 (Or.inl ?_))
      exact mem_weightsAll (List.mem_map.2 ⟨i, List.mem_range.2 hi, rfl⟩) hk
    by_cases h0 : len = 0
    · subst h0
      exact ⟨_, [], rfl, some a, m, rfl, by simp, hm, by simp, by simp⟩
    · obtain ⟨g, off, sp⟩ := a
      have hsp : sp = none := by
        obtain ⟨cs', hc, _⟩ := hi 0 (by omega)
        rw [cells_row] at hc
        obtain ⟨_, hcl, hat⟩ := World.cells?_some hc
        have := hat 0 (by omega)
        rw [List.getElem?_eq_getElem (by omega)] at this
        have hs := World.cell?_spot this
        simpa [Addr.add] using hs
      subst hsp
      obtain ⟨rs, hrl, hra⟩ := list_of (P := fun i (r : El W) => W.cell? ⟨g, off + i, none⟩ = some r.1.1) len (fun i hil => by
        obtain ⟨cs', hc, ht⟩ := hi i (by omega)
        obtain ⟨v, zs, rfl, hr, hz⟩ := row_of_trod ht (hD i hil)
        rw [cells_row, Addr.add_lit] at hc
        obtain ⟨_, hcl, hat⟩ := World.cells?_some hc
        have := hat 0 (by omega)
        rw [Addr.add_lit] at this
        simp only [Nat.mul_one, Nat.add_zero, List.getElem?_cons_zero] at this
        exact ⟨⟨(v, zs), hr, hz⟩, this⟩)
      refine ⟨_, rs, rfl, some ⟨g, off, none⟩, m, by rw [hrl], by omega, hm, by simp, ?_⟩
      rintro ad had j u hu
      obtain rfl := Option.some.inj had
      have hj : j < rs.length := by
        have := (List.getElem?_eq_some_iff.1 hu).1
        simpa using this
      rw [Addr.add_lit, hra j hj, ← hu]
      simp [hj]
end
end Go.Proofs.YtcfmonlgpccndaaDoor


/- Any rows: their parity, whether they hold, any one out of the others, or that it may not be (the law ParityRows): for every slice of rows and every two numbers the law returns true, and the rows read as they did. No condition. -/
namespace Go.Proofs.YtcfmonlgpccndaaDoor
open Go.ChangeShapes Go.WideShapes Go.ChangeAt Go.RowKit
set_option maxRecDepth 100000

theorem fillRow_len (l : List (List Int)) (i n : Int) : (fillRow (fillM l i n)).length ≤ longest l := by
  unfold fillM
  split
  · rename_i h
    have h1 : longest (l.eraseIdx i.toNat) ≤ longest l := longest_sub fun q hq => List.mem_of_mem_eraseIdx hq
    show (xorN n.toNat (l.eraseIdx i.toNat)).length ≤ _
    rw [xorN_length]
    omega
  · simp [fillRow]

theorem small_longest {w0 : World} {rs : List (El w0)} {most : Nat} (h : smallB rs most = true) : longest (raws rs) ≤ most :=
  longest_le fun r hr => by have := smallB_row h r hr; omega

theorem same_self (w : World) (u v : Value) (xs : List Int) (hx : RowAt w u xs) (hy : RowAt w v xs) (hl : xs.length ≤ 35184372088832) :
    Calls Tryd.prog 16 #[u, v] w fun e w' => e = .returned (.bool true) ∧ Keeps [] w w' :=
  (same_any w u v xs xs hx hy hl hl).mono fun e w' ⟨he, n, hw⟩ => by
    subst hw
    rw [decide_eq_true rfl] at he
    exact ⟨he, (Keeps.refl _ _).drewN n⟩

end Go.Proofs.YtcfmonlgpccndaaDoor
