/- bag: what the law BagTakes keeps: which messages are still there; rows of numbers that came in. -/
import Derived.Test.YtkfebgbgnpdgpaaBgS
namespace Go.Proofs.Ytkfebgbgnpdgpaa
open Go.ChangeShapes Go.WideShapes Go.ChangeAt Go.RowKit

/-- The i-th message, as the law puts it. -/
def tg (l : List Mg) (i : Nat) : Int × Int × List Int := match l[i]? with
  | some m => ((i : Int), m.t, m.bs)
  | none => ((i : Int), 0, [])
theorem tg_at {l : List Mg} {i : Nat} (h : i < l.length) : tg l i = ((i : Int), l[i].t, l[i].bs) := by simp [tg, h]

def without (idx : List Nat) (j : Nat) : List Nat := idx.take j ++ idx.drop (j + 1)

theorem without_split {idx : List Nat} {j : Nat} (h : j < idx.length) : idx = idx.take j ++ idx[j] :: idx.drop (j + 1) := by
  rw [List.getElem_cons_drop, List.take_append_drop]

theorem mem_without {idx : List Nat} (hp : idx.Pairwise (· < ·)) {j : Nat} (h : j < idx.length) (i : Nat) : i ∈ without idx j ↔ i ∈ idx ∧ i ≠ idx[j] := by
  have hs := without_split h
  rw [hs, List.pairwise_append] at hp
  obtain ⟨_, h2, h3⟩ := hp
  rw [List.pairwise_cons] at h2
  constructor
  · intro hm
    unfold without at hm
    rcases List.mem_append.1 hm with hm | hm
    · have := h3 i hm idx[j] (List.mem_cons_self ..)
      exact ⟨List.mem_of_mem_take hm, by omega⟩
    · have := h2.1 i hm
      exact ⟨List.mem_of_mem_drop hm, by omega⟩
  · rintro ⟨h4, h5⟩
    rw [hs] at h4
    unfold without
    rcases List.mem_append.1 h4 with h4 | h4
    · exact List.mem_append_left _ h4
    · rcases List.mem_cons.1 h4 with h4 | h4
      · exact absurd h4 h5
      · exact List.mem_append_right _ h4

theorem without_inc {idx : List Nat} (hp : idx.Pairwise (· < ·)) (j : Nat) : (without idx j).Pairwise (· < ·) := by
  unfold without
  rw [List.pairwise_append]
  refine ⟨hp.sublist (List.take_sublist _ _), hp.sublist (List.drop_sublist _ _), fun a ha b hb => ?_⟩
  have := hp
  rw [← List.take_append_drop (j + 1) idx, List.pairwise_append] at this
  refine this.2.2 a ?_ b hb
  rw [List.take_add_one]
  exact List.mem_append_left _ ha

theorem seen_set (n : Nat) {idx : List Nat} (hp : idx.Pairwise (· < ·)) {j : Nat} (h : j < idx.length) :
    ((List.range n).map fun i => Value.bool (decide (i ∉ idx))).set idx[j] (.bool true) = (List.range n).map fun i => Value.bool (decide (i ∉ without idx j)) := by
  apply List.ext_getElem
  · simp
  · intro i h1 h2
    rw [List.getElem_set]
    have hm := mem_without hp h i
    split
    · rename_i e
      subst e
      have hno : idx[j] ∉ without idx j := fun hh => by rw [hm] at hh; exact hh.2 rfl
      simp only [List.getElem_map, List.getElem_range, Value.bool.injEq]
      rw [eq_comm, decide_eq_true_eq]
      exact hno
    · rename_i e
      simp only [List.getElem_map, List.getElem_range, Value.bool.injEq, decide_eq_decide]
      rw [hm]
      constructor
      · intro h3 h4; exact h3 h4.1
      · intro h3 h4; exact h3 ⟨h4, fun e2 => e e2.symm⟩

theorem seen_start (n : Nat) : (madeCells #[Value.bool false] n).toList = (List.range n).map fun i => Value.bool (decide (i ∉ List.range n)) := by
  apply List.ext_getElem
  · simp [madeCells]
  · intro i h1 h2
    have hi : i < n := by simpa using h2
    simp [madeCells, Nat.mod_one, hi]

structure TakesAt (W wr : World) (p : Nat) (F : List Nat) (gs : Nat) (l : List Mg) (idx : List Nat) (ms : List Mg) : Prop where
  b : BagF 75 33 wr p F 64 ms
  cn : ms.map con = idx.map (tg l)
  inc : idx.Pairwise (· < ·)
  lt : ∀ i ∈ idx, i < l.length
  seen : wr.ownsRow W.heap.size 4 1 (.slice (some ⟨gs, 0, none⟩) l.length l.length) l.length ((List.range l.length).map fun i => Value.bool (decide (i ∉ idx)))
  gF : gs ∉ F
  nF : ∀ b ∈ F, W.heap.size ≤ b
  k : Keeps [] W wr

theorem TakesAt.later {W wr w' : World} {p : Nat} {F : List Nat} {gs : Nat} {l : List Mg} {idx : List Nat} {ms : List Mg} (T : TakesAt W wr p F gs l idx ms) (k : Keeps [] wr w') : TakesAt W w' p F gs l idx ms :=
  ⟨T.b.later k, T.cn, T.inc, T.lt, ownsRow_keep T.seen k (by simp), T.gF, T.nF, T.k.trans k⟩

theorem TakesAt.len {W wr : World} {p : Nat} {F : List Nat} {gs : Nat} {l : List Mg} {idx : List Nat} {ms : List Mg} (T : TakesAt W wr p F gs l idx ms) : ms.length = idx.length := by simpa using congrArg List.length T.cn

theorem TakesAt.tag {W wr : World} {p : Nat} {F : List Nat} {gs : Nat} {l : List Mg} {idx : List Nat} {ms : List Mg} (T : TakesAt W wr p F gs l idx ms) {j : Nat} (hj : j < ms.length) (hj2 : j < idx.length) : con ms[j] = tg l idx[j] := by
  have := congrArg (fun x => x[j]?) T.cn
  simp only [List.getElem?_map, List.getElem?_eq_getElem hj, List.getElem?_eq_getElem hj2, Option.map_some] at this
  exact Option.some.inj this

/-- One was taken, and is seen. -/
theorem TakesAt.take {W wr w1 : World} {p : Nat} {F F1 : List Nat} {gs : Nat} {l : List Mg} {idx : List Nat} {ms : List Mg} (T : TakesAt W wr p F gs l idx ms) {j : Nat} (hj2 : j < idx.length)
    {w2 : World} (b : BagF 75 33 w1 p F1 64 (ms.take j ++ ms.drop (j + 1))) (k : Keeps F wr w1) (f : Fr wr F F1) (k2 : Keeps [] w1 w2) : TakesAt W (w2.setCell ⟨gs, idx[j], none⟩ (.bool true)) p F1 gs l (without idx j) (ms.take j ++ ms.drop (j + 1)) := by
  have gl := (T.seen.lt gs rfl).2
  have g0 := (T.seen.lt gs rfl).1
  have hgF1 : gs ∉ F1 := fun hm => by
    rcases f gs hm with h | h
    · exact T.gF h
    · omega
  have s2 := ownsRow_keep (ownsRow_keep T.seen k (fun b hb => by simp [Value.ownBlock] at hb; subst hb; exact T.gF)) k2 (by simp)
  have s3 := (World.ownsRow.stored s2 idx[j] (.bool true)).1
  rw [seen_set _ T.inc hj2] at s3
  have ks : Keeps [gs] w2 (w2.setCell ⟨gs, idx[j], none⟩ (.bool true)) := (Keeps.refl [gs] w2).setCell (Or.inl (by simp)) _
  refine ⟨(b.later k2).keep ks (fun b hb hm => by simp at hm; subst hm; exact hgF1 hb), ?_, without_inc T.inc j, fun i hi => T.lt i ((mem_without T.inc hj2 i).1 hi).1, s3, hgF1, f.newF T.nF T.k.size, ?_⟩
  · rw [List.map_append, List.map_take, List.map_drop, T.cn]
    simp [without, List.map_take, List.map_drop]
  · exact ((T.k.ofNew k T.nF).trans k2).trans' ks (fun i hi hm => by simp at hm; omega)

/-- Numbers that came in. -/
def IntsAt (w : World) (v : Value) (zs : List Int) : Prop :=
  ∃ (a : Option Addr) (cap : Nat), v = .slice a zs.length cap ∧ zs.length ≤ cap ∧ cap ≤ maxLen ∧ (a = none → cap = 0) ∧ (∀ z ∈ zs, i64 z) ∧
    (zs ≠ [] → ∃ g off, a = some ⟨g, off, none⟩ ∧ ∀ i (h : i < zs.length), w.cell? ⟨g, off + i, none⟩ = some (.int .i64 zs[i]))

section
variable {H : Type} {enc : TypeId × Value → H}
theorem ints_of_trod {W : World} {fuel : Nat} {cs : List Value} {x : DataW H × List MemPlace} (h : DataW.trod enc Try.prog W 0 (fun _ => true) true fuel 23 cs = some x)
    (_hs : ∀ n ∈ x.1.weights Try.prog 23, n ≤ reachBytes) : ∃ v zs, cs = [v] ∧ IntsAt W v zs := by
  rcases open_ints Try.underlying23 Try.underlying3 cells_int7 h with ⟨rfl, _⟩ | ⟨a, len, cap, zs, rfl, _, hl, hm, hz, rfl, hcell, hwz⟩
  · exact ⟨_, [], rfl, none, 0, rfl, by simp, by simp, fun _ => rfl, by simp, fun h => absurd rfl h⟩
  · simp only [if_true] at hz
    have hlen : (zs.take len).length = len := by rw [List.length_take]; omega
    refine ⟨_, zs.take len, rfl, some a, cap, by rw [hlen], by rw [hlen]; exact hl, hm, by simp, fun z hzm => i64_of (hwz z (List.mem_of_mem_take hzm)), fun hne => ?_⟩
    have hpos : 0 < len := by
      rcases Nat.eq_zero_or_pos len with h0 | h0
      · subst h0; simp at hne
      · exact h0
    obtain ⟨g, off, sp⟩ := a
    have hsp : sp = none := by
      have hs := World.cell?_spot (hcell 0 (by omega))
      simpa [Addr.add] using hs
    subst hsp
    refine ⟨g, off, rfl, fun i hi => ?_⟩
    rw [hlen] at hi
    have := hcell i (by omega)
    rw [Addr.add_lit] at this
    rw [this, List.getElem_take, List.getD_eq_getElem?_getD, List.getElem?_eq_getElem (by omega)]
    rfl
end
end Go.Proofs.Ytkfebgbgnpdgpaa
