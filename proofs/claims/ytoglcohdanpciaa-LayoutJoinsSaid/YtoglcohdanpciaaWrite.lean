/- The walk of the laws' write: the same deeds, of both pens. -/
import Derived.Test.YtoglcohdanpciaaRefC
import Derived.Test.YtoglcohdanpciaaDeeds
namespace Go.Proofs.Ytoglcohdanpciaa
open Go.RowKit

def odd (x : Int) : Bool := bits .and .i64 x 1 == 1
def deedW (s : List Int × Int) (d : Dd) : List Int × Int :=
  if d.act ≤ 1 then penNum d.x d.n s else if d.act = 2 then penRaw d.bs s else if d.act = 3 then penRaw d.bs s else penBool (odd d.x) s
def deedR (s : List Int × Int) (d : Dd) : List Int × Int :=
  if d.act ≤ 1 then refNum d.x d.n s else if d.act = 2 then refRaw d.bs s else if d.act = 3 then refRaw d.bs s else refBool (odd d.x) s

theorem Rel.deed {s r : List Int × Int} (h : Rel s r) (d : Dd) : Rel (deedW s d) (deedR r d) := by
  unfold deedW deedR
  split
  · exact h.num _ _
  · split
    · exact h.raw _
    · split
      · exact h.raw _
      · exact h.bool _

theorem Rel.deeds (ds : List Dd) : ∀ {s r : List Int × Int}, Rel s r → Rel (ds.foldl deedW s) (ds.foldl deedR r) := by
  induction ds with
  | nil => exact fun h => h
  | cons d ds ih => exact fun h => ih (h.deed d)

/-- Two pens that were made since w, apart from each other. -/
structure TwoAt (w w' : World) (p q : Nat) (v u : Value) (s r : List Int × Int) : Prop where
  pen : PenAt w' w.heap.size 172 5 p v s.1 s.2
  ref : PenAt w' w.heap.size 151 5 q u r.1 r.2
  kept : Keeps [] w w'
  pq : p ≠ q
  vq : v.ownBlock ≠ some q
  up : u.ownBlock ≠ some p
  vu : ∀ k, v.ownBlock = some k → u.ownBlock ≠ some k

theorem PenAt.ge {w' : World} {B : Nat} {T U : TypeId} {p : Nat} {v : Value} {zs : List Int} {bad : Int} (h : PenAt w' B T U p v zs bad) : ∀ k ∈ p :: v.ownBlock.toList, B ≤ k := by
  intro k hk
  rcases List.mem_cons.1 hk with rfl | hk
  · exact h.lo
  · exact (h.own.lt k (by simpa using hk)).1

theorem TwoAt.stepW {w w2 w3 : World} {p q : Nat} {v u : Value} {s r s' : List Int × Int} {e : Ending} (h : TwoAt w w2 p q v u s r) (hp : PenPost w2 w.heap.size 172 5 p v s' e w3) :
    e = .returned (.tuple #[]) ∧ ∃ v', TwoAt w w3 p q v' u s' r := by
  obtain ⟨rfl, v', q1, q2, q3⟩ := hp
  refine ⟨rfl, v', q1, h.ref.keep q2 ?_ ?_, h.kept.trans' q2 (fun i hi hm => by have := h.pen.ge i hm; omega), h.pq, ?_, h.up, ?_⟩
  · intro hm
    rcases List.mem_cons.1 hm with hm | hm
    · exact h.pq hm.symm
    · exact h.vq (by simpa using hm)
  · intro g hg hm
    rcases List.mem_cons.1 hm with hm | hm
    · exact h.up (by rw [hg, hm])
    · exact h.vu g (by simpa using hm) hg
  · rcases q3 with q3 | q3
    · rw [q3]; exact h.vq
    · intro hq
      have := q3 q hq
      have := h.ref.lt
      omega
  · intro k hk hu
    rcases q3 with q3 | q3
    · exact h.vu k (by rw [← q3]; exact hk) hu
    · have := q3 k hk
      have := (h.ref.own.lt k hu).2
      omega

theorem TwoAt.stepR {w w2 w3 : World} {p q : Nat} {v u : Value} {s r r' : List Int × Int} {e : Ending} (h : TwoAt w w2 p q v u s r) (hp : PenPost w2 w.heap.size 151 5 q u r' e w3) :
    e = .returned (.tuple #[]) ∧ ∃ u', TwoAt w w3 p q v u' s r' := by
  obtain ⟨rfl, u', q1, q2, q3⟩ := hp
  refine ⟨rfl, u', h.pen.keep q2 ?_ ?_, q1, h.kept.trans' q2 (fun i hi hm => by have := h.ref.ge i hm; omega), h.pq, h.vq, ?_, ?_⟩
  · intro hm
    rcases List.mem_cons.1 hm with hm | hm
    · exact h.pq hm
    · exact h.up (by simpa using hm)
  · intro g hg hm
    rcases List.mem_cons.1 hm with hm | hm
    · exact h.vq (by rw [hg, hm])
    · exact h.vu g hg (by simpa using hm)
  · rcases q3 with q3 | q3
    · rw [q3]; exact h.up
    · intro hq
      have := q3 p hq
      have := h.pen.lt
      omega
  · intro k hk hu
    rcases q3 with q3 | q3
    · exact h.vu k hk (by rw [← q3]; exact hu)
    · have := q3 k hu
      have := (h.pen.own.lt k hk).2
      omega

theorem TwoAt.keep {w w2 w3 : World} {p q : Nat} {v u : Value} {s r : List Int × Int} (h : TwoAt w w2 p q v u s r) (k : Keeps [] w2 w3) : TwoAt w w3 p q v u s r :=
  ⟨h.pen.keep k (by simp) (by simp), h.ref.keep k (by simp) (by simp), h.kept.trans k, h.pq, h.vq, h.up, h.vu⟩

theorem off_old {w : World} {v : Value} {zs : List Int} {S : List Nat} (h : RowAt w v zs) (hs : ∀ k ∈ S, w.heap.size ≤ k) : Off S v zs := by
  intro ad n c e hne hm
  have hpos : 0 < zs.length := by cases zs with
    | nil => exact absurd rfl hne
    | cons _ _ => simp
  obtain ⟨g, off, cap, hv, _, hc⟩ := h.open hpos
  rw [hv] at e
  injection e with e1 _ _
  obtain rfl := Option.some.inj e1
  have := World.block_lt_of_cell? _ _ (hc 0 hpos)
  have := hs _ hm
  simp at *
  omega

def WritePost (w : World) (ds : List Dd) (e : Ending) (w' : World) : Prop :=
  ∃ p q v u, e = .returned (.tuple #[.pointer (some ⟨p, 0, none⟩), .pointer (some ⟨q, 0, none⟩)]) ∧ TwoAt w w' p q v u (ds.foldl deedW ([], 0)) (ds.foldl deedR ([], 0))

end Go.Proofs.Ytoglcohdanpciaa
