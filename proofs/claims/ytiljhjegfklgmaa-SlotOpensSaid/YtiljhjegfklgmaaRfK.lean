/- The reference's disk: Crash. -/
import Derived.Test.YtiljhjegfklgmaaRfJ
namespace Go.Proofs.Ytiljhjegfklgmaa
open Go.RowKit Go.Shelf
set_option maxRecDepth 100000

/-- A disk that is being made: these rows in Now, these in Lasts. -/
def Ck (l0 l1 : List (List Int)) : RSt := ⟨fun i => if i = 0 then l0 else if i = 1 then l1 else [], [], 0, -1, false⟩

theorem and_u8 : ∀ n : Fin 256, bits .and .u8 (n.val : Int) 1 = (n.val : Int) % 2 := by decide
theorem and_byte {z : Int} (h : 0 ≤ z ∧ z ≤ 255) : bits .and .u8 z 1 = z % 2 := by
  have := and_u8 ⟨z.toNat, by omega⟩
  rwa [show ((z.toNat : Nat) : Int) = z by omega] at this

def lasRows (s : DS) : List (List Int) := (List.range s.cnt).map fun j => (s.las j).1
/-- The rows behind the first k writes of which some are left. -/
def leftRows (s : DS) (ch : List Int) (k : Nat) : List (List Int) := (List.range s.cnt).map fun j => (((keptBy ch (s.loose.take k)).foldl (fun g x => upd g x.1 x.2) s.las) j).1
theorem leftRows_zero (s : DS) (ch : List Int) : leftRows s ch 0 = lasRows s := by simp [leftRows, lasRows, keptBy]
theorem leftRows_skip (s : DS) (ch : List Int) (k : Nat) (hk : k < s.loose.length) (h : isLeft ch k = false) : leftRows s ch (k + 1) = leftRows s ch k := by
  unfold leftRows
  rw [keptBy_take ch s.loose k hk, h]
  simp
theorem leftRows_put (s : DS) (ch : List Int) (k : Nat) (hk : k < s.loose.length) (h : isLeft ch k = true) : leftRows s ch (k + 1) = (leftRows s ch k).set (s.loose[k]).1 (s.loose[k]).2.1 := by
  unfold leftRows
  rw [keptBy_take ch s.loose k hk, h]
  simp only [if_true, List.foldl_append, List.foldl_cons, List.foldl_nil]
  exact map_upd _ _ _ _
theorem leftRows_all (s : DS) (ch : List Int) : leftRows s ch s.loose.length = (List.range s.cnt).map fun j => (crashRow s ch j).1 := by
  unfold leftRows crashRow
  rw [List.take_length]
theorem leftRows_len (s : DS) (ch : List Int) (k : Nat) : (leftRows s ch k).length = s.cnt := by simp [leftRows]
theorem leftRows_64 (s : DS) (ch : List Int) (k : Nat) : ∀ r ∈ leftRows s ch k, r.length = 64 := by
  intro r hr
  obtain ⟨j, _, rfl⟩ := List.mem_map.1 hr
  exact (((keptBy ch (s.loose.take k)).foldl (fun g x => upd g x.1 x.2) s.las) j).2.1
theorem lasRows_64 (s : DS) : ∀ r ∈ lasRows s, r.length = 64 := by rw [← leftRows_zero s []]; exact leftRows_64 s [] 0

theorem map_at {α β : Type} (f : α → β) (l : List α) (k : Nat) (h : k < (l.map f).length) : (l.map f)[k] = f (l[k]'(by simpa using h)) := List.getElem_map _

theorem row_of_own64 {w : World} {B n : Nat} {e : TypeId} {v : Value} {zs : List Int} (h : w.ownsRow B e 1 v n (zs.map (Value.int .u8))) (hl : zs.length = n) (hz : ∀ z ∈ zs, 0 ≤ z ∧ z ≤ 255) : RowAt w v zs := by
  subst hl
  exact row_of_own h hz

/-- The rows of an outer row of what is read. -/
theorem RowsOwn.at {w : World} {v : Value} {us : List Value} {rs : List (List Int)} (h : RowsOwn w v us rs) (k : Nat) (hk : k < rs.length) :
    ∃ g c a uc, v = .slice (some ⟨g, 0, none⟩) rs.length c ∧ w.cell? ⟨g, k, none⟩ = some (.slice a rs[k].length uc) ∧ RowAt w (.slice a rs[k].length uc) rs[k] ∧ g < w.heap.size := by
  have hl := h.len
  obtain ⟨g, c, e, _, hcs⟩ := h.open (by omega)
  have hr := h.rows k (by omega)
  rw [List.getD_eq_getElem?_getD, List.getElem?_eq_getElem hk] at hr
  obtain ⟨a, uc, ue, _⟩ := id hr
  have hc := hcs k (by omega)
  simp only [Option.getD_some] at hr ue
  rw [ue] at hr hc
  exact ⟨g, c, a, uc, by rw [e, hl], hc, hr, World.block_lt_of_cell? _ _ hc⟩

theorem ck_crashed {w : World} {q : Nat} {s : DS} {ch : List Int} {vf : Nat → Value} {uf : Nat → List Value} (h : RefIn w q (Ck ((leftRows s ch s.loose.length).take s.cnt) (leftRows s ch s.loose.length)) vf uf) : RefIn w q (s.crashed ch).ref vf uf :=
  h.congr (fun i hi h2 => by
    have e : (leftRows s ch s.loose.length).take s.cnt = leftRows s ch s.loose.length := by rw [List.take_of_length_le]; rw [leftRows_len]; exact Nat.le_refl _
    have : i = 0 ∨ i = 1 ∨ i = 3 := by omega
    rcases this with rfl | rfl | rfl
    · show (List.range s.cnt).map (fun j => (crashRow s ch j).1) = (leftRows s ch s.loose.length).take s.cnt
      rw [e, leftRows_all]
    · show (List.range s.cnt).map (fun j => (crashRow s ch j).1) = leftRows s ch s.loose.length
      rw [leftRows_all]
    · rfl) rfl ⟨rfl, rfl, rfl⟩

/-- What stands behind a row that has been put behind an outer row of the disk that is being made. -/
theorem app_fresh {w wr w4 w5 : World} {p f : Nat} {VF : Nat → Value} {UF : Nat → List Value} {v u : Value} (hp : p = w.heap.size) (K : Keeps [] w wr) (FR : ∀ b, RB p VF UF b → w.heap.size ≤ b) (hf : f < 4) (h4 : Keeps [] wr w4) (k5 : Keeps (VF f).ownBlock.toList w4 w5) (hb : ∀ b, v.ownBlock = some b → (VF f).ownBlock = some b ∨ w4.heap.size ≤ b) (hu : ∀ b, u.ownBlock = some b → wr.heap.size ≤ b) :
    Keeps [] w (w5.setCell ⟨p, f, none⟩ v) ∧ ∀ b, RB p (upd VF f v) (upd UF f (UF f ++ [u])) b → w.heap.size ≤ b := by
  subst hp
  have hw := K.size
  have hw4 := h4.size
  refine ⟨((K.trans' h4 (by simp)).trans' k5 (fun b hb hm => ?_)).setCell (.inr (Nat.le_refl _)) _, fun b hb' => ?_⟩
  · have := FR b (.inr ⟨f, hf, .inl (by simpa using hm)⟩); omega
  · rcases rb_upd hb' with h | h | h
    · exact FR b h
    · rcases hb b h with h | h
      · exact FR b (.inr ⟨f, hf, .inl h⟩)
      · omega
    · rw [List.filterMap_append, List.mem_append] at h
      rcases h with h | h
      · exact FR b (.inr ⟨f, hf, .inr h⟩)
      · simp only [List.filterMap_cons, List.filterMap_nil] at h
        cases e : u.ownBlock with
        | none => rw [e] at h; simp at h
        | some b2 =>
          rw [e] at h
          simp at h
          subst h
          have := hu b e
          omega

end Go.Proofs.Ytiljhjegfklgmaa
