/- once: rows of requests in memory: what reads as rows, what is a row of rows of the call's own; append. -/
import Derived.Test.YtkfebgbgnpdgpaaOnF
import Derived.Test.YtkfebgbgnpdgpaaKitF
namespace Go.Proofs.Ytkfebgbgnpdgpaa
open Go.RowKit Go.Shelf
set_option maxRecDepth 100000
set_option linter.unusedSimpArgs false

def rcells (rs : List Rw) : List Value := rs.flatMap Rw.cells
theorem rcells_length (rs : List Rw) : (rcells rs).length = rs.length * 4 := by
  induction rs with
  | nil => rfl
  | cons d ds ih => simp only [rcells, List.flatMap_cons, List.length_append, Rw.cells, List.length_cons, List.length_nil] at *; omega
theorem rcells_append (a b : List Rw) : rcells (a ++ b) = rcells a ++ rcells b := by simp [rcells]
theorem rcells_at : ∀ (ds : List Rw) (i : Nat) (h : i < ds.length),
    (rcells ds)[i * 4]? = some (.int .i64 ds[i].c) ∧ (rcells ds)[i * 4 + 1]? = some (.int .i64 ds[i].l) ∧ (rcells ds)[i * 4 + 2]? = some (.int .i64 ds[i].s) ∧ (rcells ds)[i * 4 + 3]? = some ds[i].row
  | d :: ds, 0, _ => by simp [rcells, Rw.cells]
  | d :: ds, i + 1, h => by
    have ih := rcells_at ds i (by simpa using h)
    have hd : ∀ j, (rcells (d :: ds))[(i + 1) * 4 + j]? = (rcells ds)[i * 4 + j]? := by
      intro j
      simp only [rcells, List.flatMap_cons]
      rw [List.getElem?_append_right (by simp [Rw.cells]; omega)]
      congr 1
      simp [Rw.cells]
      omega
    exact ⟨by rw [show (i + 1) * 4 = (i + 1) * 4 + 0 from rfl, hd]; exact ih.1, by rw [hd]; exact ih.2.1, by rw [hd]; exact ih.2.2.1, by rw [hd]; exact ih.2.2.2⟩

/-- A slice of rows, to be read; neither it nor their bytes lie in the blocks of M. -/
def RwsAt (w : World) (M : List Nat) (v : Value) (rs : List Rw) : Prop :=
  ∃ (a : Option Addr) (cap : Nat), v = .slice a rs.length cap ∧ rs.length ≤ cap ∧ cap ≤ maxLen ∧ (a = none → cap = 0) ∧ (∀ r ∈ rs, RwOk w M r) ∧
    (rs ≠ [] → ∃ g off, a = some ⟨g, off, none⟩ ∧ g < w.heap.size ∧ g ∉ M ∧ ∀ j u, (rcells rs)[j]? = some u → w.cell? ⟨g, off + j, none⟩ = some u)
theorem RwsAt.nil (w : World) (M : List Nat) : RwsAt w M (.slice none 0 0) [] := ⟨none, 0, rfl, by simp, by simp, fun _ => rfl, by simp, fun h => absurd rfl h⟩
theorem RwsAt.keep {w w' : World} {M S : List Nat} {v : Value} {rs : List Rw} (h : RwsAt w M v rs) (k : Keeps S w w') (hs : ∀ b ∈ S, b ∈ M) : RwsAt w' M v rs := by
  obtain ⟨a, cap, rfl, h1, h2, h0, h3, h4⟩ := h
  refine ⟨a, cap, rfl, h1, h2, h0, fun m hm => (h3 m hm).keep k hs, fun hne => ?_⟩
  obtain ⟨g, off, rfl, hg, hM, hc⟩ := h4 hne
  exact ⟨g, off, rfl, Nat.lt_of_lt_of_le hg k.size, hM, fun j u hu => k.cell' (hc j u hu) (fun hm => hM (hs _ hm))⟩
theorem RwsAt.later {w w' : World} {M : List Nat} {v : Value} {rs : List Rw} (h : RwsAt w M v rs) (k : Keeps [] w w') : RwsAt w' M v rs := h.keep k (by simp)
theorem RwsAt.ok {w : World} {M : List Nat} {v : Value} {rs : List Rw} (h : RwsAt w M v rs) : ∀ r ∈ rs, RwOk w M r := by
  obtain ⟨a, cap, rfl, h1, h2, h0, h3, h4⟩ := h
  exact h3
theorem RwsAt.more {w : World} {M N : List Nat} {v : Value} {rs : List Rw} (h : RwsAt w M v rs) (hN : ∀ b ∈ N, b ∈ M ∨ w.heap.size ≤ b) : RwsAt w N v rs := by
  obtain ⟨a, cap, rfl, h1, h2, h0, h3, h4⟩ := h
  refine ⟨a, cap, rfl, h1, h2, h0, fun m hm => (h3 m hm).more hN, fun hne => ?_⟩
  obtain ⟨g, off, rfl, hg, hM, hc⟩ := h4 hne
  exact ⟨g, off, rfl, hg, fun hm => by
    rcases hN g hm with h | h
    · exact hM h
    · omega, hc⟩
theorem RwsAt.at {w : World} {M : List Nat} {a : Option Addr} {n cap : Nat} {rs : List Rw} (h : RwsAt w M (.slice a n cap) rs) (i : Nat) (hi : i < rs.length) :
    ∃ g off, a = some ⟨g, off, none⟩ ∧ n = rs.length ∧ g < w.heap.size ∧ g ∉ M ∧ w.cell? ⟨g, off + i * 4, none⟩ = some (.int .i64 rs[i].c) ∧ w.cell? ⟨g, off + i * 4 + 1, none⟩ = some (.int .i64 rs[i].l) ∧ w.cell? ⟨g, off + i * 4 + 2, none⟩ = some (.int .i64 rs[i].s) ∧ w.cell? ⟨g, off + i * 4 + 3, none⟩ = some rs[i].row := by
  obtain ⟨a', cap', hv, h1, h2, h0, h3, h4⟩ := h
  injection hv with e1 e2 e3
  subst e1; subst e2; subst e3
  obtain ⟨g, off, rfl, hg, hM, hc⟩ := h4 (by intro e; rw [e] at hi; simp at hi)
  obtain ⟨m0, m1, m2, m3⟩ := rcells_at rs i hi
  exact ⟨g, off, rfl, rfl, hg, hM, hc _ _ m0, hc _ _ m1, hc _ _ m2, hc _ _ m3⟩
theorem RwsAt.cells {w : World} {M : List Nat} {a : Option Addr} {n c : Nat} {rs : List Rw} (h : RwsAt w M (.slice a n c) rs) (hne : rs ≠ []) : ∀ ad, a = some ad → ∀ j u, (rcells rs)[j]? = some u → w.cell? (ad.add j) = some u := by
  obtain ⟨a', cap, hv, h1, h2, h0, h3, h4⟩ := h
  injection hv with e1 _ _
  subst e1
  obtain ⟨g, off, rfl, hg, hM, hc⟩ := h4 hne
  rintro ad had j u hu
  obtain rfl := Option.some.inj had
  rw [Addr.add_lit]
  exact hc j u hu
theorem rcells_one (w : World) (M : List Nat) (ds : List Rw) (h : ∀ d ∈ ds, RwOk w M d) : ∀ u ∈ rcells ds, u.oneCell' = true := by
  intro u hu
  simp only [rcells, List.mem_flatMap] at hu
  obtain ⟨d, hd, hm⟩ := hu
  obtain ⟨a, c, hr, _⟩ := (h d hd).row
  simp [Rw.cells] at hm
  rcases hm with rfl | rfl | rfl | rfl
  · rfl
  · rfl
  · rfl
  · rw [hr]; rfl

/-- A type of rows, and that of a slice of them. -/
structure RT (E T : TypeId) : Prop where
  und : Try.prog.underlying T = some (.slice E)
  elem : Try.prog.elem T = E
  inf : (Try.prog.info? E).map (fun i => (i.zero, i.size, i.bytes)) = some (some (.agg #[.int .i64 0, .int .i64 0, .int .i64 0, .slice none 0 0]), 4, 48)
theorem rtP : RT 82 64 := ⟨Try.underlying64, by kernel_rfl, by kernel_rfl⟩
theorem rtV : RT 60 50 := ⟨Try.underlying50, by kernel_rfl, by kernel_rfl⟩

/-- Rows of the call's own: the array is none of the blocks of M, nor one in which bytes of a row lie. -/
structure OwnW (E : TypeId) (w : World) (B : Nat) (M : List Nat) (v : Value) (rs : List Rw) : Prop where
  row : w.ownsRow B E 4 v rs.length (rcells rs)
  ok : ∀ r ∈ rs, RwOk w M r
  sep : ∀ r ∈ rs, Off v.ownBlock.toList r.row r.bs
  lt : ∀ b ∈ M, b < B
theorem OwnW.nil (E : TypeId) (w : World) (B : Nat) (M : List Nat) (hM : ∀ b ∈ M, b < B) : OwnW E w B M (.slice none 0 0) [] := ⟨World.ownsRow_nil _ _ _ _, by simp, by simp, hM⟩
theorem ownsRow_keepO {w w' : World} {B : Nat} {e : TypeId} {s n : Nat} {v : Value} {xs : List Value} {S : List Nat} (h : w.ownsRow B e s v n xs) (k : Keeps S w w') (hs : ∀ b, v.ownBlock = some b → b ∉ S) : w'.ownsRow B e s v n xs := by
  rcases h.2 with ⟨rfl, h0⟩ | ⟨g, cap, cur, rfl, hb, hg, hnc, hcm, hcs, ht⟩
  · exact ⟨h.1, .inl ⟨rfl, h0⟩⟩
  · exact ⟨h.1, .inr ⟨g, cap, cur, rfl, hb, (k.block g (lt_of_block hg) (hs g rfl)).trans hg, hnc, hcm, hcs, ht⟩⟩
theorem OwnW.blk {E w B M v rs} (h : OwnW E w B M v rs) : ∀ k, v.ownBlock = some k → B ≤ k ∧ k < w.heap.size := h.row.lt
theorem OwnW.keep {E : TypeId} {w w' : World} {B : Nat} {M S : List Nat} {v : Value} {rs : List Rw} (h : OwnW E w B M v rs) (k : Keeps S w w') (hs : ∀ b ∈ S, b ∈ M) : OwnW E w' B M v rs :=
  ⟨ownsRow_keepO h.row k (fun b hb hm => by have := (h.blk b hb).1; have := h.lt b (hs b hm); omega), fun r hr => (h.ok r hr).keep k hs, h.sep, h.lt⟩
theorem OwnW.later {E : TypeId} {w w' : World} {B : Nat} {M : List Nat} {v : Value} {rs : List Rw} (h : OwnW E w B M v rs) (k : Keeps [] w w') : OwnW E w' B M v rs := h.keep k (by simp)
theorem OwnW.shape {E w B M v rs} (h : OwnW E w B M v rs) : ∃ a c, v = .slice a rs.length c := by
  rcases h.row.2 with ⟨rfl, e⟩ | ⟨g, cap, cur, rfl, _⟩
  · exact ⟨none, 0, by rw [e]⟩
  · exact ⟨_, cap, rfl⟩
theorem OwnW.at {E w B M v rs} (h : OwnW E w B M v rs) : RwsAt w M v rs := by
  rcases h.row.2 with ⟨rfl, h0⟩ | ⟨g, cap, cur, rfl, hb, hg, hnc, hcm, hcs, ht⟩
  · rw [List.eq_nil_of_length_eq_zero h0]
    exact RwsAt.nil w M
  · refine ⟨_, cap, rfl, hnc, hcm, by simp, h.ok, fun _ => ⟨g, 0, rfl, lt_of_block hg, fun hm => by have := h.lt g hm; omega, fun j u hu => ?_⟩⟩
    have := h.row.cells (g := g) rfl j u hu
    rw [Addr.add_lit] at this
    exact this

/-- append of rows onto rows of the call's own. -/
theorem append_rws {E T : TypeId} (rt : RT E T) {w : World} {B : Nat} {M : List Nat} {v : Value} {rs es : List Rw} (h : OwnW E w B M v rs) (A : Option Addr) (n c : Nat) (hs : RwsAt w M (.slice A n c) es) (hsep : ∀ r ∈ es, Off v.ownBlock.toList r.row r.bs) (hl : rs.length + es.length ≤ 100000) (hB : B ≤ w.heap.size) (ty : TypeId) :
    ∃ a' c' w', (Builtin.append_ #[T, T] ty #[v, .slice A n c]).run Try.prog w = .ok (.slice a' (rs.length + n) c') w' ∧ OwnW E w' B M (.slice a' (rs.length + n) c') (rs ++ es) ∧ Keeps v.ownBlock.toList w w' := by
  obtain ⟨i, hi, hz, hz3, hz40⟩ := info_parts rt.inf
  obtain ⟨a0, c0, hv0, h1, h2, h0, h3, h4⟩ := id hs
  injection hv0 with e1 e2 e3
  subst e1; subst e2; subst e3
  obtain ⟨a', c', w', hr, ho, hg, hn⟩ := run_append_rowsO (P := Try.prog) w B T ty E i _ 4 48 rt.und hi hz hz3 hz40 rfl (by omega) v rs.length (rcells rs) h.row A es.length c (rcells es) (rcells_length es) h0 h1
    (fun ad had j u hu => hs.cells (by rintro rfl; simp [rcells] at hu) ad had j u hu) (rcells_one w M es h3) (by unfold maxLen; omega) (by omega) hB
  have hk : Keeps v.ownBlock.toList w w' := (Keeps.refl _ _).grown hg (fun k hk => Or.inl (by simp [hk]))
  have okk : ∀ r, RwOk w M r → Off v.ownBlock.toList r.row r.bs → RwOk w' M r := fun r hr ho => ⟨hr.row.keep hk ho, hr.off, hr.fit, hr.b0, hr.b1, hr.b2⟩
  refine ⟨a', c', w', hr, ⟨by rw [List.length_append, rcells_append]; exact ho, fun m hm => ?_, fun m hm => ?_, h.lt⟩, hk⟩
  · rcases List.mem_append.1 hm with hm | hm
    · exact okk m (h.ok m hm) (h.sep m hm)
    · exact okk m (h3 m hm) (hsep m hm)
  · have hold : RwOk w M m ∧ Off v.ownBlock.toList m.row m.bs := by
      rcases List.mem_append.1 hm with hm | hm
      · exact ⟨h.ok m hm, h.sep m hm⟩
      · exact ⟨h3 m hm, hsep m hm⟩
    rcases hn with hn | hn
    · rw [hn]; exact hold.2
    · intro ad n c e hne hb
      cases hq : (Value.slice a' (rs.length + es.length) c').ownBlock with
      | none => rw [hq] at hb; simp at hb
      | some q =>
        rw [hq] at hb
        simp at hb
        have := hn q hq
        have := hold.1.row.blk e hne
        omega
end Go.Proofs.Ytkfebgbgnpdgpaa
