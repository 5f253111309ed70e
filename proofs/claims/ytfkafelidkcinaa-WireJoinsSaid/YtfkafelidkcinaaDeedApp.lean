/- The built-in append on deeds: a list of the call's own, a list behind it. -/
import Derived.Test.YtfkafelidkcinaaDeeds
import Derived.Laws.AppendOwnNone
namespace Go.Proofs.Ytfkafelidkcinaa
open Go.RowKit

def dcells (ds : List Dd) : List Value := ds.flatMap fun d => [.int .i64 d.act, .int .i64 d.x, .int .i64 d.n, d.row]

theorem dcells_length (ds : List Dd) : (dcells ds).length = ds.length * 4 := by
  induction ds with
  | nil => rfl
  | cons d ds ih => simp only [dcells, List.flatMap_cons, List.length_append, List.length_cons, List.length_nil] at *; omega

theorem dcells_append (a b : List Dd) : dcells (a ++ b) = dcells a ++ dcells b := by simp [dcells]

theorem dcells_at : ∀ (ds : List Dd) (i : Nat) (h : i < ds.length),
    (dcells ds)[i * 4]? = some (.int .i64 ds[i].act) ∧ (dcells ds)[i * 4 + 1]? = some (.int .i64 ds[i].x) ∧ (dcells ds)[i * 4 + 2]? = some (.int .i64 ds[i].n) ∧ (dcells ds)[i * 4 + 3]? = some ds[i].row
  | d :: ds, 0, _ => by simp [dcells]
  | d :: ds, i + 1, h => by
    have ih := dcells_at ds i (by simpa using h)
    have e : dcells (d :: ds) = [.int .i64 d.act, .int .i64 d.x, .int .i64 d.n, d.row] ++ dcells ds := by simp [dcells]
    rw [e]
    have hd : ∀ j, ([Value.int .i64 d.act, .int .i64 d.x, .int .i64 d.n, d.row] ++ dcells ds)[(i + 1) * 4 + j]? = (dcells ds)[i * 4 + j]? := by
      intro j
      rw [List.getElem?_append_right (by simp; omega)]
      congr 1
      simp
      omega
    refine ⟨by rw [show (i + 1) * 4 = (i + 1) * 4 + 0 from rfl, hd]; exact ih.1, by rw [hd]; exact ih.2.1, by rw [hd]; exact ih.2.2.1, by rw [hd]; exact ih.2.2.2⟩

/-- What a deed asks beside its cells. -/
structure DeedOk (w : World) (d : Dd) : Prop where
  row : RowAt w d.row d.bs
  fit : d.bs.length ≤ 140737488351232
  b0 : i64 d.act
  b1 : i64 d.x
  b2 : i64 d.n

theorem DeedOk.keep {w w' : World} {d : Dd} (h : DeedOk w d) (k : Keeps [] w w') : DeedOk w' d := ⟨h.row.keep k (by intro _ _ _ _ _; simp), h.fit, h.b0, h.b1, h.b2⟩

/-- Deeds of the call's own. -/
def OwnDeeds (w : World) (B : Nat) (v : Value) (ds : List Dd) : Prop := w.ownsRow B 49 4 v ds.length (dcells ds) ∧ ∀ d ∈ ds, DeedOk w d

theorem DeedsAt.ok {w : World} {v : Value} {ds : List Dd} (h : DeedsAt w v ds) : ∀ d ∈ ds, DeedOk w d := by
  obtain ⟨a, cap, rfl, h1, h2, h0, h3⟩ := h
  intro d hd
  obtain ⟨i, hi, rfl⟩ := List.getElem_of_mem hd
  obtain ⟨g, off, _, h4⟩ := h3 (by intro e; rw [e] at hi; simp at hi)
  have := h4 i hi
  exact ⟨this.row, this.fit, this.b0, this.b1, this.b2⟩

theorem OwnDeeds.at {w : World} {B : Nat} {v : Value} {ds : List Dd} (h : OwnDeeds w B v ds) : DeedsAt w v ds := by
  obtain ⟨ho, hk⟩ := h
  rcases ho.2 with ⟨rfl, h0⟩ | ⟨g, cap, cur, rfl, hb, hg, hnc, hcm, hcs, ht⟩
  · rw [List.eq_nil_of_length_eq_zero h0]
    exact ⟨none, 0, rfl, by simp, by simp, fun _ => rfl, fun h => absurd rfl h⟩
  · refine ⟨_, cap, rfl, hnc, hcm, by simp, fun _ => ⟨g, 0, rfl, fun i hi => ?_⟩⟩
    have hc := ho.cells (g := g) rfl
    obtain ⟨d0, d1, d2, d3⟩ := dcells_at ds i hi
    have e0 := hc _ _ d0
    have e1 := hc _ _ d1
    have e2 := hc _ _ d2
    have e3 := hc _ _ d3
    rw [Addr.add_lit] at e0 e1 e2 e3
    have hd := hk ds[i] (List.getElem_mem hi)
    refine ⟨e0, ?_, ?_, ?_, hd.row, hd.fit, hd.b0, hd.b1, hd.b2⟩
    · rw [Nat.add_assoc]; exact e1
    · rw [Nat.add_assoc]; exact e2
    · rw [Nat.add_assoc]; exact e3

theorem dcells_one (w : World) (ds : List Dd) (h : ∀ d ∈ ds, DeedOk w d) : ∀ u ∈ dcells ds, u.oneCell' = true := by
  intro u hu
  simp only [dcells, List.mem_flatMap] at hu
  obtain ⟨d, hd, hm⟩ := hu
  obtain ⟨a, c, hr, _⟩ := (h d hd).row
  simp at hm
  rcases hm with rfl | rfl | rfl | rfl
  · rfl
  · rfl
  · rfl
  · rw [hr]; rfl

theorem DeedsAt.cells {w : World} {a : Option Addr} {n c : Nat} {ds : List Dd} (h : DeedsAt w (.slice a n c) ds) : ∀ ad, a = some ad → ∀ j u, (dcells ds)[j]? = some u → w.cell? (ad.add j) = some u := by
  obtain ⟨a', cap, hv, h1, h2, h0, h3⟩ := h
  injection hv with e1 _ _
  subst e1
  rintro ad rfl j u hu
  have hj : j < ds.length * 4 := by
    have := (List.getElem?_eq_some_iff.1 hu).1
    rw [dcells_length] at this
    exact this
  obtain ⟨g, off, e2, h4⟩ := h3 (by intro e; rw [e] at hj; simp at hj)
  obtain rfl := Option.some.inj e2
  rw [Addr.add_lit]
  have hi : j / 4 < ds.length := by omega
  have hd := h4 (j / 4) hi
  obtain ⟨d0, d1, d2, d3⟩ := dcells_at ds (j / 4) hi
  have hj4 : j = j / 4 * 4 + j % 4 := by omega
  have hm : j % 4 = 0 ∨ j % 4 = 1 ∨ j % 4 = 2 ∨ j % 4 = 3 := by omega
  rcases hm with hm | hm | hm | hm <;> rw [hm] at hj4
  · rw [hj4] at hu ⊢
    rw [Nat.add_zero] at hu ⊢
    rw [← hu, d0]; exact hd.c0
  · rw [hj4] at hu ⊢
    rw [← hu, d1, ← Nat.add_assoc]; exact hd.c1
  · rw [hj4] at hu ⊢
    rw [← hu, d2, ← Nat.add_assoc]; exact hd.c2
  · rw [hj4] at hu ⊢
    rw [← hu, d3, ← Nat.add_assoc]; exact hd.c3

theorem info49 : (Try.prog.info? 49).map (fun i => (i.zero, i.size, i.bytes)) = some (some (.agg #[.int .i64 0, .int .i64 0, .int .i64 0, .slice none 0 0]), 4, 48) := by kernel_rfl

/-- A law for the walk: append(s, x...) where s is a list of deeds of the call's own, and x any. -/
theorem wpList_append_deeds {w : World} {ops : Array Oper} {rest : List Oper} {o : Oper} {a : Act} {Q : Exit → Act → World → Prop} (hgd : o.guard = none) (s x : Operand)
    (ho : o.op = .call { callee := .builtin .append, args := #[s, x], argTypes := #[37, 37] })
    (B : Nat) (v : Value) (ds : List Dd) (hs : a.eval s = v) (hown : OwnDeeds w B v ds)
    (u : Value) (es : List Dd) (hx : a.eval x = u) (hr : DeedsAt w u es) (hn : ds.length + es.length ≤ 1000000) (hbase : B ≤ w.heap.size)
    (hoff : ∀ d ∈ ds ++ es, Off v.ownBlock.toList d.row d.bs)
    (h : ∀ a' c' w', Hid (OwnDeeds w' B (.slice a' (ds.length + es.length) c') (ds ++ es)) → Hid (Keeps v.ownBlock.toList w w') → wpList Try.prog ops Q rest (a.put o.dst (.slice a' (ds.length + es.length) c')) w') :
    wpList Try.prog ops Q (o :: rest) a w := by
  obtain ⟨i, hi, hz, h4, h48⟩ := info_parts info49
  obtain ⟨ua, uc, rfl, hz2⟩ := id hr
  cases ua with
  | none =>
    have hes : es = [] := by
      cases es with
      | nil => rfl
      | cons d es =>
        obtain ⟨g, off, e, _⟩ := hz2.2.2.2 (by simp)
        cases e
    subst hes
    obtain rfl := hz2.2.2.1 rfl
    refine wpList_append_own_none hgd s x 37 ho B 49 i 4 Try.underlying37 hi v ds.length (dcells ds) hs hown.1 hx ?_
    obtain ⟨a', c', rfl⟩ : ∃ a' c', v = .slice a' ds.length c' := by
      rcases hown.1.2 with ⟨rfl, h0⟩ | ⟨g, cap, cur, rfl, _⟩
      · rw [h0]; exact ⟨none, 0, rfl⟩
      · exact ⟨_, cap, rfl⟩
    have := h a' c' w (by rw [List.append_nil]; exact hown) (Keeps.refl _ _)
    simpa using this
  | some ad =>
    have hlen : (dcells es).length = es.length * 4 := dcells_length es
    refine wpList_append_own _ hgd s x 37 ho B 49 i _ 4 48 Try.underlying37 hi hz h4 h48 rfl (by omega) v ds.length (dcells ds) hs hown.1 ad es.length uc (dcells es) hx hlen (hr.cells ad rfl) (dcells_one w es hr.ok) (by unfold maxLen; omega) (by omega) hbase ?_
    intro v' w' o1 g1 _
    obtain ⟨a', c', rfl⟩ : ∃ a' c', v' = .slice a' (ds.length + es.length) c' := by
      rcases o1.2 with ⟨rfl, h0⟩ | ⟨g, cap, cur, rfl, _⟩
      · rw [h0]; exact ⟨none, 0, rfl⟩
      · exact ⟨_, cap, rfl⟩
    have hk : Keeps v.ownBlock.toList w w' := (Keeps.refl _ _).grown g1 (fun k hk => Or.inl (by simp [hk]))
    refine h a' c' w' ⟨by rw [List.length_append, dcells_append]; exact o1, ?_⟩ hk
    intro d hd
    have hok : DeedOk w d := by
      rcases List.mem_append.1 hd with hd | hd
      · exact hown.2 d hd
      · exact hr.ok d hd
    exact ⟨hok.row.keep hk (hoff d hd), hok.fit, hok.b0, hok.b1, hok.b2⟩
end Go.Proofs.Ytfkafelidkcinaa
