/- pack: stripes that are filled, in memory of the call's own. -/
import Derived.Test.YtcfmonlgpccndaaDoorPkD
import Derived.Test.YtcfmonlgpccndaaDoorPkG19
namespace Go.Proofs.YtcfmonlgpccndaaDoor
open Go.RowKit Go.Shelf
set_option maxRecDepth 100000
set_option linter.unusedSimpArgs false
set_option linter.unusedVariables false

structure Fr where
  s : Spe
  r : Value
  d : List Int
deriving Inhabited
def Fr.cells (x : Fr) : List Value := [.int .i64 x.s.c, .int .i64 x.s.l, .int .i64 x.s.n, x.r]
def Fr.fl (x : Fr) : Fl := ⟨x.s, x.d⟩
def fls (xs : List Fr) : List Fl := xs.map Fr.fl
theorem fls_len (xs : List Fr) : (fls xs).length = xs.length := by simp [fls]
def frcells (xs : List Fr) : List Value := xs.flatMap Fr.cells
theorem frcells_length (ds : List Fr) : (frcells ds).length = ds.length * 4 := by
  induction ds with
  | nil => rfl
  | cons d ds ih => simp only [frcells, List.flatMap_cons, List.length_append, Fr.cells, List.length_cons, List.length_nil] at *; omega
theorem frcells_append (a b : List Fr) : frcells (a ++ b) = frcells a ++ frcells b := by simp [frcells]
theorem frcells_cons (m : Fr) (b : List Fr) : frcells (m :: b) = m.cells ++ frcells b := by simp [frcells]
theorem frcells_in : ∀ (ds : List Fr) (i : Nat) (h : i < ds.length) (j : Nat), j < 4 → (frcells ds)[i * 4 + j]? = ds[i].cells[j]?
  | d :: ds, 0, _, j, hj => by
    rw [frcells_cons, Nat.zero_mul, Nat.zero_add, List.getElem?_append_left (by simpa [Fr.cells] using hj)]
    rfl
  | d :: ds, i + 1, h, j, hj => by
    have ih := frcells_in ds i (by simpa using h) j hj
    rw [frcells_cons, List.getElem?_append_right (by simp [Fr.cells]; omega)]
    simp only [List.getElem_cons_succ]
    rw [← ih]
    congr 1
    simp [Fr.cells]
    omega
theorem frcells_set : ∀ (ds : List Fr) (i : Nat) (h : i < ds.length) (r : Value) (d : List Int), frcells (ds.set i ⟨ds[i].s, r, d⟩) = (frcells ds).set (i * 4 + 3) r
  | x :: ds, 0, _, r, d => by simp [frcells, Fr.cells]
  | x :: ds, i + 1, h, r, d => by
    have ih := frcells_set ds i (by simpa using h) r d
    have e : (i + 1) * 4 + 3 = (i * 4 + 3) + 4 := by omega
    simp only [List.set_cons_succ, List.getElem_cons_succ, frcells_cons, ih, e]
    simp [Fr.cells]

/-- Stripes of the call's own: their heads, and the bytes of each; all lie in blocks of M. -/
structure FsIn (w : World) (T : TypeId) (B : Nat) (M : List Nat) (v : Value) (xs : List Fr) : Prop where
  own : w.ownsRow B T 4 v xs.length (frcells xs)
  row : ∀ i (h : i < xs.length), w.ownsRow B 5 1 xs[i].r xs[i].d.length (xs[i].d.map (Value.int .u8))
  byt : ∀ i (h : i < xs.length), ∀ z ∈ xs[i].d, 0 ≤ z ∧ z ≤ 255
  memv : ∀ k, v.ownBlock = some k → k ∈ M
  memr : ∀ i (h : i < xs.length) k, xs[i].r.ownBlock = some k → k ∈ M
  offv : ∀ i (h : i < xs.length) k, xs[i].r.ownBlock = some k → v.ownBlock ≠ some k
  offr : ∀ i j (hi : i < xs.length) (hj : j < xs.length) k, i ≠ j → xs[i].r.ownBlock = some k → xs[j].r.ownBlock ≠ some k
  low : ∀ b ∈ M, b < w.heap.size
theorem FsIn.nil (w : World) (T : TypeId) (B : Nat) : FsIn w T B [] (.slice none 0 0) [] :=
  ⟨World.ownsRow_nil _ _ _ _, fun i h => by simp at h, fun i h => by simp at h, fun k h => by simp [Value.ownBlock] at h, fun i h => by simp at h, fun i h => by simp at h, fun i j h => by simp at h, fun b h => by simp at h⟩
theorem ownsRow_keepF {w w' : World} {B : Nat} {e : TypeId} {s n : Nat} {v : Value} {xs : List Value} {S : List Nat} (h : w.ownsRow B e s v n xs) (k : Keeps S w w') (hs : ∀ b, v.ownBlock = some b → b ∉ S) : w'.ownsRow B e s v n xs := ownsRow_keepP h k hs
theorem FsIn.keep {w w' : World} {T : TypeId} {B : Nat} {M S : List Nat} {v : Value} {xs : List Fr} (h : FsIn w T B M v xs) (k : Keeps S w w') (hs : ∀ b ∈ S, b ∉ M) : FsIn w' T B M v xs :=
  ⟨ownsRow_keepP h.own k (fun b hb hm => hs b hm (h.memv b hb)), fun i hi => ownsRow_keepP (h.row i hi) k (fun b hb hm => hs b hm (h.memr i hi b hb)), h.byt, h.memv, h.memr, h.offv, h.offr, fun b hb => Nat.lt_of_lt_of_le (h.low b hb) k.size⟩
theorem FsIn.later {w w' : World} {T : TypeId} {B : Nat} {M : List Nat} {v : Value} {xs : List Fr} (h : FsIn w T B M v xs) (k : Keeps [] w w') : FsIn w' T B M v xs := h.keep k (by simp)
theorem FsIn.more {w : World} {T : TypeId} {B : Nat} {M N : List Nat} {v : Value} {xs : List Fr} (h : FsIn w T B M v xs) (hN : ∀ b ∈ M, b ∈ N) (hl : ∀ b ∈ N, b < w.heap.size) : FsIn w T B N v xs :=
  ⟨h.own, h.row, h.byt, fun k hk => hN k (h.memv k hk), fun i hi k hk => hN k (h.memr i hi k hk), h.offv, h.offr, hl⟩
theorem FsIn.shape {w : World} {T : TypeId} {B : Nat} {M : List Nat} {v : Value} {xs : List Fr} (h : FsIn w T B M v xs) : ∃ a c, v = .slice a xs.length c := by
  rcases h.own.2 with ⟨rfl, e⟩ | ⟨g, cap, cur, rfl, _⟩
  · exact ⟨none, 0, by rw [e]⟩
  · exact ⟨_, cap, rfl⟩
theorem FsIn.form {w : World} {T : TypeId} {B : Nat} {M : List Nat} {v : Value} {xs : List Fr} (h : FsIn w T B M v xs) (hn : 0 < xs.length) : ∃ g c, v = .slice (some ⟨g, 0, none⟩) xs.length c ∧ B ≤ g ∧ g < w.heap.size := by
  rcases h.own.2 with ⟨_, e⟩ | ⟨g, cap, cur, rfl, _⟩
  · omega
  · exact ⟨g, cap, rfl, h.own.lt g rfl⟩
theorem FsIn.lt {w : World} {T : TypeId} {B : Nat} {M : List Nat} {v : Value} {xs : List Fr} (h : FsIn w T B M v xs) : ∀ k, v.ownBlock = some k → B ≤ k ∧ k < w.heap.size := h.own.lt
theorem FsIn.ltr {w : World} {T : TypeId} {B : Nat} {M : List Nat} {v : Value} {xs : List Fr} (h : FsIn w T B M v xs) (i : Nat) (hi : i < xs.length) : ∀ k, xs[i].r.ownBlock = some k → B ≤ k ∧ k < w.heap.size := (h.row i hi).lt
theorem FsIn.cells {w : World} {T : TypeId} {B g c : Nat} {M : List Nat} {xs : List Fr} (h : FsIn w T B M (.slice (some ⟨g, 0, none⟩) xs.length c) xs) {i : Nat} (hi : i < xs.length) : w.rangeAt g (i * 4) xs[i].cells := fun j u hu => by
  have hj : j < 4 := by
    have := (List.getElem?_eq_some_iff.1 hu).1
    simpa [Fr.cells] using this
  have := h.own.cellAt (i * 4 + j) (by omega)
  rw [frcells_in xs i hi j hj, hu] at this
  exact this
theorem FsIn.rowAt {w : World} {T : TypeId} {B : Nat} {M : List Nat} {v : Value} {xs : List Fr} (h : FsIn w T B M v xs) {i : Nat} (hi : i < xs.length) : RowAt w xs[i].r xs[i].d := row_of_own (h.row i hi) (h.byt i hi)
theorem FsIn.rshape {w : World} {T : TypeId} {B : Nat} {M : List Nat} {v : Value} {xs : List Fr} (h : FsIn w T B M v xs) {i : Nat} (hi : i < xs.length) : ∃ a c, xs[i].r = .slice a xs[i].d.length c := by
  obtain ⟨a, c, e, _⟩ := h.rowAt hi
  exact ⟨a, c, e⟩

/-- A new stripe, without bytes yet. -/
theorem FsIn.push {w w' : World} {T : TypeId} {B : Nat} {M : List Nat} {v v' : Value} {xs : List Fr} (h : FsIn w T B M v xs) (s : Spe) (ho : w'.ownsRow B T 4 v' (xs.length + 1) (frcells xs ++ (⟨s, .slice none 0 0, []⟩ : Fr).cells)) (hg : w.grownBy w' v.ownBlock) (hn : NewRow w v v') :
    FsIn w' T B (v'.ownBlock.toList ++ M) v' (xs ++ [⟨s, .slice none 0 0, []⟩]) := by
  have hlen : (xs ++ [(⟨s, .slice none 0 0, []⟩ : Fr)]).length = xs.length + 1 := by simp
  have hlast : ∀ i (hi : i < (xs ++ [(⟨s, .slice none 0 0, []⟩ : Fr)]).length), (∃ h' : i < xs.length, (xs ++ [(⟨s, .slice none 0 0, []⟩ : Fr)])[i] = xs[i]) ∨ (i = xs.length ∧ (xs ++ [(⟨s, .slice none 0 0, []⟩ : Fr)])[i] = ⟨s, .slice none 0 0, []⟩) := fun i hi => by
    by_cases h' : i < xs.length
    · exact .inl ⟨h', List.getElem_append_left h'⟩
    · have : i = xs.length := by omega
      subst this
      exact .inr ⟨rfl, by simp⟩
  refine ⟨by rw [hlen, frcells_append]; simpa [frcells] using ho, fun i hi => ?_, fun i hi => ?_, fun k hk => by simp [hk], fun i hi k hk => ?_, fun i hi k hk => ?_, fun i j hi hj k hne hk => ?_, fun b hb => ?_⟩
  · rcases hlast i hi with ⟨h', e⟩ | ⟨_, e⟩ <;> rw [e]
    · exact (h.row i h').kept hg (by
        cases hb : xs[i].r.ownBlock with
        | none => exact .inl rfl
        | some k => exact .inr (fun e => h.offv i h' k hb e.symm))
    · exact World.ownsRow_nil _ _ _ _
  · rcases hlast i hi with ⟨h', e⟩ | ⟨_, e⟩ <;> rw [e]
    · exact h.byt i h'
    · intro z hz; simp at hz
  · rcases hlast i hi with ⟨h', e⟩ | ⟨_, e⟩ <;> rw [e] at hk
    · exact List.mem_append_right _ (h.memr i h' k hk)
    · simp [Value.ownBlock] at hk
  · rcases hlast i hi with ⟨h', e⟩ | ⟨_, e⟩ <;> rw [e] at hk
    · intro hv
      rcases hn with hn | hn
      · exact h.offv i h' k hk (hn.symm.trans hv)
      · have := hn k hv
        have := (h.ltr i h' k hk).2
        omega
    · simp [Value.ownBlock] at hk
  · rcases hlast i hi with ⟨h1, e1⟩ | ⟨_, e1⟩ <;> rw [e1] at hk
    · rcases hlast j hj with ⟨h2, e2⟩ | ⟨_, e2⟩ <;> rw [e2]
      · exact h.offr i j h1 h2 k hne hk
      · simp [Value.ownBlock]
    · simp [Value.ownBlock] at hk
  · rcases List.mem_append.1 hb with hb | hb
    · exact (ho.lt b (by simpa using hb)).2
    · exact Nat.lt_of_lt_of_le (h.low b hb) hg.size

/-- The last stripe's bytes grow. -/
theorem FsIn.grow {w w' : World} {T : TypeId} {B g c : Nat} {M : List Nat} {r' : Value} {xs : List Fr} {b : List Int} (h : FsIn w T B M (.slice (some ⟨g, 0, none⟩) xs.length c) xs) {n : Nat} (hn : n < xs.length)
    (ho : w'.ownsRow B 5 1 r' (xs[n].d ++ b).length ((xs[n].d ++ b).map (Value.int .u8))) (hb : ∀ z ∈ b, 0 ≤ z ∧ z ≤ 255) (hg : w.grownBy w' xs[n].r.ownBlock) (hr : NewRow w xs[n].r r') :
    FsIn (w'.setCell ⟨g, n * 4 + 3, none⟩ r') T B (r'.ownBlock.toList ++ M) (.slice (some ⟨g, 0, none⟩) xs.length c) (xs.set n ⟨xs[n].s, r', xs[n].d ++ b⟩) := by
  have hlt := h.own.lt g rfl
  have hne : ∀ k, r'.ownBlock = some k → k ≠ g := fun k hk e => by
    subst e
    rcases hr with hr | hr
    · exact h.offv n hn k (hr.symm.trans hk) rfl
    · have := hr k hk
      omega
  have hnr : ∀ i (hi : i < xs.length), i ≠ n → ∀ k, xs[i].r.ownBlock = some k → r'.ownBlock ≠ some k := fun i hi hin k hk e => by
    rcases hr with hr | hr
    · exact h.offr i n hi hn k hin hk (hr.symm.trans e)
    · have := hr k e
      have := (h.ltr i hi k hk).2
      omega
  have own1 : w'.ownsRow B T 4 (.slice (some ⟨g, 0, none⟩) xs.length c) xs.length (frcells xs) := h.own.kept hg (.inr (fun e => h.offv n hn g e.symm rfl))
  have st := own1.stored (n * 4 + 3) r'
  have hlen : (xs.set n (⟨xs[n].s, r', xs[n].d ++ b⟩ : Fr)).length = xs.length := by simp
  have hat : ∀ i (hi : i < (xs.set n (⟨xs[n].s, r', xs[n].d ++ b⟩ : Fr)).length), (∃ h' : i < xs.length, i ≠ n ∧ (xs.set n (⟨xs[n].s, r', xs[n].d ++ b⟩ : Fr))[i] = xs[i]) ∨ (i = n ∧ (xs.set n (⟨xs[n].s, r', xs[n].d ++ b⟩ : Fr))[i] = ⟨xs[n].s, r', xs[n].d ++ b⟩) := fun i hi => by
    rw [List.getElem_set]
    by_cases e : n = i
    · exact .inr ⟨e.symm, by rw [if_pos e]⟩
    · exact .inl ⟨by omega, fun e' => e e'.symm, by rw [if_neg e]⟩
  refine ⟨by rw [hlen, frcells_set xs n hn]; exact st.1, fun i hi => ?_, fun i hi => ?_, fun k hk => List.mem_append_right _ (h.memv k hk), fun i hi k hk => ?_, fun i hi k hk => ?_, fun i j hi hj k hij hk => ?_, fun b hb => ?_⟩
  · rcases hat i hi with ⟨h', hin, e⟩ | ⟨_, e⟩ <;> rw [e]
    · refine ((h.row i h').kept hg ?_).kept st.2 ?_
      · cases hb : xs[i].r.ownBlock with
        | none => exact .inl rfl
        | some k => exact .inr (fun e => h.offr i n h' hn k hin hb e.symm)
      · cases hb : xs[i].r.ownBlock with
        | none => exact .inl rfl
        | some k => exact .inr (fun e => h.offv i h' k hb e.symm)
    · exact ho.kept st.2 (by
        cases hb : r'.ownBlock with
        | none => exact .inl rfl
        | some k => exact .inr (fun e => hne k hb (Option.some.inj e)))
  · rcases hat i hi with ⟨h', hin, e⟩ | ⟨_, e⟩ <;> rw [e]
    · exact h.byt i h'
    · intro z hz
      rcases List.mem_append.1 hz with hz | hz
      · exact h.byt n hn z hz
      · exact hb z hz
  · rcases hat i hi with ⟨h', hin, e⟩ | ⟨_, e⟩ <;> rw [e] at hk
    · exact List.mem_append_right _ (h.memr i h' k hk)
    · exact List.mem_append_left _ (by simp [hk])
  · rcases hat i hi with ⟨h', hin, e⟩ | ⟨_, e⟩ <;> rw [e] at hk
    · exact h.offv i h' k hk
    · intro e2
      exact hne k hk (Option.some.inj e2).symm
  · rcases hat i hi with ⟨h1, hin, e1⟩ | ⟨i1, e1⟩ <;> rw [e1] at hk
    · rcases hat j hj with ⟨h2, hjn, e2⟩ | ⟨_, e2⟩ <;> rw [e2]
      · exact h.offr i j h1 h2 k hij hk
      · exact hnr i h1 hin k hk
    · rcases hat j hj with ⟨h2, hjn, e2⟩ | ⟨j1, e2⟩ <;> rw [e2]
      · exact fun e3 => hnr j h2 hjn k e3 hk
      · omega
  · refine Nat.lt_of_lt_of_le ?_ st.2.size
    rcases List.mem_append.1 hb with hb | hb
    · exact (ho.lt b (by simpa using hb)).2
    · exact Nat.lt_of_lt_of_le (h.low b hb) hg.size

/-- What came out, to be read. -/
structure F4At (w : World) (g off : Nat) (x : Fl) : Prop where
  cs : ∃ a c, w.rangeAt g off (⟨x.s, .slice a x.d.length c, x.d⟩ : Fr).cells ∧ RowAt w (.slice a x.d.length c) x.d
theorem F4At.keep {w w' : World} {g off : Nat} {x : Fl} (h : F4At w g off x) (k : Keeps [] w w') : F4At w' g off x := by
  obtain ⟨a, c, h1, h2⟩ := h.cs
  exact ⟨a, c, range_keep h1 k (by simp), h2.keep k (by intro _ _ _ _ _; simp)⟩
def FlsAt (w : World) (v : Value) (xs : List Fl) : Prop :=
  ∃ (a : Option Addr) (cap : Nat), v = .slice a xs.length cap ∧ xs.length ≤ cap ∧ cap ≤ maxLen ∧ (a = none → cap = 0) ∧
    (xs ≠ [] → ∃ g off, a = some ⟨g, off, none⟩ ∧ g < w.heap.size ∧ ∀ i (h : i < xs.length), F4At w g (off + i * 4) xs[i])
theorem FlsAt.nil (w : World) : FlsAt w (.slice none 0 0) [] := ⟨none, 0, rfl, by simp, by simp, fun _ => rfl, fun h => absurd rfl h⟩
theorem FlsAt.keep {w w' : World} {v : Value} {xs : List Fl} (h : FlsAt w v xs) (k : Keeps [] w w') : FlsAt w' v xs := by
  obtain ⟨a, cap, e, h1, h2, h3, h4⟩ := h
  exact ⟨a, cap, e, h1, h2, h3, fun hne => by
    obtain ⟨g, off, e2, hl, h5⟩ := h4 hne
    exact ⟨g, off, e2, Nat.lt_of_lt_of_le hl k.size, fun i hi => (h5 i hi).keep k⟩⟩
theorem FlsAt.shape {w : World} {v : Value} {xs : List Fl} (h : FlsAt w v xs) : ∃ a c, v = .slice a xs.length c := by
  obtain ⟨a, cap, rfl, _⟩ := h
  exact ⟨a, cap, rfl⟩
theorem FlsAt.at {w : World} {a : Option Addr} {n cap : Nat} {xs : List Fl} (h : FlsAt w (.slice a n cap) xs) (i : Nat) (hi : i < xs.length) : ∃ g off, a = some ⟨g, off, none⟩ ∧ g < w.heap.size ∧ F4At w g (off + i * 4) xs[i] := by
  obtain ⟨a', cap', hv, h1, h2, h0, h4⟩ := h
  injection hv with e1 e2 e3
  subst e1; subst e2; subst e3
  obtain ⟨g, off, rfl, hg, hc⟩ := h4 (by intro e; rw [e] at hi; simp at hi)
  exact ⟨g, off, rfl, hg, hc i hi⟩
theorem FsIn.at {w : World} {T : TypeId} {B : Nat} {M : List Nat} {v : Value} {xs : List Fr} (h : FsIn w T B M v xs) : FlsAt w v (fls xs) := by
  by_cases h0 : 0 < xs.length
  · obtain ⟨g, c, rfl, _, hg⟩ := h.form h0
    rcases h.own.2 with ⟨_, e⟩ | ⟨g', cap, cur, e, hb, hgg, hnc, hcm, _⟩
    · omega
    · injection e with e1 _ e3
      injection e1 with e1
      injection e1 with e1
      subst e1; subst e3
      refine ⟨_, c, by rw [fls_len], by rw [fls_len]; exact hnc, hcm, by simp, fun _ => ⟨g, 0, rfl, hg, fun i hi => ?_⟩⟩
      have hi' : i < xs.length := by rw [fls_len] at hi; exact hi
      have hc := h.cells hi'
      obtain ⟨a, c', e⟩ := h.rshape hi'
      have hrow := h.rowAt hi'
      have ef : (fls xs)[i] = xs[i].fl := by simp [fls]
      rw [ef, Nat.zero_add]
      refine ⟨a, c', ?_, by have q := hrow; rw [e] at q; exact q⟩
      unfold Fr.cells at hc
      rw [e] at hc
      exact hc
  · have : xs = [] := List.eq_nil_of_length_eq_zero (by omega)
    subst this
    rcases h.own.2 with ⟨rfl, _⟩ | ⟨g, cap, cur, rfl, hb, hgg, hnc, hcm, _⟩
    · exact FlsAt.nil w
    · exact ⟨_, cap, rfl, Nat.zero_le _, hcm, by simp, fun h => absurd rfl h⟩
end Go.Proofs.YtcfmonlgpccndaaDoor
