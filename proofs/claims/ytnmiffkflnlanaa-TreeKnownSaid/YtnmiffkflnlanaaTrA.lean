/- Trees of names, plainly: what a path names, what is made, removed, moved. No program. -/
import Derived.Test.YtnmiffkflnlanaaNaA
namespace Go.Proofs.Ytnmiffkflnlanaa

/-- One of a tree's things. -/
structure Th where
  ino : Nat
  up : Nat
  nm : List UInt8
  dir : Bool
deriving DecidableEq
abbrev TL := List Th
def findT (T : TL) (n : Nat) : Option Th := T.find? fun x => x.ino == n
def kidT (T : TL) (d : Nat) (s : List UInt8) : Nat := match T.find? (fun x => x.up == d && x.nm == s) with | some x => x.ino | none => 0
def isDirT (T : TL) (n : Nat) : Bool := n == 1 || (match findT T n with | some x => x.dir | none => false)
def hasT (T : TL) (n : Nat) : Bool := n == 1 || (findT T n).isSome
def walkT (T : TL) : Nat → List (List UInt8) → Nat × Int
  | n, [] => (n, 0)
  | n, s :: l => if isDirT T n = true then (if kidT T n s = 0 then (0, 6) else walkT T (kidT T n s) l) else (0, 10)
def lookT (T : TL) (p : List UInt8) : Nat × Bool × Int := match splitN p with
  | none => (0, false, 12)
  | some l => if (walkT T 1 l).2 = 0 then ((walkT T 1 l).1, isDirT T (walkT T 1 l).1, 0) else (0, false, (walkT T 1 l).2)
/-- Where a path's last name would stand (the root's path has none: 7). -/
def placeT (T : TL) (p : List UInt8) : Nat × List UInt8 × Int := match splitN p with
  | none => (0, [], 12)
  | some l => match l.getLast? with
    | none => (0, [], 7)
    | some s => if (walkT T 1 l.dropLast).2 = 0 then (if isDirT T (walkT T 1 l.dropLast).1 = true then ((walkT T 1 l.dropLast).1, s, 0) else (0, [], 10)) else (0, [], (walkT T 1 l.dropLast).2)
/-- .. and where nothing stands yet. -/
def spotT (T : TL) (p : List UInt8) : Nat × List UInt8 × Int :=
  if (placeT T p).2.2 = 0 then (if kidT T (placeT T p).1 (placeT T p).2.1 = 0 then placeT T p else (0, [], 7)) else placeT T p
def leastT (T : TL) : Option Nat := (List.range 129).find? fun n => decide (1 ≤ n) && !hasT T n
def insT (T : TL) (x : Th) : TL := T.filter (fun y => y.ino < x.ino) ++ x :: T.filter (fun y => x.ino < y.ino)
def delT (T : TL) (n : Nat) : TL := T.filter fun y => y.ino != n
def setT (T : TL) (n d : Nat) (s : List UInt8) : TL := T.map fun y => if y.ino = n then { y with up := d, nm := s } else y
def makeT (T : TL) (p : List UInt8) (dir : Bool) : TL × Nat × Int :=
  if (spotT T p).2.2 = 0 then (match leastT T with | some n => (insT T ⟨n, (spotT T p).1, (spotT T p).2.1, dir⟩, n, 0) | none => (T, 0, 5)) else (T, 0, (spotT T p).2.2)
def hasKid (T : TL) (n : Nat) : Bool := T.any fun y => y.up == n
def removeT (T : TL) (p : List UInt8) (dir : Bool) : TL × Nat × Int :=
  if (lookT T p).2.2 ≠ 0 then (T, 0, (lookT T p).2.2)
  else if (lookT T p).1 = 1 then (T, 0, 8)
  else if (dir && !(lookT T p).2.1) = true then (T, 0, 10)
  else if (!dir && (lookT T p).2.1) = true then (T, 0, 9)
  else if hasKid T (lookT T p).1 = true then (T, 0, 11)
  else (delT T (lookT T p).1, (lookT T p).1, 0)
def moveT (T : TL) (p to : List UInt8) : TL × Int :=
  if (lookT T p).2.2 ≠ 0 then (T, (lookT T p).2.2)
  else if (lookT T p).1 = 1 then (T, 8)
  else if (withinN to p || withinN p to) = true then (T, 1)
  else if (spotT T to).2.2 ≠ 0 then (T, (spotT T to).2.2)
  else (setT T (lookT T p).1 (spotT T to).1 (spotT T to).2.1, 0)

/-- What is so of every tree. -/
structure InvT (T : TL) : Prop where
  sort : T.Pairwise fun x y => x.ino < y.ino
  ino : ∀ x ∈ T, 2 ≤ x.ino ∧ x.ino ≤ 128
  up : ∀ x ∈ T, isDirT T x.up = true
  may : ∀ x ∈ T, mayN x.nm = true
  one : ∀ x ∈ T, ∀ y ∈ T, x.up = y.up → x.nm = y.nm → x = y

theorem ino_inj {T : TL} (h : T.Pairwise fun x y => x.ino < y.ino) {x y : Th} (hx : x ∈ T) (hy : y ∈ T) (e : x.ino = y.ino) : x = y := by
  induction T with
  | nil => cases hx
  | cons a T ih =>
    rw [List.pairwise_cons] at h
    rcases List.mem_cons.1 hx with hx1 | hx1 <;> rcases List.mem_cons.1 hy with hy1 | hy1
    · rw [hx1, hy1]
    · have := h.1 y hy1; rw [hx1] at e; omega
    · have := h.1 x hx1; rw [hy1] at e; omega
    · exact ih h.2 hx1 hy1
theorem findT_some {T : TL} (I : InvT T) {n : Nat} {x : Th} : findT T n = some x ↔ x ∈ T ∧ x.ino = n := by
  unfold findT
  constructor
  · intro h
    exact ⟨List.mem_of_find?_eq_some h, by simpa using List.find?_some h⟩
  · rintro ⟨hx, rfl⟩
    cases hq : T.find? (fun y => y.ino == x.ino) with
    | none => have := List.find?_eq_none.1 hq x hx; simp at this
    | some y => rw [ino_inj I.sort (List.mem_of_find?_eq_some hq) hx (by simpa using List.find?_some hq)]
theorem findT_none {T : TL} {n : Nat} : findT T n = none ↔ ∀ x ∈ T, x.ino ≠ n := by
  unfold findT
  rw [List.find?_eq_none]
  simp
theorem kidT_some {T : TL} (I : InvT T) {x : Th} (hx : x ∈ T) : kidT T x.up x.nm = x.ino := by
  unfold kidT
  cases hq : T.find? (fun y => y.up == x.up && y.nm == x.nm) with
  | none => have := List.find?_eq_none.1 hq x hx; simp at this
  | some y =>
    have h := List.find?_some hq
    simp only [Bool.and_eq_true, beq_iff_eq] at h
    rw [I.one y (List.mem_of_find?_eq_some hq) x hx h.1 h.2]
theorem kidT_pos {T : TL} {d : Nat} {s : List UInt8} (h : kidT T d s ≠ 0) : ∃ x ∈ T, x.up = d ∧ x.nm = s ∧ x.ino = kidT T d s := by
  unfold kidT at h ⊢
  cases hq : T.find? (fun y => y.up == d && y.nm == s) with
  | none => rw [hq] at h; exact absurd rfl h
  | some y =>
    have h2 := List.find?_some hq
    simp only [Bool.and_eq_true, beq_iff_eq] at h2
    exact ⟨y, List.mem_of_find?_eq_some hq, h2.1, h2.2, rfl⟩
theorem kidT_zero {T : TL} (I : InvT T) {d : Nat} {s : List UInt8} : kidT T d s = 0 ↔ ∀ x ∈ T, x.up = d → x.nm ≠ s := by
  constructor
  · intro h x hx e1 e2
    have := kidT_some I hx
    rw [e1, e2, h] at this
    have := (I.ino x hx).1
    omega
  · intro h
    by_cases h0 : kidT T d s = 0
    · exact h0
    · obtain ⟨x, hx, e1, e2, _⟩ := kidT_pos h0
      exact absurd e2 (h x hx e1)
/-- Where a name's number is the one of a thing: by what there is alone. -/
theorem kidT_eq {T : TL} (I : InvT T) {d : Nat} {s : List UInt8} {k : Nat} (hk : k ≠ 0) : kidT T d s = k ↔ ∃ x ∈ T, x.up = d ∧ x.nm = s ∧ x.ino = k := by
  constructor
  · intro h
    obtain ⟨x, hx, a, b, c⟩ := kidT_pos (by rw [h]; exact hk)
    exact ⟨x, hx, a, b, c.trans h⟩
  · rintro ⟨x, hx, rfl, rfl, rfl⟩
    exact kidT_some I hx
theorem kidT_le {T : TL} (I : InvT T) (d : Nat) (s : List UInt8) : kidT T d s ≤ 128 := by
  by_cases h0 : kidT T d s = 0
  · omega
  · obtain ⟨x, hx, _, _, e⟩ := kidT_pos h0
    have := (I.ino x hx).2
    omega
theorem kidT_has {T : TL} (I : InvT T) {d : Nat} {s : List UInt8} (h : kidT T d s ≠ 0) : hasT T (kidT T d s) = true := by
  obtain ⟨x, hx, _, _, e⟩ := kidT_pos h
  unfold hasT
  rw [(findT_some I).2 ⟨hx, e⟩]
  simp
theorem isDirT_has {T : TL} {n : Nat} (h : isDirT T n = true) : hasT T n = true := by
  unfold isDirT at h
  unfold hasT
  cases hq : findT T n with
  | none => rw [hq] at h; simpa using h
  | some x => simp
theorem hasT_le {T : TL} (I : InvT T) {n : Nat} (h : hasT T n = true) : 1 ≤ n ∧ n ≤ 128 := by
  unfold hasT at h
  cases hq : findT T n with
  | none => rw [hq] at h; simp at h; omega
  | some x =>
    obtain ⟨hx, rfl⟩ := (findT_some I).1 hq
    have := I.ino x hx
    omega
theorem walkT_has {T : TL} (I : InvT T) : ∀ (l : List (List UInt8)) (n : Nat), hasT T n = true → (walkT T n l).2 = 0 → hasT T (walkT T n l).1 = true
  | [], n, h, _ => h
  | s :: l, n, h, h2 => by
    rw [walkT] at h2 ⊢
    split at h2
    · rename_i hd
      rw [if_pos hd]
      split at h2
      · simp at h2
      · rename_i hk
        rw [if_neg hk]
        exact walkT_has I l _ (kidT_has I hk) h2
    · simp at h2
theorem walkT_err {T : TL} : ∀ (l : List (List UInt8)) (n : Nat), (walkT T n l).2 = 0 ∨ (walkT T n l).1 = 0 ∧ ((walkT T n l).2 = 6 ∨ (walkT T n l).2 = 10)
  | [], n => Or.inl rfl
  | s :: l, n => by
    rw [walkT]
    split
    · split
      · simp
      · exact walkT_err l _
    · simp
theorem InvT.nil : InvT [] := ⟨List.Pairwise.nil, by simp, by simp, by simp, by simp⟩

/-! What is made, removed, moved: what there is then. -/
theorem mem_ins {T : TL} {x y : Th} (h : ∀ z ∈ T, z.ino ≠ x.ino) : y ∈ insT T x ↔ y ∈ T ∨ y = x := by
  unfold insT
  simp only [List.mem_append, List.mem_cons, List.mem_filter, decide_eq_true_eq]
  constructor
  · rintro (⟨a, _⟩ | rfl | ⟨a, _⟩)
    · exact Or.inl a
    · exact Or.inr rfl
    · exact Or.inl a
  · rintro (a | rfl)
    · have := h y a
      rcases Nat.lt_or_ge y.ino x.ino with b | b
      · exact Or.inl ⟨a, b⟩
      · exact Or.inr (Or.inr ⟨a, by omega⟩)
    · exact Or.inr (Or.inl rfl)
theorem isDir_ext {T U : TL} (h : ∀ n, findT U n = findT T n ∨ (findT T n = none)) {n : Nat} (hd : isDirT T n = true) : isDirT U n = true := by
  unfold isDirT at hd ⊢
  rcases h n with e | e
  · rw [e]; exact hd
  · rw [e] at hd
    simp at hd
    simp [hd]
theorem find_ins {T : TL} (I : InvT T) {x : Th} (h : ∀ z ∈ T, z.ino ≠ x.ino) (n : Nat) : findT (insT T x) n = if n = x.ino then some x else findT T n := by
  have hs : (insT T x).Pairwise fun a b => a.ino < b.ino := by
    unfold insT
    rw [List.pairwise_append]
    refine ⟨I.sort.sublist List.filter_sublist, ?_, ?_⟩
    · rw [List.pairwise_cons]
      exact ⟨fun y hy => by simpa using (List.mem_filter.1 hy).2, I.sort.sublist List.filter_sublist⟩
    · intro a ha b hb
      have h1 : a.ino < x.ino := by simpa using (List.mem_filter.1 ha).2
      rcases List.mem_cons.1 hb with rfl | hb
      · exact h1
      · have h2 : x.ino < b.ino := by simpa using (List.mem_filter.1 hb).2
        omega
  have key : ∀ y ∈ insT T x, findT (insT T x) y.ino = some y := fun y hy => by
    unfold findT
    cases hq : (insT T x).find? (fun z => z.ino == y.ino) with
    | none => have := List.find?_eq_none.1 hq y hy; simp at this
    | some z => rw [ino_inj hs (List.mem_of_find?_eq_some hq) hy (by simpa using List.find?_some hq)]
  by_cases e : n = x.ino
  · rw [if_pos e, e]
    exact key x ((mem_ins h).2 (Or.inr rfl))
  · rw [if_neg e]
    cases hq : findT T n with
    | none =>
      rw [findT_none] at hq ⊢
      intro y hy
      rcases (mem_ins h).1 hy with a | rfl
      · exact hq y a
      · exact fun c => e c.symm
    | some y =>
      obtain ⟨a, rfl⟩ := (findT_some I).1 hq
      exact key y ((mem_ins h).2 (Or.inl a))
theorem InvT.ins {T : TL} (I : InvT T) {x : Th} (h : ∀ z ∈ T, z.ino ≠ x.ino) (h1 : 2 ≤ x.ino ∧ x.ino ≤ 128) (hu : isDirT T x.up = true) (hm : mayN x.nm = true) (hk : kidT T x.up x.nm = 0) : InvT (insT T x) := by
  have ext : ∀ n, findT (insT T x) n = findT T n ∨ findT T n = none := fun n => by
    rw [find_ins I h]
    by_cases e : n = x.ino
    · exact Or.inr (findT_none.2 fun y hy => by rw [e]; exact h y hy)
    · exact Or.inl (if_neg e)
  refine ⟨?_, ?_, ?_, ?_, ?_⟩
  · unfold insT
    rw [List.pairwise_append]
    refine ⟨I.sort.sublist List.filter_sublist, ?_, ?_⟩
    · rw [List.pairwise_cons]
      exact ⟨fun y hy => by simpa using (List.mem_filter.1 hy).2, I.sort.sublist List.filter_sublist⟩
    · intro a ha b hb
      have h1 : a.ino < x.ino := by simpa using (List.mem_filter.1 ha).2
      rcases List.mem_cons.1 hb with rfl | hb
      · exact h1
      · have h2 : x.ino < b.ino := by simpa using (List.mem_filter.1 hb).2
        omega
  · intro y hy
    rcases (mem_ins h).1 hy with a | rfl
    · exact I.ino y a
    · exact h1
  · intro y hy
    rcases (mem_ins h).1 hy with a | rfl
    · exact isDir_ext ext (I.up y a)
    · exact isDir_ext ext hu
  · intro y hy
    rcases (mem_ins h).1 hy with a | rfl
    · exact I.may y a
    · exact hm
  · intro a ha b hb e1 e2
    rw [kidT_zero I] at hk
    rcases (mem_ins h).1 ha with ha1 | ha1 <;> rcases (mem_ins h).1 hb with hb1 | hb1
    · exact I.one a ha1 b hb1 e1 e2
    · rw [hb1] at e1 e2; exact absurd e2 (hk a ha1 e1)
    · rw [ha1] at e1 e2; exact absurd e2.symm (hk b hb1 e1.symm)
    · rw [ha1, hb1]
theorem kid_ins {T : TL} (I : InvT T) {x : Th} (h : ∀ z ∈ T, z.ino ≠ x.ino) (J : InvT (insT T x)) (d : Nat) (s : List UInt8) :
    kidT (insT T x) d s = if d = x.up ∧ s = x.nm then x.ino else kidT T d s := by
  split
  · rename_i e
    rw [e.1, e.2]
    exact kidT_some J ((mem_ins h).2 (Or.inr rfl))
  · rename_i e
    by_cases h0 : kidT T d s = 0
    · rw [h0, kidT_zero J]
      intro y hy e1 e2
      rcases (mem_ins h).1 hy with a | rfl
      · exact (kidT_zero I).1 h0 y a e1 e2
      · exact e ⟨e1.symm, e2.symm⟩
    · obtain ⟨y, hy, e1, e2, e3⟩ := kidT_pos h0
      exact (kidT_eq J h0).2 ⟨y, (mem_ins h).2 (Or.inl hy), e1, e2, e3⟩

theorem mem_del {T : TL} {n : Nat} {y : Th} : y ∈ delT T n ↔ y ∈ T ∧ y.ino ≠ n := by simp [delT]
theorem find_del {T : TL} (I : InvT T) (n k : Nat) : findT (delT T n) k = if k = n then none else findT T k := by
  have hs : (delT T n).Pairwise fun a b => a.ino < b.ino := I.sort.sublist List.filter_sublist
  split
  · rename_i e
    rw [findT_none]
    exact fun y hy => by rw [e]; exact (mem_del.1 hy).2
  · rename_i e
    cases hq : findT T k with
    | none => exact findT_none.2 fun y hy => findT_none.1 hq y (mem_del.1 hy).1
    | some y =>
      obtain ⟨a, rfl⟩ := (findT_some I).1 hq
      have hy : y ∈ delT T n := mem_del.2 ⟨a, e⟩
      unfold findT
      cases hq : (delT T n).find? (fun z => z.ino == y.ino) with
      | none => have := List.find?_eq_none.1 hq y hy; simp at this
      | some z => rw [ino_inj hs (List.mem_of_find?_eq_some hq) hy (by simpa using List.find?_some hq)]
theorem InvT.del {T : TL} (I : InvT T) {n : Nat} (hk : hasKid T n = false) : InvT (delT T n) := by
  refine ⟨I.sort.sublist List.filter_sublist, fun x hx => I.ino x (mem_del.1 hx).1, fun x hx => ?_, fun x hx => I.may x (mem_del.1 hx).1, fun x hx y hy => I.one x (mem_del.1 hx).1 y (mem_del.1 hy).1⟩
  have hu := I.up x (mem_del.1 hx).1
  have hn : x.up ≠ n := fun e => by
    have := List.any_eq_false.1 hk x (mem_del.1 hx).1
    simp [e] at this
  unfold isDirT at hu ⊢
  rw [find_del I, if_neg hn]
  exact hu
theorem kid_del {T : TL} (I : InvT T) {x : Th} (hx : x ∈ T) (J : InvT (delT T x.ino)) (d : Nat) (s : List UInt8) :
    kidT (delT T x.ino) d s = if d = x.up ∧ s = x.nm then 0 else kidT T d s := by
  split
  · rename_i e
    rw [e.1, e.2, kidT_zero J]
    intro y hy e1 e2
    exact (mem_del.1 hy).2 (by rw [I.one y (mem_del.1 hy).1 x hx e1 e2])
  · rename_i e
    by_cases h0 : kidT T d s = 0
    · rw [h0, kidT_zero J]
      intro y hy
      exact (kidT_zero I).1 h0 y (mem_del.1 hy).1
    · obtain ⟨y, hy, e1, e2, e3⟩ := kidT_pos h0
      refine (kidT_eq J h0).2 ⟨y, mem_del.2 ⟨hy, fun c => e ?_⟩, e1, e2, e3⟩
      rw [ino_inj I.sort hy hx c] at e1 e2
      exact ⟨e1.symm, e2.symm⟩

def movT (n d : Nat) (s : List UInt8) (y : Th) : Th := if y.ino = n then { y with up := d, nm := s } else y
theorem movT_ino (n d : Nat) (s : List UInt8) (y : Th) : (movT n d s y).ino = y.ino ∧ (movT n d s y).dir = y.dir := by unfold movT; split <;> simp
theorem setT_map (T : TL) (n d : Nat) (s : List UInt8) : setT T n d s = T.map (movT n d s) := rfl
theorem find_set (T : TL) (n d : Nat) (s : List UInt8) (k : Nat) : findT (setT T n d s) k = (findT T k).map (movT n d s) := by
  rw [setT_map]
  unfold findT
  rw [List.find?_map]
  have e : ((fun x : Th => x.ino == k) ∘ movT n d s) = fun x : Th => x.ino == k := by funext y; simp [movT_ino]
  rw [e]
theorem isDir_set (T : TL) (n d : Nat) (s : List UInt8) (k : Nat) : isDirT (setT T n d s) k = isDirT T k := by
  unfold isDirT
  rw [find_set]
  cases findT T k with
  | none => rfl
  | some x => simp [movT_ino]
theorem InvT.set {T : TL} (I : InvT T) {n d : Nat} {s : List UInt8} (hd : isDirT T d = true) (hm : mayN s = true) (hk : kidT T d s = 0) : InvT (setT T n d s) := by
  rw [kidT_zero I] at hk
  refine ⟨?_, ?_, ?_, ?_, ?_⟩
  · rw [setT_map, List.pairwise_map]
    exact I.sort.imp fun h => by rw [(movT_ino n d s _).1, (movT_ino n d s _).1]; exact h
  · intro x hx
    rw [setT_map] at hx
    obtain ⟨y, hy, rfl⟩ := List.mem_map.1 hx
    rw [(movT_ino n d s _).1]
    exact I.ino y hy
  · intro x hx
    rw [isDir_set]
    rw [setT_map] at hx
    obtain ⟨y, hy, rfl⟩ := List.mem_map.1 hx
    unfold movT
    split
    · exact hd
    · exact I.up y hy
  · intro x hx
    rw [setT_map] at hx
    obtain ⟨y, hy, rfl⟩ := List.mem_map.1 hx
    unfold movT
    split
    · exact hm
    · exact I.may y hy
  · intro x hx y hy
    rw [setT_map] at hx hy
    clear hm hd
    revert x y
    suffices key : ∀ x ∈ T, ∀ y ∈ T, (movT n d s x).up = (movT n d s y).up → (movT n d s x).nm = (movT n d s y).nm → movT n d s x = movT n d s y from
      fun x hx y hy => by
        obtain ⟨x1, a1, b1⟩ := List.mem_map.1 hx
        obtain ⟨y1, a2, b2⟩ := List.mem_map.1 hy
        rw [← b1, ← b2]
        exact key x1 a1 y1 a2
    intro x hx y hy
    unfold movT
    by_cases a : x.ino = n <;> by_cases b : y.ino = n <;> simp only [a, b, if_true, if_false]
    · intro _ _
      rw [ino_inj I.sort hx hy (a.trans b.symm)]
    · intro e1 e2
      exact absurd e2.symm (hk y hy e1.symm)
    · intro e1 e2
      exact absurd e2 (hk x hx e1)
    · exact I.one x hx y hy
theorem kid_set {T : TL} (I : InvT T) {x : Th} (hx : x ∈ T) {d : Nat} {s : List UInt8} (J : InvT (setT T x.ino d s)) (e : Nat) (u : List UInt8) :
    kidT (setT T x.ino d s) e u = if e = d ∧ u = s then x.ino else if e = x.up ∧ u = x.nm then 0 else kidT T e u := by
  have hx2 : movT x.ino d s x ∈ setT T x.ino d s := by rw [setT_map]; exact List.mem_map.2 ⟨x, hx, rfl⟩
  have ex : movT x.ino d s x = { x with up := d, nm := s } := if_pos rfl
  split
  · rename_i c
    rw [c.1, c.2]
    have := kidT_some J hx2
    rw [ex] at this
    exact this
  · rename_i c
    split
    · rename_i c2
      rw [kidT_zero J]
      intro y0 hy0 e1 e2
      rw [setT_map] at hy0
      obtain ⟨y, hy, ey⟩ := List.mem_map.1 hy0
      rw [← ey] at e1 e2
      unfold movT at e1 e2
      split at e1
      · rename_i a
        rw [if_pos a] at e2
        exact c ⟨e1.symm, e2.symm⟩
      · rename_i a
        rw [if_neg a] at e2
        exact a (by rw [I.one y hy x hx (e1.trans c2.1) (e2.trans c2.2)])
    · rename_i c2
      by_cases h0 : kidT T e u = 0
      · rw [h0, kidT_zero J]
        intro y0 hy0 e1 e2
        rw [setT_map] at hy0
        obtain ⟨y, hy, ey⟩ := List.mem_map.1 hy0
        rw [← ey] at e1 e2
        unfold movT at e1 e2
        split at e1
        · rename_i a
          rw [if_pos a] at e2
          exact c ⟨e1.symm, e2.symm⟩
        · rename_i a
          rw [if_neg a] at e2
          exact (kidT_zero I).1 h0 y hy e1 e2
      · obtain ⟨y, hy, e1, e2, e3⟩ := kidT_pos h0
        have hn : y.ino ≠ x.ino := fun a => c2 (by rw [ino_inj I.sort hy hx a] at e1 e2; exact ⟨e1.symm, e2.symm⟩)
        refine (kidT_eq J h0).2 ⟨y, ?_, e1, e2, e3⟩
        rw [setT_map]
        exact List.mem_map.2 ⟨y, hy, if_neg hn⟩
end Go.Proofs.Ytnmiffkflnlanaa
