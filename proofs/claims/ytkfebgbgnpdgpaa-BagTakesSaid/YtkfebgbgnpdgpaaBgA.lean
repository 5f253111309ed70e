/- bag: messages in memory: what reads as messages, what is a row of messages of the call's own; append. -/
import Derived.Test.YtkfebgbgnpdgpaaApp
import Derived.Test.YtkfebgbgnpdgpaaCore
import Derived.Test.YtkfebgbgnpdgpaaKitA
import Derived.Laws.AppendOwnNone
namespace Go.Proofs.Ytkfebgbgnpdgpaa
open Go.RowKit

structure Mg where
  f : Int
  t : Int
  row : Value
  bs : List Int

/-- What a message says. -/
def con (m : Mg) : Int × Int × List Int := (m.f, m.t, m.bs)

def mcells (ms : List Mg) : List Value := ms.flatMap fun m => [.int .i64 m.f, .int .i64 m.t, m.row]

theorem mcells_length (ms : List Mg) : (mcells ms).length = ms.length * 3 := by
  induction ms with
  | nil => rfl
  | cons d ds ih => simp only [mcells, List.flatMap_cons, List.length_append, List.length_cons, List.length_nil] at *; omega

theorem mcells_append (a b : List Mg) : mcells (a ++ b) = mcells a ++ mcells b := by simp [mcells]
theorem mcells_cons (m : Mg) (b : List Mg) : mcells (m :: b) = [.int .i64 m.f, .int .i64 m.t, m.row] ++ mcells b := by simp [mcells]

theorem mcells_at : ∀ (ds : List Mg) (i : Nat) (h : i < ds.length),
    (mcells ds)[i * 3]? = some (.int .i64 ds[i].f) ∧ (mcells ds)[i * 3 + 1]? = some (.int .i64 ds[i].t) ∧ (mcells ds)[i * 3 + 2]? = some ds[i].row
  | d :: ds, 0, _ => by simp [mcells]
  | d :: ds, i + 1, h => by
    have ih := mcells_at ds i (by simpa using h)
    rw [mcells_cons]
    have hd : ∀ j, ([Value.int .i64 d.f, .int .i64 d.t, d.row] ++ mcells ds)[(i + 1) * 3 + j]? = (mcells ds)[i * 3 + j]? := by
      intro j
      rw [List.getElem?_append_right (by simp; omega)]
      congr 1
      simp
      omega
    exact ⟨by rw [show (i + 1) * 3 = (i + 1) * 3 + 0 from rfl, hd]; exact ih.1, by rw [hd]; exact ih.2.1, by rw [hd]; exact ih.2.2⟩

theorem mcells_take (ms : List Mg) (n : Nat) : mcells (ms.take n) = (mcells ms).take (n * 3) := by
  induction ms generalizing n with
  | nil => simp [mcells]
  | cons m ms ih =>
    cases n with
    | zero => simp [mcells]
    | succ n =>
      rw [List.take_succ_cons, mcells_cons, mcells_cons, ih, show (n + 1) * 3 = n * 3 + 3 by omega]
      rfl

theorem mcells_drop (ms : List Mg) (n : Nat) : mcells (ms.drop n) = (mcells ms).drop (n * 3) := by
  induction ms generalizing n with
  | nil => simp [mcells]
  | cons m ms ih =>
    cases n with
    | zero => simp [mcells]
    | succ n =>
      rw [List.drop_succ_cons, mcells_cons, ih, show (n + 1) * 3 = n * 3 + 3 by omega]
      rfl

/-- What a message asks beside its cells: its bytes read so, in blocks of X. -/
structure MgOk (w : World) (X : List Nat) (m : Mg) : Prop where
  row : RowAt w m.row m.bs
  inn : ∀ ad n c, m.row = .slice (some ad) n c → m.bs ≠ [] → ad.block ∈ X
  fit : m.bs.length ≤ 100
  b0 : i64 m.f
  b1 : i64 m.t

theorem MgOk.keep {w w' : World} {X S : List Nat} {m : Mg} (h : MgOk w X m) (k : Keeps S w w') (hx : ∀ b ∈ X, b ∉ S) : MgOk w' X m :=
  ⟨h.row.keep k (fun ad n c e hne => hx _ (h.inn ad n c e hne)), h.inn, h.fit, h.b0, h.b1⟩
theorem MgOk.mono {w : World} {X Y : List Nat} {m : Mg} (h : MgOk w X m) (hx : ∀ b ∈ X, b ∈ Y) : MgOk w Y m :=
  ⟨h.row, fun ad n c e hne => hx _ (h.inn ad n c e hne), h.fit, h.b0, h.b1⟩

/-- A slice of messages, to be read. -/
def MsgsAt (w : World) (X : List Nat) (v : Value) (ms : List Mg) : Prop :=
  ∃ (a : Option Addr) (cap : Nat), v = .slice a ms.length cap ∧ ms.length ≤ cap ∧ cap ≤ maxLen ∧ (a = none → cap = 0) ∧ (∀ m ∈ ms, MgOk w X m) ∧
    (ms ≠ [] → ∃ g off, a = some ⟨g, off, none⟩ ∧ g < w.heap.size ∧ ∀ j u, (mcells ms)[j]? = some u → w.cell? ⟨g, off + j, none⟩ = some u)

theorem MsgsAt.keep {w w' : World} {X : List Nat} {v : Value} {ms : List Mg} (h : MsgsAt w X v ms) (k : Keeps [] w w') : MsgsAt w' X v ms := by
  obtain ⟨a, cap, rfl, h1, h2, h0, h3, h4⟩ := h
  refine ⟨a, cap, rfl, h1, h2, h0, fun m hm => (h3 m hm).keep k (by simp), fun hne => ?_⟩
  obtain ⟨g, off, rfl, hg, hc⟩ := h4 hne
  exact ⟨g, off, rfl, Nat.lt_of_lt_of_le hg k.size, fun j u hu => k.cell' (hc j u hu) (by simp)⟩

theorem MsgsAt.ok {w : World} {X : List Nat} {v : Value} {ms : List Mg} (h : MsgsAt w X v ms) : ∀ m ∈ ms, MgOk w X m := by
  obtain ⟨a, cap, rfl, h1, h2, h0, h3, h4⟩ := h
  exact h3

/-- The cells of the i-th one. -/
theorem MsgsAt.at {w : World} {X : List Nat} {a : Option Addr} {n cap : Nat} {ms : List Mg} (h : MsgsAt w X (.slice a n cap) ms) (i : Nat) (hi : i < ms.length) :
    ∃ g off, a = some ⟨g, off, none⟩ ∧ n = ms.length ∧ g < w.heap.size ∧ w.cell? ⟨g, off + i * 3, none⟩ = some (.int .i64 ms[i].f) ∧ w.cell? ⟨g, off + i * 3 + 1, none⟩ = some (.int .i64 ms[i].t) ∧ w.cell? ⟨g, off + i * 3 + 2, none⟩ = some ms[i].row := by
  obtain ⟨a', cap', hv, h1, h2, h0, h3, h4⟩ := h
  injection hv with e1 e2 e3
  subst e1; subst e2; subst e3
  obtain ⟨g, off, rfl, hg, hc⟩ := h4 (by intro e; rw [e] at hi; simp at hi)
  obtain ⟨m0, m1, m2⟩ := mcells_at ms i hi
  exact ⟨g, off, rfl, rfl, hg, hc _ _ m0, hc _ _ m1, hc _ _ m2⟩

theorem MsgsAt.cells {w : World} {X : List Nat} {a : Option Addr} {n c : Nat} {ms : List Mg} (h : MsgsAt w X (.slice a n c) ms) (hne : ms ≠ []) : ∀ ad, a = some ad → ∀ j u, (mcells ms)[j]? = some u → w.cell? (ad.add j) = some u := by
  obtain ⟨a', cap, hv, h1, h2, h0, h3, h4⟩ := h
  injection hv with e1 _ _
  subst e1
  obtain ⟨g, off, rfl, hg, hc⟩ := h4 hne
  rintro ad had j u hu
  obtain rfl := Option.some.inj had
  rw [Addr.add_lit]
  exact hc j u hu

/-- What a message's cells are, each one alone. -/
theorem mcells_one (w : World) (X : List Nat) (ds : List Mg) (h : ∀ d ∈ ds, MgOk w X d) : ∀ u ∈ mcells ds, u.oneCell' = true := by
  intro u hu
  simp only [mcells, List.mem_flatMap] at hu
  obtain ⟨d, hd, hm⟩ := hu
  obtain ⟨a, c, hr, _⟩ := (h d hd).row
  simp at hm
  rcases hm with rfl | rfl | rfl
  · rfl
  · rfl
  · rw [hr]; rfl

/-- A type of messages, and that of a slice of them. -/
structure MT (E T : TypeId) : Prop where
  und : Try.prog.underlying T = some (.slice E)
  elem : Try.prog.elem T = E
  inf : (Try.prog.info? E).map (fun i => (i.zero, i.size, i.bytes)) = some (some (.agg #[.int .i64 0, .int .i64 0, .slice none 0 0]), 3, 40)

theorem mtB : MT 33 39 := ⟨Try.underlying39, by kernel_rfl, by kernel_rfl⟩
theorem mtR : MT 31 22 := ⟨Try.underlying22, by kernel_rfl, by kernel_rfl⟩

/-- Messages of the call's own: the array is none of X. -/
structure Own (E : TypeId) (w : World) (B : Nat) (X : List Nat) (v : Value) (ms : List Mg) : Prop where
  row : w.ownsRow B E 3 v ms.length (mcells ms)
  ok : ∀ m ∈ ms, MgOk w X m
  off : ∀ k, v.ownBlock = some k → k ∉ X
  lt : ∀ k ∈ X, k < w.heap.size

theorem Own.nil (E : TypeId) (w : World) (B : Nat) : Own E w B [] (.slice none 0 0) [] := ⟨World.ownsRow_nil _ _ _ _, by simp, by simp, by simp⟩

theorem ownsRow_keep {w w' : World} {B : Nat} {e : TypeId} {s n : Nat} {v : Value} {xs : List Value} {S : List Nat} (h : w.ownsRow B e s v n xs) (k : Keeps S w w') (hs : ∀ b, v.ownBlock = some b → b ∉ S) : w'.ownsRow B e s v n xs := by
  rcases h.2 with ⟨rfl, h0⟩ | ⟨g, cap, cur, rfl, hb, hg, hnc, hcm, hcs, ht⟩
  · exact ⟨h.1, .inl ⟨rfl, h0⟩⟩
  · exact ⟨h.1, .inr ⟨g, cap, cur, rfl, hb, (k.block g (lt_of_block hg) (hs g rfl)).trans hg, hnc, hcm, hcs, ht⟩⟩

theorem ownsRow_base {w : World} {B B' : Nat} {e : TypeId} {s n : Nat} {v : Value} {xs : List Value} (h : w.ownsRow B e s v n xs) (hb : ∀ b, v.ownBlock = some b → B' ≤ b) : w.ownsRow B' e s v n xs := by
  rcases h.2 with ⟨rfl, h0⟩ | ⟨g, cap, cur, rfl, _, hg, hnc, hcm, hcs, ht⟩
  · exact ⟨h.1, .inl ⟨rfl, h0⟩⟩
  · exact ⟨h.1, .inr ⟨g, cap, cur, rfl, hb g rfl, hg, hnc, hcm, hcs, ht⟩⟩

theorem Own.keep {E : TypeId} {w w' : World} {B : Nat} {X S : List Nat} {v : Value} {ms : List Mg} (h : Own E w B X v ms) (k : Keeps S w w') (hx : ∀ b ∈ X, b ∉ S) (hv : ∀ b, v.ownBlock = some b → b ∉ S) : Own E w' B X v ms :=
  ⟨ownsRow_keep h.row k hv, fun m hm => (h.ok m hm).keep k hx, h.off, fun b hb => Nat.lt_of_lt_of_le (h.lt b hb) k.size⟩
theorem Own.later {E : TypeId} {w w' : World} {B : Nat} {X : List Nat} {v : Value} {ms : List Mg} (h : Own E w B X v ms) (k : Keeps [] w w') : Own E w' B X v ms := h.keep k (by simp) (by simp)
theorem Own.base {E : TypeId} {w : World} {B B' : Nat} {X : List Nat} {v : Value} {ms : List Mg} (h : Own E w B X v ms) (hb : ∀ b, v.ownBlock = some b → B' ≤ b) : Own E w B' X v ms := ⟨ownsRow_base h.row hb, h.ok, h.off, h.lt⟩
theorem Own.mono {E : TypeId} {w : World} {B : Nat} {X Y : List Nat} {v : Value} {ms : List Mg} (h : Own E w B X v ms) (hx : ∀ b ∈ X, b ∈ Y) (ho : ∀ k, v.ownBlock = some k → k ∉ Y) (hl : ∀ k ∈ Y, k < w.heap.size) : Own E w B Y v ms :=
  ⟨h.row, fun m hm => (h.ok m hm).mono hx, ho, hl⟩

theorem Own.shape {E : TypeId} {w : World} {B : Nat} {X : List Nat} {v : Value} {ms : List Mg} (h : Own E w B X v ms) : ∃ a c, v = .slice a ms.length c := ownsRow_slice3 h.row
where
  ownsRow_slice3 {w : World} {B : Nat} {e : TypeId} {s : Nat} {v : Value} {n : Nat} {xs : List Value} (h : w.ownsRow B e s v n xs) : ∃ a c, v = .slice a n c := by
    rcases h.2 with ⟨rfl, rfl⟩ | ⟨g, cap, cur, rfl, _⟩
    · exact ⟨none, 0, rfl⟩
    · exact ⟨_, cap, rfl⟩

theorem Own.blk {E : TypeId} {w : World} {B : Nat} {X : List Nat} {v : Value} {ms : List Mg} (h : Own E w B X v ms) : ∀ k, v.ownBlock = some k → B ≤ k ∧ k < w.heap.size := h.row.lt

theorem Own.at {E : TypeId} {w : World} {B : Nat} {X : List Nat} {v : Value} {ms : List Mg} (h : Own E w B X v ms) : MsgsAt w X v ms := by
  rcases h.row.2 with ⟨rfl, h0⟩ | ⟨g, cap, cur, rfl, hb, hg, hnc, hcm, hcs, ht⟩
  · rw [List.eq_nil_of_length_eq_zero h0]
    exact ⟨none, 0, rfl, by simp, by simp, fun _ => rfl, by simp, fun h => absurd rfl h⟩
  · refine ⟨_, cap, rfl, hnc, hcm, by simp, h.ok, fun _ => ⟨g, 0, rfl, lt_of_block hg, fun j u hu => ?_⟩⟩
    have := h.row.cells (g := g) rfl j u hu
    rw [Addr.add_lit] at this
    exact this

/-- Of a run of append: where the new row lies. -/
theorem run_append_rows {P : Program} (w : World) (B : Nat) (t ty e : TypeId) (i : TypeInfo) (z : Value) (size bytes : Nat) (ht : P.underlying t = some (.slice e)) (hi : P.info? e = some i) (hz : i.zero = some z)
    (hsize : i.size = size) (hby : i.bytes = bytes) (hzs : z.cells.size = size) (hsz : 0 < size) (v : Value) (n : Nat) (xs : List Value) (hown : w.ownsRow B e size v n xs)
    (A : Option Addr) (m c : Nat) (news : List Value) (hl : news.length = m * size) (hA : A = none → c = 0) (hmc : m ≤ c) (hnews : ∀ ad, A = some ad → ∀ j u, news[j]? = some u → w.cell? (ad.add j) = some u) (h1 : ∀ u ∈ news, u.oneCell' = true)
    (hn : n + m ≤ maxLen) (hb : (n + m) * bytes ≤ 140737488355328) (hbase : B ≤ w.heap.size) :
    ∃ a' c' w', (Builtin.append_ #[t, t] ty #[v, .slice A m c]).run P w = .ok (.slice a' (n + m) c') w' ∧ w'.ownsRow B e size (.slice a' (n + m) c') (n + m) (xs ++ news) ∧ w.grownBy w' v.ownBlock ∧ NewRow w v (.slice a' (n + m) c') := by
  cases A with
  | none =>
    obtain rfl := hA rfl
    obtain rfl : m = 0 := by omega
    have hb : news = [] := List.eq_nil_of_length_eq_zero (by simpa using hl)
    subst hb
    have hrun := run_append_owned_none (P := P) (w := w) B t ty e i size ht hi v n xs hown
    obtain ⟨a', c', rfl⟩ := Own.shape.ownsRow_slice3 hown
    refine ⟨a', c', w, ?_, by simpa using hown, ⟨rfl, rfl, rfl, Nat.le_refl _, fun _ _ _ => rfl⟩, Or.inl rfl⟩
    simpa using hrun
  | some ad =>
    obtain ⟨v', w', hr, ho, hg, _⟩ := run_append_own (P := P) w B t ty e i z size bytes ht hi hz hsize hby hzs hsz v n xs hown ad m c news hl (hnews ad rfl) h1 hn hb hbase
    obtain ⟨a', c', rfl⟩ := Own.shape.ownsRow_slice3 ho
    refine ⟨a', c', w', hr, ho, hg, ?_⟩
    rcases hown.2 with ⟨rfl, rfl⟩ | ⟨g, cap, cur, rfl, _, hgg, hnc, hcm, hcs, htake⟩
    · right
      have hx : xs = [] := List.eq_nil_of_length_eq_zero (by simpa using hown.1)
      subst hx
      obtain ⟨v2, w2, hr2, ho2, _⟩ := run_append_own (P := P) w w.heap.size t ty e i z size bytes ht hi hz hsize hby hzs hsz (.slice none 0 0) 0 [] (World.ownsRow_nil _ _ _ _) ad m c news hl (hnews ad rfl) h1 hn hb (Nat.le_refl _)
      rw [hr] at hr2
      injection hr2 with e1 e2
      subst e1; subst e2
      exact fun k hk => (ho2.lt k hk).1
    · by_cases hroom : n + m ≤ cap
      · left
        have hr2 := run_append_room (P := P) w t ty e i ht hi g n cap cur hgg ad m c news (by rw [hsize]; exact hl) (hnews ad rfl) h1 hroom (by rw [hsize, hl, hcs, ← Nat.add_mul]; exact Nat.mul_le_mul_right _ hroom)
        rw [hr] at hr2
        injection hr2 with e1 e2
        injection e1 with e1 _ _
        subst e1; rfl
      · right
        have hsmall : n + m ≤ 9223372036854775807 := by simp only [maxLen] at hn; omega
        have hr2 := run_append_grow (P := P) w t ty e i z ht hi hz ⟨g, 0, none⟩ n cap xs (by rw [hsize]; exact hown.1) (hown.cells (g := g) rfl) ad m c news (by rw [hsize]; exact hl) (hnews ad rfl) (by omega) (by omega) (growslice_fits (by omega) (by rw [hby]; omega))
        rw [hr] at hr2
        injection hr2 with e1 e2
        injection e1 with e1 _ _
        subst e1
        intro k hk
        simp [Value.ownBlock] at hk
        omega

/-- append of messages onto messages of the call's own. -/
theorem append_msgs {E T : TypeId} (mt : MT E T) {w : World} {B : Nat} {X : List Nat} {v : Value} {ms es : List Mg} (h : Own E w B X v ms) (A : Option Addr) (n c : Nat) (hs : MsgsAt w X (.slice A n c) es) (hl : ms.length + es.length ≤ 100000) (hB : B ≤ w.heap.size) (ty : TypeId) :
    ∃ a' c' w', (Builtin.append_ #[T, T] ty #[v, .slice A n c]).run Try.prog w = .ok (.slice a' (ms.length + n) c') w' ∧ Own E w' B X (.slice a' (ms.length + n) c') (ms ++ es) ∧ Keeps v.ownBlock.toList w w' ∧ NewRow w v (.slice a' (ms.length + n) c') := by
  obtain ⟨i, hi, hz, hz3, hz40⟩ := info_parts mt.inf
  obtain ⟨a0, c0, hv0, h1, h2, h0, h3, h4⟩ := id hs
  injection hv0 with e1 e2 e3
  subst e1; subst e2; subst e3
  obtain ⟨a', c', w', hr, ho, hg, hn⟩ := run_append_rows (P := Try.prog) w B T ty E i _ 3 40 mt.und hi hz hz3 hz40 rfl (by omega) v ms.length (mcells ms) h.row A es.length c (mcells es) (mcells_length es) h0 h1
    (fun ad had j u hu => hs.cells (by rintro rfl; simp [mcells] at hu) ad had j u hu) (mcells_one w X es h3) (by unfold maxLen; omega) (by omega) hB
  have hk : Keeps v.ownBlock.toList w w' := (Keeps.refl _ _).grown hg (fun k hk => Or.inl (by simp [hk]))
  have hx : ∀ b ∈ X, b ∉ v.ownBlock.toList := fun b hb hm => by
    cases hv : v.ownBlock with
    | none => rw [hv] at hm; simp at hm
    | some k => rw [hv] at hm; simp at hm; subst hm; exact h.off _ hv hb
  refine ⟨a', c', w', hr, ⟨by rw [List.length_append, mcells_append]; exact ho, fun m hm => ?_, fun k hk2 hm => ?_, fun k hm => Nat.lt_of_lt_of_le (h.lt k hm) hk.size⟩, hk, hn⟩
  · rcases List.mem_append.1 hm with hm | hm
    · exact (h.ok m hm).keep hk hx
    · exact (h3 m hm).keep hk hx
  · rcases hn with hn | hn
    · exact h.off k (hn ▸ hk2) hm
    · have := hn k hk2
      have := h.lt k hm
      omega
end Go.Proofs.Ytkfebgbgnpdgpaa
