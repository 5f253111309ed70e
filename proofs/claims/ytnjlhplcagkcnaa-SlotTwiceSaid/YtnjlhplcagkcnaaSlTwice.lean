/- A disk of slots dies, is opened, goes on and dies again: each row is whole or not there, as it was answered (the law SlotTwice): for every input the law returns true. No condition. First the walk, then the law. -/
import Derived.Test.YtnjlhplcagkcnaaSlR
import Derived.Deep.OwnRows
namespace Go.Proofs.Ytnjlhplcagkcnaa
open Go.RowKit Go.Shelf

def row3 (vs : Nat → Value) : List Value := (List.range 3).map vs
theorem row3_set (vs : Nat → Value) (i : Nat) (v : Value) : (row3 vs).toArray.setIfInBounds i v = (row3 (upd vs i v)).toArray := by
  rw [List.setIfInBounds_toArray]
  congr 1
  unfold row3
  apply List.ext_getElem?
  intro j
  by_cases e : j = i
  · subst e
    by_cases hj : j < 3
    · rw [List.getElem?_set_self (by simpa using hj)]; simp [hj]
    · rw [List.getElem?_eq_none (by simp; omega), List.getElem?_eq_none (by simp; omega)]
  · rw [List.getElem?_set_ne (fun h => e h.symm)]
    by_cases hj : j < 3
    · simp [hj, upd_ne _ _ e]
    · rw [List.getElem?_eq_none (by simp; omega), List.getElem?_eq_none (by simp; omega)]
theorem row3_at (vs : Nat → Value) (i : Nat) (h : i < 3) : (row3 vs).toArray[i]? = some (vs i) := by simp [row3, h]

/-- Go's ((x % 3) + 3) % 3. -/
theorem mod3 (x : Int) : ∃ kk : Nat, kk < 3 ∧ (wrap64 (x.tmod 3 + 3)).tmod 3 = (kk : Int) := by
  have h1 : x.tmod 3 < 3 := Int.tmod_lt_of_pos x (by omega)
  have h2 : -3 < x.tmod 3 := Int.lt_tmod_of_pos x (by omega)
  have h3 : wrap64 (x.tmod 3 + 3) = x.tmod 3 + 3 := by unfold wrap64; omega
  rw [h3, Int.tmod_eq_emod_of_nonneg (by omega)]
  exact ⟨((x.tmod 3 + 3) % 3).toNat, by omega, by omega⟩
theorem and31 {n : Int} (h : 0 ≤ n ∧ n ≤ 255) : ∃ N : Nat, N ≤ 31 ∧ bits BinOp.and IntKind.i64 n 31 = (N : Int) := by
  have hall : (List.range 256).all (fun k => bits BinOp.and IntKind.i64 (k : Int) 31 == ((k % 32 : Nat) : Int)) = true := by kernel_rfl
  obtain ⟨k, rfl⟩ := Int.eq_ofNat_of_zero_le h.1
  have := List.all_eq_true.1 hall k (by simp; omega)
  exact ⟨k % 32, by omega, by simpa using this⟩

abbrev Rws := List (Value × List Int)

/-- What stands behind any crash: each slot holds one of its rows, or is free where one of them is none. -/
def FinT (s : DS) (n : Nat) (rs : Nat → Rws) : Prop :=
  ∀ ch, ∃ hs' want', Reads (s.crashed ch) 1 hs' want' ∧ hs'.length = n ∧ ∀ j (h : j < hs'.length), ∃ r ∈ rs j, (hs'[j].used = true ∧ want' j = r.2 ∧ r.2 ≠ []) ∨ (hs'[j].used = false ∧ r.2 = [])
/-- Slot j has one row, and that is what it holds. -/
def CalmAt (hs : List Hd) (vs : Nat → Value) (rs : Nat → Rws) (want : Nat → List Int) (j : Nat) : Prop :=
  ∃ v x gk, vs j = .slice (some ⟨gk, 0, none⟩) 1 1 ∧ rs j = [(v, x)] ∧ ∀ h : j < hs.length, (hs[j].used = true ∧ want j = x ∧ x ≠ []) ∨ (hs[j].used = false ∧ x = [])
def Calm (hs : List Hd) (vs : Nat → Value) (rs : Nat → Rws) (want : Nat → List Int) : Prop := ∀ j, j < hs.length → CalmAt hs vs rs want j

theorem finT_calm {s : DS} {hs : List Hd} {vs : Nat → Value} {rs : Nat → Rws} {want : Nat → List Int} (R : Ready s 1 hs want) (C : Calm hs vs rs want) : FinT s hs.length rs := fun ch => by
  refine ⟨hs, want, R.crash ch, rfl, fun j hj => ?_⟩
  obtain ⟨v, x, gk, _, e, h⟩ := C j hj
  exact ⟨(v, x), by rw [e]; simp, h hj⟩
theorem finT_put {s' : DS} {hs : List Hd} {vs : Nat → Value} {rs : Nat → Rws} {want : Nat → List Int} (C : Calm hs vs rs want) (k : Nat) (hk : k < hs.length) (key b : List Int) (rv : Value) (hb : b ≠ [])
    (R : ∀ ch, Reads (s'.crashed ch) 1 hs want ∨ Reads (s'.crashed ch) 1 (hs.set k ⟨true, b.length, key⟩) (upd want k b)) : FinT s' hs.length (upd rs k (rs k ++ [(rv, b)])) := fun ch => by
  rcases R ch with r | r
  · refine ⟨hs, want, r, rfl, fun j hj => ?_⟩
    obtain ⟨v, x, gk, _, e, h⟩ := C j hj
    refine ⟨(v, x), ?_, h hj⟩
    by_cases ej : j = k
    · subst ej; rw [upd_same, e]; simp
    · rw [upd_ne _ _ ej, e]; simp
  · refine ⟨_, _, r, by rw [List.length_set], fun j hj => ?_⟩
    rw [List.length_set] at hj
    obtain ⟨v, x, gk, _, e, h⟩ := C j hj
    by_cases ej : j = k
    · subst ej
      refine ⟨(rv, b), by rw [upd_same]; simp, .inl ?_⟩
      rw [List.getElem_set_self, upd_same]
      exact ⟨rfl, rfl, hb⟩
    · refine ⟨(v, x), by rw [upd_ne _ _ ej, e]; simp, ?_⟩
      rw [List.getElem_set_ne (fun h => ej h.symm), upd_ne _ _ ej]
      exact h hj
theorem finT_clear {s' : DS} {hs : List Hd} {vs : Nat → Value} {rs : Nat → Rws} {want : Nat → List Int} (C : Calm hs vs rs want) (k : Nat) (hk : k < hs.length) (rv : Value)
    (R : ∀ ch, Reads (s'.crashed ch) 1 hs want ∨ Reads (s'.crashed ch) 1 (hs.set k hd0) want) : FinT s' hs.length (upd rs k (rs k ++ [(rv, [])])) := fun ch => by
  rcases R ch with r | r
  · refine ⟨hs, want, r, rfl, fun j hj => ?_⟩
    obtain ⟨v, x, gk, _, e, h⟩ := C j hj
    refine ⟨(v, x), ?_, h hj⟩
    by_cases ej : j = k
    · subst ej; rw [upd_same, e]; simp
    · rw [upd_ne _ _ ej, e]; simp
  · refine ⟨_, _, r, by rw [List.length_set], fun j hj => ?_⟩
    rw [List.length_set] at hj
    obtain ⟨v, x, gk, _, e, h⟩ := C j hj
    by_cases ej : j = k
    · subst ej
      refine ⟨(rv, []), by rw [upd_same]; simp, .inr ?_⟩
      rw [List.getElem_set_self]
      exact ⟨rfl, rfl⟩
    · refine ⟨(v, x), by rw [upd_ne _ _ ej, e]; simp, ?_⟩
      rw [List.getElem_set_ne (fun h => ej h.symm)]
      exact h hj
theorem calm_put {hs : List Hd} {vs : Nat → Value} {rs : Nat → Rws} {want : Nat → List Int} (C : Calm hs vs rs want) (k : Nat) (key b : List Int) (rv : Value) (gk : Nat) (hb : b ≠ []) :
    Calm (hs.set k ⟨true, b.length, key⟩) (upd vs k (.slice (some ⟨gk, 0, none⟩) 1 1)) (upd rs k [(rv, b)]) (upd want k b) := fun j hj => by
  rw [List.length_set] at hj
  by_cases ej : j = k
  · subst ej
    refine ⟨rv, b, gk, by rw [upd_same], by rw [upd_same], fun h => .inl ?_⟩
    rw [List.getElem_set_self, upd_same]
    exact ⟨rfl, rfl, hb⟩
  · obtain ⟨v, x, gk', e1, e, h⟩ := C j hj
    refine ⟨v, x, gk', by rw [upd_ne _ _ ej, e1], by rw [upd_ne _ _ ej, e], fun _ => ?_⟩
    rw [List.getElem_set_ne (fun h => ej h.symm), upd_ne _ _ ej]
    exact h hj
theorem calm_clear {hs : List Hd} {vs : Nat → Value} {rs : Nat → Rws} {want : Nat → List Int} (C : Calm hs vs rs want) (k : Nat) (rv : Value) (gk : Nat) :
    Calm (hs.set k hd0) (upd vs k (.slice (some ⟨gk, 0, none⟩) 1 1)) (upd rs k [(rv, [])]) want := fun j hj => by
  rw [List.length_set] at hj
  by_cases ej : j = k
  · subst ej
    refine ⟨rv, [], gk, by rw [upd_same], by rw [upd_same], fun h => .inr ?_⟩
    rw [List.getElem_set_self]
    exact ⟨rfl, rfl⟩
  · obtain ⟨v, x, gk', e1, e, h⟩ := C j hj
    refine ⟨v, x, gk', by rw [upd_ne _ _ ej, e1], by rw [upd_ne _ _ ej, e], fun _ => ?_⟩
    rw [List.getElem_set_ne (fun h => ej h.symm)]
    exact h hj

/-- Blocks that no deed writes. -/
def Far (F : List Nat) (q g gm b : Nat) : Prop := b ∉ F ∧ b ≠ q ∧ b ≠ g ∧ b ≠ gm

/-- v is a row of rows. -/
structure MayRow (w : World) (ok : Nat → Prop) (v : Value) (rs : Rws) : Prop where
  at_ : ∃ gk cap cs, v = .slice (some ⟨gk, 0, none⟩) rs.length cap ∧ rs.length ≤ cap ∧ w.heap[gk]? = some (.cells cs 23 (0, 0)) ∧ (∀ j (h : j < rs.length), cs[j]? = some rs[j].1) ∧ ok gk
  rows : ∀ r ∈ rs, RowAt w r.1 r.2 ∧ (∀ a n c, r.1 = .slice (some a) n c → ok a.block ∧ a.block < w.heap.size) ∧ r.2.length ≤ 1000
  few : rs.length ≤ 2
theorem MayRow.keep {w w' : World} {ok ok' : Nat → Prop} {v : Value} {rs : Rws} {S : List Nat} (h : MayRow w ok v rs) (k : Keeps S w w') (hS : ∀ b, ok b → b < w.heap.size → b ∉ S ∧ ok' b) : MayRow w' ok' v rs := by
  obtain ⟨gk, cap, cs, e1, e2, e3, e4, e5⟩ := h.at_
  have hl := lt_of_block e3
  refine ⟨⟨gk, cap, cs, e1, e2, (k.block gk hl (hS gk e5 hl).1).trans e3, e4, (hS gk e5 hl).2⟩, fun r hr => ?_, h.few⟩
  obtain ⟨h1, h2, h3⟩ := h.rows r hr
  refine ⟨h1.keep k (fun ad n c e _ => (hS _ (h2 ad n c e).1 (h2 ad n c e).2).1), fun a n c e => ⟨(hS _ (h2 a n c e).1 (h2 a n c e).2).2, ?_⟩, h3⟩
  have := (h2 a n c e).2
  have := k.size
  omega
theorem MayRow.one {w : World} {ok : Nat → Prop} {rv : Value} {xs : List Int} (h : RowAt w rv xs) (h2 : ∀ a n c, rv = .slice (some a) n c → ok a.block ∧ a.block < w.heap.size) (h3 : xs.length ≤ 1000) (hk : ok w.heap.size) :
    MayRow (w.alloc (.cells #[rv] 23)) ok (.slice (some ⟨w.heap.size, 0, none⟩) 1 1) [(rv, xs)] := by
  refine ⟨⟨w.heap.size, 1, #[rv], rfl, by simp, heap_alloc_new w _, fun j hj => ?_, hk⟩, fun r hr => ?_, by simp⟩
  · simp at hj
    subst hj
    rfl
  · simp at hr
    subst hr
    refine ⟨h.keep ((Keeps.refl [] w).alloc _) (by intro _ _ _ _ _; simp), fun a n c e => ⟨(h2 a n c e).1, ?_⟩, h3⟩
    have := (h2 a n c e).2
    simp
    omega
theorem MayRow.cell {w : World} {ok : Nat → Prop} {v : Value} {rs : Rws} {gk n cap : Nat} (h : MayRow w ok v rs) (e : v = .slice (some ⟨gk, 0, none⟩) n cap) (j : Nat) (hj : j < rs.length) : w.cell? ⟨gk, j, none⟩ = some rs[j].1 := by
  obtain ⟨gk', cap', cs, e1, e2, e3, e4, e5⟩ := h.at_
  rw [e1] at e
  injection e with e _ _
  injection e with e
  injection e with e
  subst e
  rw [cell_of_row _ _ j _ _ (0, 0) e3]
  exact e4 j hj

/-- The state of the law. -/
structure Tw (W w : World) (q p g gm : Nat) (hs : List Hd) (s : DS) (F : List Nat) (K : Nat) (vs : Nat → Value) (rs : Nat → Rws) : Prop where
  sl : SlNew W w q p g 1 hs s F K
  three : hs.length = 3
  cnt : s.cnt = 25
  m3 : w.heap[gm]? = some (.cells (row3 vs).toArray 34 (0, 0))
  may : ∀ k, k < 3 → MayRow w (Far F q g gm) (vs k) (rs k)
  new : W.heap.size ≤ gm
  off : gm ∉ F ∧ gm ≠ q ∧ gm ≠ g

section
variable {W w w' : World} {q p g gm : Nat} {hs : List Hd} {s : DS} {F : List Nat} {K : Nat} {vs : Nat → Value} {rs : Nat → Rws}
theorem Tw.keep (h : Tw W w q p g gm hs s F K vs rs) (k : Keeps [] w w') : Tw W w' q p g gm hs s F K vs rs :=
  ⟨h.sl.keep k, h.three, h.cnt, (k.block _ (lt_of_block h.m3) (by simp)).trans h.m3, fun j hj => (h.may j hj).keep k fun b hb _ => ⟨by simp, hb⟩, h.new, h.off⟩
theorem Tw.mono {K' : Nat} (h : Tw W w q p g gm hs s F K vs rs) (k : K ≤ K') : Tw W w q p g gm hs s F K' vs rs :=
  ⟨⟨h.sl.at_.mono k, h.sl.new, h.sl.kept⟩, h.three, h.cnt, h.m3, h.may, h.new, h.off⟩
theorem Tw.cm (h : Tw W w q p g gm hs s F K vs rs) (k : Nat) (hk : k < 3) : w.cell? ⟨gm, k, none⟩ = some (vs k) := by rw [cell_of_row _ _ k _ _ (0, 0) h.m3]; exact row3_at _ _ hk
theorem Tw.fm (h : Tw W w q p g gm hs s F K vs rs) (k : Nat) : w.frozen? ⟨gm, k, none⟩ = false := by simp [World.frozen?, h.m3]
theorem Tw.far (h : Tw W w q p g gm hs s F K vs rs) (b : Nat) (hb : w.heap.size ≤ b) : Far F q g gm b := by
  have h1 := h.sl.at_.sl.ltq
  have h2 := h.sl.at_.sl.ltg
  have h3 := lt_of_block h.m3
  refine ⟨fun hm => ?_, by omega, by omega, by omega⟩
  obtain ⟨m, dm⟩ := h.sl.at_.dk.dm
  have := dm.lt _ hm
  omega
/-- A deed on the slots, the law's own rows not yet written. -/
theorem Tw.post {hs' : List Hd} {s' : DS} {K' : Nat} {er : Int} {e : Ending} (h : Tw W w q p g gm hs s F K vs rs) (hp : SlPost w q p g 1 hs' s' F K' er e w') (h3 : hs'.length = 3) (hc : s'.cnt = 25) :
    e = .returned (.int .i64 er) ∧ ∃ F', Tw W w' q p g gm hs' s' F' K' vs rs ∧ Keeps (g :: F) w w' ∧ Fresh w F F' := by
  have hlm := lt_of_block h.m3
  obtain ⟨rfl, F', h1', h2', h3'⟩ := hp
  obtain ⟨n1, n2, n3⟩ := h.sl.new
  have fr : ∀ b, b < w.heap.size → b ∉ F → b ∉ F' := fun b hb hn hm => by
    rcases h3' b hm with h4 | h4
    · exact hn h4
    · omega
  refine ⟨rfl, F', ⟨⟨h1', ⟨n1, n2, fun b hb => ?_⟩, h.sl.kept.trans' h2' (fun i hi hm => ?_)⟩, h3, hc, (h2'.block _ hlm (fun hm => ?_)).trans h.m3, fun j hj => (h.may j hj).keep h2' fun b hb hl => ⟨fun hm => ?_, fr b hl hb.1, hb.2.1, hb.2.2.1, hb.2.2.2⟩, h.new, fr gm hlm h.off.1, h.off.2⟩, h2', h3'⟩
  · rcases h3' b hb with h4 | h4
    · exact n3 b h4
    · have := h.sl.kept.size; omega
  · simp only [List.mem_cons] at hm
    rcases hm with hm | hm
    · omega
    · have := n3 i hm; omega
  · rcases List.mem_cons.1 hm with hm | hm
    · exact h.off.2.2 hm
    · exact h.off.1 hm
  · rcases List.mem_cons.1 hm with hm | hm
    · exact hb.2.2.1 hm
    · exact hb.1 hm
/-- A slot's rows are others. -/
theorem Tw.lay (h : Tw W w q p g gm hs s F K vs rs) (k : Nat) (v : Value) (r : Rws) (hr : MayRow w (Far F q g gm) v r) : Tw W (w.setCell ⟨gm, k, none⟩ v) q p g gm hs s F K (upd vs k v) (upd rs k r) := by
  have kS : Keeps [gm] w (w.setCell ⟨gm, k, none⟩ v) := (Keeps.refl _ _).setCell (Or.inl (by simp)) _
  have hn := h.new
  have kr : ∀ {v' : Value} {r' : Rws}, MayRow w (Far F q g gm) v' r' → MayRow (w.setCell ⟨gm, k, none⟩ v) (Far F q g gm) v' r' := fun h => h.keep kS fun b hb _ => ⟨by simp; exact hb.2.2.2, hb⟩
  refine ⟨⟨h.sl.at_.keep kS (by simp; exact fun e => h.off.2.1 e.symm) (by simp; exact fun e => h.off.2.2 e.symm) (fun b hb hm => by simp at hm; subst hm; exact h.off.1 hb), h.sl.new, h.sl.kept.trans' kS (fun i hi hm => by simp at hm; omega)⟩, h.three, h.cnt, ?_, fun j hj => ?_, h.new, h.off⟩
  · rw [heap_setCell_same _ _ _ _ _ _ h.m3, row3_set]
  · by_cases e : j = k
    · subst e; rw [upd_same, upd_same]; exact kr hr
    · rw [upd_ne _ _ e, upd_ne _ _ e]; exact kr (h.may j hj)
/-- Other slots of another disk, both new. -/
theorem Tw.turn {q2 p2 g2 K2 : Nat} {hs2 : List Hd} {s2 : DS} {F2 : List Nat} (h : Tw W w q p g gm hs s F K vs rs) (k : Keeps [] w w') (S : SlAt w' q2 p2 g2 1 hs2 s2 F2 K2) (hq : w.heap.size ≤ q2) (hg : w.heap.size ≤ g2) (hF : ∀ b ∈ F2, w.heap.size ≤ b)
    (h3 : hs2.length = 3) (hc : s2.cnt = 25) : Tw W w' q2 p2 g2 gm hs2 s2 F2 K2 vs rs := by
  have hz := h.sl.kept.size
  have hm := lt_of_block h.m3
  refine ⟨⟨S, ⟨by omega, by omega, fun b hb => by have := hF b hb; omega⟩, h.sl.kept.trans k⟩, h3, hc, (k.block _ hm (by simp)).trans h.m3, fun j hj => (h.may j hj).keep k fun b hb hl => ⟨by simp, fun hmm => ?_, by omega, by omega, hb.2.2.2⟩, h.new, fun hmm => ?_, by omega, by omega⟩
  · have := hF b hmm; omega
  · have := hF gm hmm; omega
end

/-- A row that the law made: one byte ahead of zs. -/
theorem own_one (W : World) (c : Int) : (W.alloc (.cells #[.int .u8 c] 5)).ownsRow W.heap.size 5 1 (.slice (some ⟨W.heap.size, 0, none⟩) 1 1) 1 [.int .u8 c] :=
  ⟨rfl, .inr ⟨_, 1, _, rfl, Nat.le_refl _, heap_alloc_new _ _, Nat.le_refl _, by unfold maxLen; omega, rfl, rfl⟩⟩
theorem row_cons {w : World} {B n c : Nat} {a : Option Addr} {x : Int} {zs : List Int} (hx : 0 ≤ x ∧ x ≤ 255) (hz : ∀ z ∈ zs, 0 ≤ z ∧ z ≤ 255) (hn : n = (x :: zs).length) (h : w.ownsRow B 5 1 (.slice a n c) n ([.int .u8 x] ++ zs.map (Value.int .u8))) :
    RowAt w (.slice a (x :: zs).length c) (x :: zs) ∧ ∃ g, a = some ⟨g, 0, none⟩ ∧ B ≤ g ∧ g < w.heap.size := by
  subst hn
  refine ⟨row_of_own (zs := x :: zs) (by simpa using h) (fun z hm => ?_), ?_⟩
  · rcases List.mem_cons.1 hm with rfl | hm
    · exact hx
    · exact hz z hm
  · rcases h.2 with ⟨e, h0⟩ | ⟨g, cap, cur, e, hb, hg, _⟩
    · simp at h0
    · injection e with e _ _
      exact ⟨g, e, hb, lt_of_block hg⟩
theorem exec_appT {ρ : Operand → Value} {o : Oper} {w w' : World} {v u z : Value} (t : TypeId) (x y : Operand) (ho : o.op = .call { callee := .builtin .append, args := #[x, y], argTypes := #[t, t] }) (hx : ρ x = u) (hy : ρ y = z) (h : (Builtin.append_ #[t, t] o.type #[u, z]).run Try.prog w = .ok v w') : (execOp ρ o).run Try.prog w = .ok (.value v) w' := by
  simp [execOp, ho, resolve, invoke, builtin, hx, hy, h, Result.andThen]

theorem infoRowT : (Try.prog.info? 23).map (fun i => (i.zero, i.size, i.bytes)) = some (some (.slice none 0 0), 1, 24) := by kernel_rfl
/-- A row is appended to the one that there is. -/
theorem app_two {w : World} {ok : Nat → Prop} {gk : Nat} {v rv : Value} {x xs : List Int} (h : MayRow w ok (.slice (some ⟨gk, 0, none⟩) 1 1) [(v, x)]) (hr : RowAt w rv xs) (h2 : ∀ a n c, rv = .slice (some a) n c → ok a.block ∧ a.block < w.heap.size) (h3 : xs.length ≤ 1000)
    (hk : ok (w.heap.size + 1)) (ty : TypeId) :
    ∃ c w', (Builtin.append_ #[34, 34] ty #[.slice (some ⟨gk, 0, none⟩) 1 1, .slice (some ⟨w.heap.size, 0, none⟩) 1 1]).run Try.prog (w.alloc (.cells #[rv] 23)) = .ok (.slice (some ⟨w.heap.size + 1, 0, none⟩) 2 c) w' ∧
      MayRow w' ok (.slice (some ⟨w.heap.size + 1, 0, none⟩) 2 c) [(v, x), (rv, xs)] ∧ Keeps [] w w' := by
  obtain ⟨ie, hie, hz, hs, hb⟩ := info_parts infoRowT
  have k1 : Keeps [] w (w.alloc (.cells #[rv] 23)) := (Keeps.refl [] w).alloc _
  have c0 : (w.alloc (.cells #[rv] 23)).cell? ⟨gk, 0, none⟩ = some v := k1.cell (h.cell rfl 0 (by simp)) (by simp)
  have hrun := run_append_grow (P := Try.prog) (w := w.alloc (.cells #[rv] 23)) 34 ty 23 ie _ Try.underlying34 hie hz ⟨gk, 0, none⟩ 1 1 [v] (by rw [hs]; rfl)
    (fun j u hu => by
      rw [Addr.add_lit]
      match j with
      | 0 => simp at hu; subst hu; simpa using c0
      | j + 1 => simp at hu) ⟨w.heap.size, 0, none⟩ 1 1 [rv] (by rw [hs]; rfl) (fun j u hu => by rw [Addr.add_lit]; match j with | 0 => (simp at hu; subst hu; exact cell_of_row _ _ 0 _ _ (0, 0) (heap_alloc_new w _)) | j + 1 => simp at hu) (by omega) (by omega) (growslice_fits (by omega) (by rw [hb]; omega))
  have hge := grownCap_ge (w.alloc (.cells #[rv] 23)) 2 1 23
  simp only [show (1 : Nat) + 1 = 2 from rfl] at hrun
  generalize grownCap (w.alloc (.cells #[rv] 23)) 2 1 23 = c at hge hrun
  have hsz : (w.alloc (.cells #[rv] 23)).heap.size = w.heap.size + 1 := by simp
  rw [hsz] at hrun
  have nb := heap_alloc_new (w.alloc (.cells #[rv] 23)).drew (.cells ([v].toArray ++ [rv].toArray ++ Builtin.zeroCells (Value.slice none 0 0).cells (c - 2)) 23)
  have hsz2 : (w.alloc (.cells #[rv] 23)).drew.heap.size = w.heap.size + 1 := hsz
  rw [hsz2] at nb
  have k2 : Keeps [] w ((w.alloc (.cells #[rv] 23)).drew.alloc (.cells ([v].toArray ++ [rv].toArray ++ Builtin.zeroCells (Value.slice none 0 0).cells (c - 2)) 23)) := k1.drew.alloc _
  refine ⟨c, _, hrun, ⟨⟨w.heap.size + 1, c, _, rfl, hge, nb, fun j hj => ?_, hk⟩, fun r hr' => ?_, by simp⟩, k2⟩
  · match j with
    | 0 => rw [Array.getElem?_append_left (by simp)]; rfl
    | 1 => rw [Array.getElem?_append_left (by simp)]; rfl
    | j + 2 => exact absurd hj (by simp)
  · have hr0 : RowAt w r.1 r.2 ∧ (∀ a n c, r.1 = .slice (some a) n c → ok a.block ∧ a.block < w.heap.size) ∧ r.2.length ≤ 1000 := by
      simp at hr'
      rcases hr' with rfl | rfl
      · exact h.rows _ (by simp)
      · exact ⟨hr, h2, h3⟩
    obtain ⟨g1, g2, g3⟩ := hr0
    refine ⟨g1.keep k2 (by intro _ _ _ _ _; simp), fun a n c e => ⟨(g2 a n c e).1, ?_⟩, g3⟩
    have := (g2 a n c e).2
    have := k2.size
    omega

/-- Get, of a slot that holds xg, or nothing. -/
theorem getX_any (w : World) (q p g : Nat) (hs : List Hd) (s : DS) (F : List Nat) (K : Nat) (H : SlAt w q p g 1 hs s F K) (m : Nat) (hm : m < hs.length) (hd : s.dead = false) (want : Nat → List Int) (R : Reads s 1 hs want) (xg : List Int)
    (hxg : xg = if hs[m].used then want m else []) (hne : hs[m].used = decide (0 < xg.length)) :
    Calls Try.prog 15 #[.pointer (some ⟨q, 0, none⟩), .int .i64 m] w fun e w' => ∃ a c er, e = .returned (.tuple #[.slice a xg.length c, .int .i64 er]) ∧ RowAt w' (.slice a xg.length c) xg ∧ (∀ b n c', (.slice a xg.length c : Value) = .slice (some b) n c' → w.heap.size ≤ b.block ∧ b.block < w'.heap.size) ∧ xg.length ≤ 1000 ∧ Keeps [] w w' := by
  cases hu : hs[m].used with
  | true =>
    rw [hu] at hxg hne
    have hpos : 0 < xg.length := by simpa using hne.symm
    have hgb : getB s (1 + m * 8) hs[m].held = xg := by rw [R.holds m hm hu, hxg]; rfl
    refine (callsIn_wide.1 (get_in 9 (by omega) w q p g 1 hs s F K H m (1 + m * 8) rfl hm hu hd)).mono ?_
    rintro e w' ⟨v, rfl, rb, nb, k⟩
    rw [hgb] at rb
    have hle : xg.length ≤ 1000 := by rw [← hgb]; unfold getB; rw [List.length_take, imageL_len]; omega
    obtain ⟨a, cap, rfl, -, -, -, -, h5⟩ := id rb
    refine ⟨a, cap, 0, rfl, rb, fun b n c' e => ?_, hle, k⟩
    injection e with e _ _
    subst e
    refine ⟨nb _ rfl, ?_⟩
    have hc := h5 b rfl 0 (.int .u8 xg[0]) (by simp [List.getElem?_eq_getElem hpos])
    have := World.block_lt_of_cell? _ _ hc
    rwa [Addr.add_block] at this
  | false =>
    rw [hu] at hxg hne
    have hx : xg = [] := by rw [hxg]; rfl
    have ht : takeE hs m = 6 := by
      unfold takeE
      rw [show hasS hs m = true by simp [hasS, hm], usedS, headS_at hm, hu]; rfl
    have gn := lGet_no w q p g 1 hs H.sl m (by rw [ht]; decide)
    rw [ht] at gn
    refine gn.mono ?_
    rintro e w' ⟨rfl, k⟩
    subst hx
    exact ⟨none, 0, 6, rfl, RowAt.nil w', (fun b n c' e => by cases e), by simp, k⟩
theorem FinT.got {hs : List Hd} {want : Nat → List Int} {rs : Nat → Rws} {m : Nat} (hm : m < hs.length) (h : ∃ r ∈ rs m, (hs[m].used = true ∧ want m = r.2 ∧ r.2 ≠ []) ∨ (hs[m].used = false ∧ r.2 = [])) :
    ∃ xg, xg = (if hs[m].used then want m else []) ∧ hs[m].used = decide (0 < xg.length) ∧ (∃ r ∈ rs m, xg = r.2) ∧ ((hs[m].used = true ∧ want m = xg ∧ xg ≠ []) ∨ (hs[m].used = false ∧ xg = [])) := by
  obtain ⟨r, hr, ⟨h1, h2, h3⟩ | ⟨h1, h2⟩⟩ := h
  · refine ⟨want m, by rw [h1]; rfl, ?_, ⟨r, hr, h2⟩, .inl ⟨h1, rfl, by rw [h2]; exact h3⟩⟩
    rw [h1, h2]
    symm
    simpa using List.length_pos_iff.2 h3
  · exact ⟨[], by rw [h1]; rfl, by rw [h1]; rfl, ⟨r, hr, h2.symm⟩, .inr ⟨h1, rfl⟩⟩
/-- How far a row was found. -/
def hasX (xg : List Int) (r : Rws) (j : Nat) : Bool := (r.take j).any fun x => decide (xg = x.2)
theorem hasX_succ (xg : List Int) (r : Rws) (j : Nat) (hj : j < r.length) : hasX xg r (j + 1) = (hasX xg r j || decide (xg = r[j].2)) := by
  unfold hasX
  rw [List.take_succ_eq_append_getElem hj, List.any_append]
  simp
theorem hasX_all (xg : List Int) (r : Rws) (h : ∃ x ∈ r, xg = x.2) : hasX xg r r.length = true := by
  obtain ⟨x, hx, e⟩ := h
  unfold hasX
  rw [List.take_length, List.any_eq_true]
  exact ⟨x, hx, by simpa using e⟩
end Go.Proofs.Ytnjlhplcagkcnaa

namespace Go.Proofs.Ytnjlhplcagkcnaa
open Go.RowKit Go.Shelf

theorem infoRows : (Try.prog.info? 34).map (fun i => (i.zero, i.size, i.bytes)) = some (some (.slice none 0 0), 1, 24) := by kernel_rfl
theorem made3 : madeCells #[Value.slice none 0 0] 3 = (row3 fun _ => Value.slice none 0 0).toArray := by
  apply Array.ext'
  rw [toList_madeCells_one]
  rfl
theorem quiet_d {P : Program} {f : FuncId} {args : Array Value} {w : World} {n : Nat} {v : Value}
    (h : Calls P f args (w.drewN n) fun e w' => e = .returned v ∧ w.drewN n = w') : Calls P f args (w.drewN n) fun e w'' => e = .returned v ∧ ∃ m, w'' = w.drewN m :=
  h.mono fun _ _ ⟨he, hm⟩ => ⟨he, n, hm.symm⟩

/-- While the law's rows are laid. -/
def IniAt (w2 wr : World) (gm k : Nat) (vs : Nat → Value) : Prop :=
  Keeps [] w2 wr ∧ wr.heap[gm]? = some (.cells (row3 vs).toArray 34 (0, 0)) ∧ ∀ j, j < k → (∃ gk, vs j = .slice (some ⟨gk, 0, none⟩) 1 1) ∧ MayRow wr (fun b => gm < b) (vs j) [(.slice none 0 0, [])]

/-- Between two rounds. -/
def TwRel (W w : World) (q p gm n r : Nat) : Prop :=
  ∃ g hs s F vs rs want, Tw W w q p g gm hs s F ((n + 1) * 80 * r) vs rs ∧ s.dead = false ∧ Ready s 1 hs want ∧ Calm hs vs rs want

/-- Between two deeds. -/
def TdRel (W w : World) (q p g gm b k : Nat) : Prop :=
  ∃ hs s F vs rs want, Tw W w q p g gm hs s F (b + k) vs rs ∧ ((s.dead = false ∧ Ready s 1 hs want ∧ Calm hs vs rs want) ∨ (s.dead = true ∧ FinT s 3 rs))

set_option maxRecDepth 100000 in
set_option maxHeartbeats 12800000 in
theorem twice_any (w : World) (v : Value) (ds : List D5) (h : D5sAt w v ds) (f0 f1 : Int) (hf0 : 0 ≤ f0 ∧ f0 ≤ 255) (hf1 : 0 ≤ f1 ∧ f1 ≤ 255) (cv : Value) (ch : List Int) (hcv : RowAt w cv ch) :
    Calls Try.prog 4 #[v, .agg #[.int .u8 f0, .int .u8 f1], cv] w fun e w' => e = .returned (.bool true) ∧ Keeps [] w w' := by
  have H := hid h
  have CV := hid hcv
  obtain ⟨a, cap, rfl, hh⟩ := id h
  obtain ⟨ca, cc, rfl, -⟩ := id hcv
  have mkM : ∀ w, (Instr.makeSlice 48 (.int .i64 3) (.int .i64 3)).run Try.prog w = .ok (.slice (some ⟨w.heap.size, 0, none⟩) 3 3) (w.alloc (.cells (madeCells #[.slice none 0 0] 3) 34)) := fun w =>
    run_make_row' (P := Try.prog) 48 34 (.slice none 0 0) 24 Try.underlying48 infoRows rfl .i64 .i64 3 (by omega) (by omega) w
  obtain ⟨i0, hi, hz0, hz1, hz2⟩ := info_parts info5
  clear hh h hcv
  go_enter Try.func4, Try.ntmps4
  go_wp2_with fail
  have kf : Keeps [] w (w.alloc (.cells #[.int .u8 f0, .int .u8 f1] 47)) := (Keeps.refl [] w).alloc _
  have bf := heap_alloc_new w (.cells #[.int .u8 f0, .int .u8 f1] 47)
  have KFB := hid kf
  have BF := hid bf
  clear kf bf
  generalize w.alloc (.cells #[.int .u8 f0, .int .u8 f1] 47) = wa at KFB BF ⊢
  generalize w.heap.size = fb at BF ⊢
  refine (awake5_any wa).mono ?_
  rintro e w0 ⟨rfl, k0⟩
  have BF0 : Hid (w0.heap[fb]? = some (.cells #[.int .u8 f0, .int .u8 f1] 47 (0, 0))) := hid ((k0.block _ (lt_of_block BF.out) (by simp)).trans BF.out)
  have k0' := KFB.out.trans k0
  have K0 := hid k0'
  have H0 := hid (H.out.keep k0')
  have CV0 := hid (CV.out.keep k0' (by intro _ _ _ _ _; simp))
  clear k0 k0'
  go_wp2_with fail
  refine (room5_any w0 _ ds H0.out 40 (by omega)).mono ?_
  rintro e _ ⟨rb, rfl, rfl, hroom⟩
  cases rb with
  | false =>
    go_wp2_with fail
    go_ret
    exact ⟨rfl, K0.out⟩
  | true =>
    have RM := hid (hroom rfl)
    clear hroom
    by_cases hc : 100 < ch.length
    · have hc' : (100 : Int) < (ch.length : Int) := by omega
      go_wp2_with fail
      go_ret
      exact ⟨rfl, K0.out⟩
    · have hc' : ¬ (100 : Int) < (ch.length : Int) := by omega
      go_wp2_with fail
      refine (newAt_any 25 (by omega) (by omega) w0).mono ?_
      rintro e w1 ⟨p, F1, rfl, d1, l1, k1⟩
      have D1 := hid d1
      have L1 := hid l1
      have K1 := hid k1
      clear d1 l1 k1
      go_wp2_with fail
      refine (lOpen_good w1 p (blankS 25) F1 0 D1.out 1 3 (by show 1 ≤ 25; omega) rfl rfl (blank_good 25 1 3)).mono ?_
      rintro e w2 ⟨q, g, rfl, H2, n1, n2, k2⟩
      rw [blank_heads] at H2
      have S2 : Hid (SlNew w0 w2 q p g 1 (List.replicate 3 hd0) (blankS 25) F1 0) := hid ⟨H2, ⟨by have := K1.out.size; omega, by have := K1.out.size; omega, L1.out⟩, K1.out.trans k2⟩
      clear H2 n1 n2 k2 D1 L1 K1
      have RY : Hid (Ready (blankS 25) 1 (List.replicate 3 hd0) fun _ => []) := hid ⟨rfl, rfl, Reads.blank 25 1 3 (by omega) _⟩
      have CN : Hid ((blankS 25).cnt = 25 ∧ (blankS 25).dead = false) := hid ⟨rfl, rfl⟩
      generalize blankS 25 = s0 at S2 RY CN
      have HL : Hid ((List.replicate 3 hd0).length = 3 ∧ ∀ j (h : j < (List.replicate 3 hd0).length), (List.replicate 3 hd0)[j].used = false) := hid ⟨rfl, fun j hj => by rw [List.getElem_replicate]; rfl⟩
      generalize List.replicate 3 hd0 = hs0 at S2 RY HL
      have LC : Hid (∀ wx, Keeps [] w2 wx → Calls Try.prog 10 #[.pointer (some ⟨q, 0, none⟩)] wx fun e w' => e = .returned (.int .i64 3) ∧ wx = w') := hid (fun wx kx => by
        have := lCount_any wx q p g 1 hs0 (S2.out.keep kx).at_.sl
        rw [HL.out.1] at this
        exact this)
      go_wp2_with fail
      refine (LC.out w2 (Keeps.refl _ _)).mono ?_
      rintro e _ ⟨rfl, rfl⟩
      go_wp2_with fail
      have kA : Keeps [] w2 (w2.alloc (.cells (madeCells #[.slice none 0 0] 3) 34)) := (Keeps.refl [] w2).alloc _
      have gA := heap_alloc_new w2 (.cells (madeCells #[.slice none 0 0] 3) 34)
      rw [made3] at gA
      have KA := hid kA
      have GA := hid gA
      have hgmz : w0.heap.size ≤ w2.heap.size := S2.out.kept.size
      have hSQ := S2.out.at_.sl.ltq
      have hSG := S2.out.at_.sl.ltg
      have hSF : ∀ b ∈ F1, b < w2.heap.size := by
        obtain ⟨m, dm⟩ := S2.out.at_.dk.dm
        exact fun b hb => dm.lt _ hb
      have HSF := hid hSF
      clear kA gA hSF
      rw [made3] at KA ⊢
      generalize w2.alloc (.cells (row3 fun _ => Value.slice none 0 0).toArray 34) = w3 at KA GA ⊢
      have HGM : Hid (w0.heap.size ≤ w2.heap.size ∧ q < w2.heap.size ∧ g < w2.heap.size) := hid ⟨hgmz, hSQ, hSG⟩
      clear hgmz hSQ hSG
      obtain ⟨gm, hgm⟩ : ∃ x, x = w2.heap.size := ⟨_, rfl⟩
      rw [← hgm] at GA HGM HSF ⊢
      have GMH := hid hgm
      clear hgm
      go_loopw [12] (fun i wr => ∃ (k : Nat) (vs : Nat → Value), k ≤ 3 ∧ i = .int .i64 k ∧ IniAt w2 wr gm k vs) (fun i _ => 3 - (intOf i).toNat)
      case atStart => exact ⟨0, _, by omega, rfl, KA.out, GA.out, fun j hj => by omega⟩
      case round =>
        obtain ⟨k, vs, hk, rfl, hI⟩ := hrel
        have I := hid hI
        clear hI
        go_wp2_with fail
        refine (LC.out wr I.out.1).mono ?_
        rintro e _ ⟨rfl, rfl⟩
        by_cases hk3 : k < 3
        · have hk3' : (k : Int) < 3 := by omega
          have I2 := I.out.2.1
          have gmlt := lt_of_block I2
          have ka : Keeps [] wr (wr.alloc (.cells #[.slice none 0 0] 23)) := (Keeps.refl [] wr).alloc _
          have ba := (ka.block gm gmlt (by simp)).trans I2
          have ca1 : (wr.alloc (.cells #[.slice none 0 0] 23)).cell? ⟨gm, k, none⟩ = some (vs k) := by rw [cell_of_row _ _ k _ _ (0, 0) ba]; exact row3_at _ _ hk3
          have fa1 : (wr.alloc (.cells #[.slice none 0 0] 23)).frozen? ⟨gm, k, none⟩ = false := by simp [World.frozen?, ba]
          have NEW : Hid (IniAt w2 ((wr.alloc (.cells #[.slice none 0 0] 23)).setCell ⟨gm, k, none⟩ (.slice (some ⟨wr.heap.size, 0, none⟩) 1 1)) gm (k + 1) (upd vs k (.slice (some ⟨wr.heap.size, 0, none⟩) 1 1))) := hid (by
            have kS : Keeps [gm] (wr.alloc (.cells #[.slice none 0 0] 23)) ((wr.alloc (.cells #[.slice none 0 0] 23)).setCell ⟨gm, k, none⟩ (.slice (some ⟨wr.heap.size, 0, none⟩) 1 1)) := (Keeps.refl _ _).setCell (Or.inl (by simp)) _
            refine ⟨(I.out.1.alloc _).trans' kS (fun i hi hm => by have := GMH.out; simp at hm; omega), by rw [heap_setCell_same _ _ _ _ _ _ ba, row3_set], fun j hj => ?_⟩
            by_cases e : j = k
            · subst e
              rw [upd_same]
              exact ⟨⟨_, rfl⟩, (MayRow.one (ok := fun b => gm < b) (RowAt.nil wr) (fun _ _ _ e => by cases e) (by simp) gmlt).keep kS fun b hb _ => ⟨by simp; omega, hb⟩⟩
            · rw [upd_ne _ _ e]
              obtain ⟨h1, h2⟩ := I.out.2.2 j (by omega)
              exact ⟨h1, (h2.keep ka (ok' := fun b => gm < b) fun b hb _ => ⟨by simp, hb⟩).keep kS fun b hb _ => ⟨by simp; omega, hb⟩⟩)
          clear I2 ka ba gmlt
          go_wp2_with fail
          go_roundw
          case rel => exact ⟨k + 1, _, by omega, by go_num, NEW.out⟩
          case measure => simp [intOf]; omega
        · have : k = 3 := by omega
          subst this
          have hk3' : ¬ ((3 : Nat) : Int) < 3 := by omega
          have T0 : TwRel w0 wr q p gm ds.length 0 := by
            obtain ⟨i1, i2, i3⟩ := I.out
            refine ⟨g, hs0, s0, F1, vs, fun _ => [(.slice none 0 0, [])], fun _ => [], ⟨⟨(S2.out.keep i1).at_.mono (by omega), S2.out.new, (S2.out.keep i1).kept⟩, HL.out.1, CN.out.1, i2, fun j hj => (i3 j hj).2.keep (Keeps.refl [] wr) fun b hb _ => ⟨by simp, fun hm => ?_, ?_, ?_, ?_⟩, ?_, fun hm => ?_, ?_, ?_⟩, CN.out.2, RY.out, fun j hj => ?_⟩
            · have := HSF.out b hm; have := GMH.out; omega
            · have := HGM.out; have := GMH.out; omega
            · have := HGM.out; have := GMH.out; omega
            · omega
            · have := HGM.out; omega
            · have := HSF.out gm hm; have := GMH.out; omega
            · have := HGM.out; omega
            · have := HGM.out; omega
            · rw [HL.out.1] at hj
              obtain ⟨gk, hgk⟩ := (i3 j hj).1
              exact ⟨_, _, gk, hgk, rfl, fun h => .inr ⟨HL.out.2 j h, rfl⟩⟩
          have TT := hid T0
          clear T0 S2 RY CN HL LC KA GA HSF HGM GMH I
          go_wp2_with fail
          go_loopw [7, 9, 13] (fun d s i wr => ∃ (r q p : Nat), r ≤ 2 ∧ i = .int .i64 r ∧ d = .pointer (some ⟨p, 0, none⟩) ∧ s = .pointer (some ⟨q, 0, none⟩) ∧ TwRel w0 wr q p gm ds.length r) (fun _ _ i _ => 2 - (intOf i).toNat)
          case atStart => exact ⟨0, q, p, by omega, rfl, rfl, rfl, TT.out⟩
          case round =>
            obtain ⟨r, q, p, hr, rfl, rfl, rfl, g, hs, s, F, vs, rs, want, tw, hdd, hry, hcalm⟩ := hrel
            by_cases hr2 : r < 2
            · have hr2' : (r : Int) < 2 := by omega
              have TWH := hid tw
              have HDD := hid hdd
              have RY := hid hry
              have CA := hid hcalm
              clear tw hdd hry hcalm
              obtain ⟨fr, hfr, cfr⟩ : ∃ fr : Int, (0 ≤ fr ∧ fr ≤ 255) ∧ w0.cell? ⟨fb, r, none⟩ = some (.int .u8 fr) := by
                have h2 : r = 0 ∨ r = 1 := by omega
                rcases h2 with rfl | rfl
                · exact ⟨f0, hf0, by rw [cell_of_row _ _ 0 _ _ (0, 0) BF0.out]; rfl⟩
                · exact ⟨f1, hf1, by rw [cell_of_row _ _ 1 _ _ (0, 0) BF0.out]; rfl⟩
              have cfr2 := TWH.out.sl.kept.cell cfr (by simp)
              obtain ⟨N, hN, eN⟩ := and31 hfr
              clear cfr
              go_wp2_with fail
              obtain ⟨bk, hbk⟩ : ∃ x, x = (ds.length + 1) * 80 * r := ⟨_, rfl⟩
              rw [← hbk] at TWH
              refine (fuseAt_any wr p _ F _ TWH.out.sl.at_.dk N (by omega)).mono ?_
              rintro e w4 ⟨rfl, d4, k4⟩
              have hbl : bk ≤ 41 * 80 * 1 := by rw [hbk]; exact Nat.mul_le_mul (Nat.mul_le_mul (by have := RM.out.1; omega) (Nat.le_refl _)) (by omega)
              have BK := hid hbk
              have T4 : Hid (TdRel w0 w4 q p g gm bk 0) := hid (by
                have A := TWH.out
                obtain ⟨n1, n2, n3⟩ := A.sl.new
                have e1 : (fuseS s N).cnt = s.cnt := by unfold fuseS; split <;> rfl
                have e2 : (fuseS s N).dead = s.dead := by unfold fuseS; split <;> rfl
                refine ⟨hs, fuseS s N, F, vs, rs, want, ⟨⟨⟨A.sl.at_.sl.keep k4 A.sl.at_.hq A.sl.at_.hg, d4, A.sl.at_.hq, A.sl.at_.hg, by rw [e1]; exact A.sl.at_.fit⟩, A.sl.new, A.sl.kept.trans' k4 fun i hi hm => ?_⟩, A.three, e1.trans A.cnt, (k4.block _ (lt_of_block A.m3) A.off.1).trans A.m3, fun j hj => (A.may j hj).keep k4 fun b hb _ => ⟨hb.1, hb⟩, A.new, A.off⟩, .inl ⟨e2.trans HDD.out, RY.out.fuse N, CA.out⟩⟩
                have := n3 i hm; omega)
              clear d4 k4 cfr2 TWH HDD RY CA hbk
              go_wp2_with fail
              go_loopw [14] (fun i wr => ∃ (k : Nat), k ≤ ds.length ∧ i = .int .i64 k ∧ TdRel w0 wr q p g gm bk (k * 80)) (fun i _ => ds.length - (intOf i).toNat)
              case atStart => exact ⟨0, by omega, rfl, by rw [Nat.zero_mul]; exact T4.out⟩
              case round =>
                obtain ⟨k, hk, rfl, hs, s, F, vs, rs, want, hA, hst⟩ := hrel
                have A := hid hA
                clear hA
                by_cases hlt : k < ds.length
                · have hlt' : (k : Int) < (ds.length : Int) := by omega
                  rcases hst with ⟨hdd, hry, hcm⟩ | ⟨hdd, hfin⟩
                  · go_wp2_with fail
                    have dd := deadAt_any wr p s F _ A.out.sl.at_.dk
                    rw [hdd] at dd
                    refine dd.mono ?_
                    rintro e _ ⟨rfl, rfl⟩
                    have HDD := hid hdd
                    have RY := hid hry
                    have CM := hid hcm
                    clear dd hdd hry hcm
                    obtain ⟨dg, off, dcap, hde, hcp, hd⟩ : ∃ dg off dcap, a = some ⟨dg, off, none⟩ ∧ cap = dcap ∧ ∀ i (h : i < ds.length), D5At w0 dg (off + i * 5) ds[i] := by
                      obtain ⟨a', c', e, _, _, _, h3⟩ := H0.out
                      obtain ⟨g', o', rfl, h4⟩ := h3 (by rintro rfl; simp at hlt)
                      injection e with e1 _ e2
                      exact ⟨g', o', c', e1, e2, h4⟩
                    subst hde
                    subst hcp
                    have DD := hid ((hd k hlt).keep A.out.sl.kept)
                    have DD0 := hid (hd k hlt)
                    have hmem : ds[k] ∈ ds := List.getElem_mem hlt
                    have hdgw : dg < w0.heap.size := World.block_lt_of_cell? w0 _ (hd k hlt).c0
                    generalize ds[k] = d at DD DD0 hmem
                    have hb600 : d.b.length ≤ 600 := (RM.out.2 d hmem).2
                    have c1 := DD.out.c1
                    have b1 := DD.out.b1
                    obtain ⟨kk, hkk, hke⟩ := mod3 d.i
                    have hk3 : kk < hs.length := by rw [A.out.three]; exact hkk
                    have hkt : (kk : Int) < 3 := by omega
                    have CQ : Hid (∀ n, Calls Try.prog 10 #[.pointer (some ⟨q, 0, none⟩)] (wr.drewN n) fun e w' => e = .returned (.int .i64 3) ∧ wr.drewN n = w') := hid fun n => by
                      have := lCount_any (wr.drewN n) q p g 1 hs (A.out.keep ((Keeps.refl [] wr).drewN n)).sl.at_.sl
                      rw [A.out.three] at this
                      exact this
                    clear hd hmem
                    go_wp2_with fail
                    go_quiet ((go_at_call 10; exact quiet_d (CQ.out _)))
                    have A4 := hid (A.out.keep ((Keeps.refl [] wr).drewN nq))
                    have DD4 := hid (DD.out.keep ((Keeps.refl [] wr).drewN nq))
                    generalize wr.drewN nq = w4 at A4 DD4 ⊢
                    clear c1 CQ hke b1
                    have c4 := DD4.out.c4
                    obtain ⟨ba, bc, hbv, -⟩ := DD4.out.rb
                    rw [hbv] at c4
                    have c4a : (w4.alloc (.cells #[.int .u8 1] 5)).cell? ⟨dg, off + k * 5 + 4, none⟩ = some (.slice ba d.b.length bc) := ((Keeps.refl [] w4).alloc _).cell c4 (by simp)
                    have HO := hid (own_one w4 1)
                    have HR2 := hid (DD4.out.rb.keep ((Keeps.refl [] w4).alloc (.cells #[.int .u8 1] 5)) (by intro _ _ _ _ _; simp))
                    rw [hbv] at HR2
                    have HBV := hid hbv
                    clear hbv c4
                    go_wp2_with (at_builtin; refine wpList_append_row rfl _ _ 23 rfl w4.heap.size 5 i0 (.int .u8 0) Try.underlying23 hi hz0 hz1 hz2 rfl (.slice (some ⟨w4.heap.size, 0, none⟩) 1 1) 1 [.int .u8 1] rfl HO.out _ d.b rfl HR2.out (by omega) (by simp) ?_; intro a' c' w5 k1 k2 k3; refine Hid.out ?_)
                    refine hid ?_
                    have KK := (((Keeps.refl [] w4).alloc (.cells #[.int .u8 1] 5)).grown k2.out (by intro j hj; simp [Value.ownBlock] at hj; omega))
                    have RWC := row_cons (x := 1) (zs := d.b) (by omega) DD0.out.rb.bytes (by simp [Nat.add_comm]) k1.out
                    have hl : 1 + d.b.length = (1 :: d.b).length := by simp [Nat.add_comm]
                    rw [hl]
                    obtain ⟨xs, hxs⟩ : ∃ xs, xs = 1 :: d.b := ⟨_, rfl⟩
                    rw [← hxs] at RWC ⊢
                    have hxl : xs.length ≤ 601 := by rw [hxs]; simp; omega
                    have hxne : xs ≠ [] := by rw [hxs]; simp
                    have XNE := hid hxne
                    clear hxs hl k1 k2 k3 HO HR2 c4a hxne
                    obtain ⟨hrow, gr, rfl, hgr, hgr2⟩ := RWC
                    have RW := hid hrow
                    have GR := hid (And.intro hgr hgr2)
                    have A5 := hid (A4.out.keep KK)
                    have DD5 := hid (DD4.out.keep KK)
                    have W4 := hid KK
                    have FARG := hid (A4.out.far gr hgr)
                    clear hrow hgr hgr2 KK A4 DD4
                    have c0 := DD5.out.c0
                    have c3 := DD5.out.c3
                    obtain ⟨ka, kc, hkv, -⟩ := DD5.out.rk
                    rw [hkv] at c3
                    have HKV := hid hkv
                    clear hkv
                    by_cases hput : d.act ≤ 4 ∧ xs.length ≤ 448 ∧ d.key.length ≤ 40 ∧ hs[kk].used = false
                    · as_aux_lemma =>
                        obtain ⟨h4, hxl4, hkl, huk⟩ := hput
                        have hxl' : (xs.length : Int) ≤ 448 := by omega
                        have hkl' : (d.key.length : Int) ≤ 40 := by omega
                        have us := lUsed_any w5 q p g 1 hs A5.out.sl.at_.sl kk
                        rw [usedS, headS_at hk3, huk] at us
                        have US := hid us
                        have HUK := hid huk
                        clear us huk
                        go_wp2_with fail
                        refine US.out.mono ?_
                        rintro e _ ⟨rfl, rfl⟩
                        clear US
                        go_wp2_with fail
                        have offK : Off F d.kv d.key := A5.out.sl.off DD0.out.rk
                        have rk5 := DD5.out.rk
                        rw [HKV.out] at offK rk5
                        have offB : Off F (.slice (some ⟨gr, 0, none⟩) xs.length c') xs := fun ad n c e _ hm => by
                          injection e with e _ _
                          injection e with e
                          subst e
                          exact FARG.out.1 hm
                        have hDk : k * 80 ≤ 60 * 80 := by have := RM.out.1; omega
                        refine (lPut_any w5 q p g 1 hs s F (bk + k * 80) A5.out.sl.at_ (by omega) (kk : Int) _ d.key rk5 offK _ xs RW.out offB).mono ?_
                        intro e w6 hp
                        have pcnt := putS_cnt hs 1 s kk d.key xs
                        rw [A5.out.cnt] at pcnt
                        have PE := put_die RY.out HDD.out kk hk3 HUK.out d.key xs hkl hxl4 DD0.out.rk.bytes RW.out.bytes
                        have PL : (putH hs 1 s kk d.key xs).length = 3 := by
                          rcases PE with ⟨_, e, _⟩ | ⟨_, e, _⟩ <;> rw [e]
                          · rw [List.length_set]; exact A5.out.three
                          · exact A5.out.three
                        obtain ⟨rfl, F6, D6h, kp, fr6⟩ := A5.out.post hp PL pcnt
                        have RW6 : Hid (RowAt w6 (.slice (some ⟨gr, 0, none⟩) xs.length c') xs) := hid (RW.out.keep kp (fun ad n c e _ hm => by
                          injection e with e _ _
                          injection e with e
                          subst e
                          rcases List.mem_cons.1 hm with hm | hm
                          · exact FARG.out.2.2.1 hm
                          · exact FARG.out.1 hm))
                        have FR6 : Hid (Far F6 q g gm gr ∧ gr < w6.heap.size) := hid ⟨⟨fun hm => by
                          rcases fr6 gr hm with h | h
                          · exact FARG.out.1 h
                          · have := GR.out.2; omega, FARG.out.2⟩, by have := GR.out.2; have := kp.size; omega⟩
                        have D6 := hid D6h
                        obtain ⟨v0, x0, gk, hvs, hrs, -⟩ := CM.out kk hk3
                        have cm6 := D6.out.cm kk hkk
                        rw [hvs] at cm6
                        have HVS := hid hvs
                        have HRS := hid hrs
                        clear hvs hrs D6h hp kp fr6 offK offB rk5 PL pcnt RW FARG
                        have LD : ∀ a n c, (.slice (some ⟨gr, 0, none⟩) xs.length c' : Value) = .slice (some a) n c → Far F6 q g gm a.block ∧ a.block < w6.heap.size := fun a n c e => by
                          injection e with e _ _
                          injection e with e
                          subst e
                          exact FR6.out
                        rcases PE with ⟨p1, p2, p3, p4⟩ | ⟨p1, p2, p3, p4⟩
                        · have P2 := hid p2
                          have P3 := hid p3
                          have P4 := hid p4
                          rw [p1]
                          clear p1 p2 p3 p4
                          have D7 := hid (D6.out.keep ((Keeps.refl [] w6).alloc (.cells #[.slice (some ⟨gr, 0, none⟩) xs.length c'] 23)))
                          have cm7 := D7.out.cm kk hkk
                          rw [HVS.out] at cm7
                          have fm7 := D7.out.fm kk
                          have D8 := hid (D7.out.lay kk (.slice (some ⟨w6.heap.size, 0, none⟩) 1 1) [(.slice (some ⟨gr, 0, none⟩) xs.length c', xs)] (MayRow.one RW6.out LD (by omega) (D6.out.far _ (Nat.le_refl _))))
                          have NEW : Hid (TdRel w0 ((w6.alloc (.cells #[.slice (some ⟨gr, 0, none⟩) xs.length c'] 23)).setCell ⟨gm, kk, none⟩ (.slice (some ⟨w6.heap.size, 0, none⟩) 1 1)) q p g gm bk ((k + 1) * 80)) := hid (by
                            refine ⟨_, _, _, _, _, upd want kk xs, D8.out.mono (by omega), .inl ⟨P3.out, ?_, ?_⟩⟩
                            · rw [P2.out]; exact P4.out
                            · rw [P2.out]; exact calm_put CM.out kk d.key xs _ _ XNE.out)
                          clear D8 cm6
                          go_wp2_with fail
                          go_roundw
                          case rel => exact ⟨k + 1, by omega, by go_num, NEW.out⟩
                          case measure => simp [intOf]; omega
                        · have P3 := hid p3
                          have P4 := hid p4
                          rw [p1]
                          clear p1 p2 p3 p4
                          have MR := D6.out.may kk hkk
                          rw [HVS.out, HRS.out] at MR
                          obtain ⟨c2, w7, hrun, hmr, k7⟩ := app_two MR RW6.out LD (by omega) (D6.out.far _ (by omega)) 34
                          have D7 := hid (D6.out.keep k7)
                          have cm7 := D7.out.cm kk hkk
                          rw [HVS.out] at cm7
                          have fm7 := D7.out.fm kk
                          have cm6a : (w6.alloc (.cells #[.slice (some ⟨gr, 0, none⟩) xs.length c'] 23)).cell? ⟨gm, kk, none⟩ = some (.slice (some ⟨gk, 0, none⟩) 1 1) := ((Keeps.refl [] w6).alloc _).cell cm6 (by simp)
                          have D8 := hid (D7.out.lay kk _ _ (hmr.keep (Keeps.refl [] w7) fun b hb _ => ⟨by simp, hb⟩))
                          have FT := finT_put CM.out kk hk3 d.key xs (.slice (some ⟨gr, 0, none⟩) xs.length c') XNE.out P4.out
                          rw [HRS.out, A5.out.three] at FT
                          have NEW : Hid (TdRel w0 (w7.setCell ⟨gm, kk, none⟩ (.slice (some ⟨w6.heap.size + 1, 0, none⟩) 2 c2)) q p g gm bk ((k + 1) * 80)) := hid
                            ⟨_, _, _, _, _, want, D8.out.mono (by omega), .inr ⟨P3.out, FT⟩⟩
                          clear D8 FT hmr k7 MR
                          go_wp2_with (at_builtin; refine wpList_is rfl _ _ (exec_appT 34 _ _ rfl rfl rfl hrun) ?_)
                          go_roundw
                          case rel => exact ⟨k + 1, by omega, by go_num, NEW.out⟩
                          case measure => simp [intOf]; omega
                    · as_aux_lemma =>
                        have NEWN : Hid (TdRel w0 w5 q p g gm bk ((k + 1) * 80)) := hid ⟨_, _, _, _, _, want, A5.out.mono (by omega), .inl ⟨HDD.out, RY.out, CM.out⟩⟩
                        have hDk : k * 80 ≤ 60 * 80 := by have := RM.out.1; omega
                        by_cases h6 : d.act = 6
                        · have h4 : ¬ d.act ≤ 4 := by omega
                          have t6 : (d.act == 6) = true := by simpa using h6
                          have HP := hid hput
                          clear hput
                          cases huk : hs[kk].used with
                          | false =>
                            have us := lUsed_any w5 q p g 1 hs A5.out.sl.at_.sl kk
                            rw [usedS, headS_at hk3, huk] at us
                            have US := hid us
                            have HUK := hid huk
                            clear us huk
                            go_wp2_with fail
                            refine US.out.mono ?_
                            rintro e _ ⟨rfl, rfl⟩
                            clear US
                            go_wp2_with fail
                            go_roundw
                            case rel => exact ⟨k + 1, by omega, by go_num, NEWN.out⟩
                            case measure => simp [intOf]; omega
                          | true =>
                            have us := lUsed_any w5 q p g 1 hs A5.out.sl.at_.sl kk
                            rw [usedS, headS_at hk3, huk] at us
                            have US := hid us
                            have HUK := hid huk
                            clear us huk
                            go_wp2_with fail
                            refine US.out.mono ?_
                            rintro e _ ⟨rfl, rfl⟩
                            clear US
                            go_wp2_with fail
                            have hDk : k * 80 ≤ 60 * 80 := by have := RM.out.1; omega
                            have TH := clear_die RY.out HDD.out kk hk3 HUK.out
                            refine (lClear_any w5 q p g 1 hs s F (bk + k * 80) A5.out.sl.at_ (by omega) (kk : Int)).mono ?_
                            intro e w6 hp
                            have pcnt := clearS_cnt hs 1 s kk
                            rw [A5.out.cnt] at pcnt
                            have PL : (clearH hs 1 s kk).length = 3 := by
                              rcases TH with ⟨_, e, _⟩ | ⟨_, e, _⟩ <;> rw [e]
                              · rw [List.length_set]; exact A5.out.three
                              · exact A5.out.three
                            obtain ⟨rfl, F6, D6h, -, -⟩ := A5.out.post hp PL pcnt
                            have D6 := hid D6h
                            obtain ⟨v0, x0, gk, hvs, hrs, -⟩ := CM.out kk hk3
                            have cm6 := D6.out.cm kk hkk
                            rw [hvs] at cm6
                            have HVS := hid hvs
                            have HRS := hid hrs
                            clear hvs hrs D6h hp PL pcnt
                            have LD : ∀ a n c, (.slice none 0 0 : Value) = .slice (some a) n c → Far F6 q g gm a.block ∧ a.block < w6.heap.size := fun a n c e => by cases e
                            rcases TH with ⟨p1, p2, p3, p4⟩ | ⟨p1, p2, p3, p4⟩
                            · have P2 := hid p2
                              have P3 := hid p3
                              have P4 := hid p4
                              rw [p1]
                              clear p1 p2 p3 p4
                              have D7 := hid (D6.out.keep ((Keeps.refl [] w6).alloc (.cells #[.slice none 0 0] 23)))
                              have cm7 := D7.out.cm kk hkk
                              rw [HVS.out] at cm7
                              have fm7 := D7.out.fm kk
                              have D8 := hid (D7.out.lay kk (.slice (some ⟨w6.heap.size, 0, none⟩) 1 1) [(.slice none 0 0, [])] (MayRow.one (RowAt.nil w6) LD (by simp) (D6.out.far _ (Nat.le_refl _))))
                              have NEW : Hid (TdRel w0 ((w6.alloc (.cells #[.slice none 0 0] 23)).setCell ⟨gm, kk, none⟩ (.slice (some ⟨w6.heap.size, 0, none⟩) 1 1)) q p g gm bk ((k + 1) * 80)) := hid (by
                                refine ⟨_, _, _, _, _, want, D8.out.mono (by omega), .inl ⟨P3.out, ?_, ?_⟩⟩
                                · rw [P2.out]; exact P4.out
                                · rw [P2.out]; exact calm_clear CM.out kk _ _)
                              clear D8 cm6
                              go_wp2_with fail
                              go_roundw
                              case rel => exact ⟨k + 1, by omega, by go_num, NEW.out⟩
                              case measure => simp [intOf]; omega
                            · have P3 := hid p3
                              have P4 := hid p4
                              rw [p1]
                              clear p1 p2 p3 p4
                              have MR := D6.out.may kk hkk
                              rw [HVS.out, HRS.out] at MR
                              obtain ⟨c2, w7, hrun, hmr, k7⟩ := app_two MR (RowAt.nil w6) LD (by simp) (D6.out.far _ (by omega)) 34
                              have D7 := hid (D6.out.keep k7)
                              have cm7 := D7.out.cm kk hkk
                              rw [HVS.out] at cm7
                              have fm7 := D7.out.fm kk
                              have cm6a : (w6.alloc (.cells #[.slice none 0 0] 23)).cell? ⟨gm, kk, none⟩ = some (.slice (some ⟨gk, 0, none⟩) 1 1) := ((Keeps.refl [] w6).alloc _).cell cm6 (by simp)
                              have D8 := hid (D7.out.lay kk _ _ (hmr.keep (Keeps.refl [] w7) fun b hb _ => ⟨by simp, hb⟩))
                              have FT := finT_clear CM.out kk hk3 (.slice none 0 0) P4.out
                              rw [HRS.out, A5.out.three] at FT
                              have NEW : Hid (TdRel w0 (w7.setCell ⟨gm, kk, none⟩ (.slice (some ⟨w6.heap.size + 1, 0, none⟩) 2 c2)) q p g gm bk ((k + 1) * 80)) := hid
                                ⟨_, _, _, _, _, want, D8.out.mono (by omega), .inr ⟨P3.out, FT⟩⟩
                              clear D8 FT hmr k7 MR
                              go_wp2_with (at_builtin; refine wpList_is rfl _ _ (exec_appT 34 _ _ rfl rfl rfl hrun) ?_)
                              go_roundw
                              case rel => exact ⟨k + 1, by omega, by go_num, NEW.out⟩
                              case measure => simp [intOf]; omega
                        · have t6 : (d.act == 6) = false := by simpa using h6
                          have hnone : (¬ d.act ≤ 4) ∨ (d.act ≤ 4 ∧ 448 < xs.length) ∨ (d.act ≤ 4 ∧ xs.length ≤ 448 ∧ 40 < d.key.length) ∨ (d.act ≤ 4 ∧ xs.length ≤ 448 ∧ d.key.length ≤ 40 ∧ hs[kk].used = true) := by
                            cases hu : hs[kk].used <;> simp only [hu] at hput ⊢ <;> simp at hput ⊢ <;> omega
                          clear hput
                          rcases hnone with h4 | ⟨h4, hx⟩ | ⟨h4, hx, hk40⟩ | ⟨h4, hx, hk40, huk⟩
                          · go_wp2_with fail
                            go_roundw
                            case rel => exact ⟨k + 1, by omega, by go_num, NEWN.out⟩
                            case measure => simp [intOf]; omega
                          · have hx' : ¬ (xs.length : Int) ≤ 448 := by omega
                            go_wp2_with fail
                            go_roundw
                            case rel => exact ⟨k + 1, by omega, by go_num, NEWN.out⟩
                            case measure => simp [intOf]; omega
                          · have hx' : (xs.length : Int) ≤ 448 := by omega
                            have hk40' : ¬ (d.key.length : Int) ≤ 40 := by omega
                            go_wp2_with fail
                            go_roundw
                            case rel => exact ⟨k + 1, by omega, by go_num, NEWN.out⟩
                            case measure => simp [intOf]; omega
                          · have hx' : (xs.length : Int) ≤ 448 := by omega
                            have hk40' : (d.key.length : Int) ≤ 40 := by omega
                            have us := lUsed_any w5 q p g 1 hs A5.out.sl.at_.sl kk
                            rw [usedS, headS_at hk3, huk] at us
                            have US := hid us
                            have HUK := hid huk
                            clear us huk
                            go_wp2_with fail
                            refine US.out.mono ?_
                            rintro e _ ⟨rfl, rfl⟩
                            clear US
                            go_wp2_with fail
                            go_roundw
                            case rel => exact ⟨k + 1, by omega, by go_num, NEWN.out⟩
                            case measure => simp [intOf]; omega
                  · go_wp2_with fail
                    have dd := deadAt_any wr p s F _ A.out.sl.at_.dk
                    rw [hdd] at dd
                    refine dd.mono ?_
                    rintro e _ ⟨rfl, rfl⟩
                    have FIN := hid hfin
                    clear dd hdd hfin
                    go_wp2_with fail
                    have hDk : k * 80 ≤ 60 * 80 := by have := RM.out.1; omega
                    refine (crash_any wr p s F _ A.out.sl.at_.dk (by omega) (.slice ca ch.length cc) ch (by omega) (CV0.out.keep A.out.sl.kept (by intro _ _ _ _ _; simp))).mono ?_
                    rintro e w5 ⟨pd, F5, rfl, d5, n5, k5⟩
                    obtain ⟨hs2, want2, RD, h32, HF⟩ := FIN.out ch
                    have cnt5 : (s.crashed ch).cnt = 25 := A.out.cnt
                    have RYc : Ready (s.crashed ch) 1 hs2 want2 := ⟨rfl, rfl, RD⟩
                    have hdead : (s.crashed ch).dead = false := rfl
                    generalize s.crashed ch = sc at d5 RD cnt5 RYc hdead
                    have hall : headsS sc 1 3 = hs2 := by have := RD.all; rw [h32] at this; exact this
                    have OP := lOpen_good w5 pd sc F5 _ d5 1 3 (by omega) (by omega) hdead (by have := RD.good; rw [h32] at this; exact this)
                    rw [hall] at OP
                    have OPH := hid OP
                    have RDH := hid RD
                    have HFH := hid HF
                    have H32 := hid h32
                    have SC := hid (And.intro RYc (And.intro hdead cnt5))
                    have N5 := hid n5
                    have K5 := hid k5
                    clear OP hall d5 n5 k5 RD HF h32 cnt5 RYc hdead
                    go_wp2_with fail
                    refine OPH.out.mono ?_
                    rintro e w6 ⟨q2, g2, rfl, t6, m1, m2, k6⟩
                    have A6 : Hid (Tw w0 w6 q2 pd g2 gm hs2 sc F5 (bk + k * 80) vs rs) := hid (A.out.turn (K5.out.trans k6) t6 (by have := K5.out.size; omega) (by have := K5.out.size; omega) N5.out H32.out SC.out.2.2)
                    clear t6 k6 OPH m1 m2
                    go_wp2_with fail
                    go_loopw [17] (fun i wz => ∃ (m : Nat) (vs2 : Nat → Value) (rs2 : Nat → Rws), m ≤ 3 ∧ i = .int .i64 m ∧ Tw w0 wz q2 pd g2 gm hs2 sc F5 (bk + k * 80) vs2 rs2 ∧ (∀ j, j < m → CalmAt hs2 vs2 rs2 want2 j) ∧ ∀ j, m ≤ j → rs2 j = rs j) (fun i _ => 3 - (intOf i).toNat)
                    case atStart => exact ⟨0, _, _, by omega, rfl, A6.out, fun j hj => by omega, fun j _ => rfl⟩
                    case round =>
                      obtain ⟨m, vs2, rs2, hm, rfl, hB, hcm, hrs⟩ := hrel
                      have B := hid hB
                      have CMM := hid hcm
                      have RSS := hid hrs
                      clear hB hcm hrs
                      have lc := lCount_any wr q2 pd g2 1 hs2 B.out.sl.at_.sl
                      rw [H32.out] at lc
                      have LC2 := hid lc
                      clear lc
                      go_wp2_with fail
                      refine LC2.out.mono ?_
                      rintro e _ ⟨rfl, rfl⟩
                      clear LC2
                      by_cases hm3 : m < 3
                      · as_aux_lemma =>
                          have hm3' : (m : Int) < ((3 : Nat) : Int) := by omega
                          have hm32 : m < hs2.length := by rw [H32.out]; exact hm3
                          obtain ⟨xg, hxg, hne, hin, hcl⟩ := FinT.got hm32 (HFH.out m hm32)
                          rw [← RSS.out m (Nat.le_refl _)] at hin
                          have GX := hid (getX_any wr q2 pd g2 hs2 sc F5 _ B.out.sl.at_ m hm32 SC.out.2.1 want2 RDH.out xg hxg hne)
                          have XU := hid hne
                          have XIN := hid hin
                          have XCL := hid hcl
                          clear hxg hne hin hcl
                          go_wp2_with fail
                          refine GX.out.mono ?_
                          rintro e w8 ⟨va, vc, er, rfl, rb, nb, hx1000, k8⟩
                          have RB := hid rb
                          have NB := hid nb
                          have B8 := hid (B.out.keep k8)
                          have FARB : Hid (∀ b n c', (.slice va xg.length vc : Value) = .slice (some b) n c' → Far F5 q2 g2 gm b.block ∧ b.block < w8.heap.size) := hid fun b n c' e => ⟨B.out.far _ (nb b n c' e).1, (nb b n c' e).2⟩
                          clear rb nb k8 GX NB
                          obtain ⟨gk, gcap, gcs, hvs2, hgl, -, -, -⟩ := (B8.out.may m hm3).at_
                          obtain ⟨L, hL⟩ : ∃ x, x = (rs2 m).length := ⟨_, rfl⟩
                          rw [← hL] at hvs2
                          have HL2 := hid hL
                          have hL2 : L ≤ 2 := by rw [hL]; exact (B8.out.may m hm3).few
                          have HV2 := hid hvs2
                          clear hL hvs2 hgl
                          go_wp2_with fail
                          go_loopw [20, 21] (fun o i wz => ∃ (j : Nat), j ≤ L ∧ i = .int .i64 j ∧ o = .bool (hasX xg (rs2 m) j) ∧ Keeps [] w8 wz) (fun _ i _ => L - (intOf i).toNat)
                          case atStart => exact ⟨0, by omega, rfl, rfl, Keeps.refl _ _⟩
                          case round =>
                            obtain ⟨j, hj, rfl, rfl, kj⟩ := hrel
                            have KJ := hid kj
                            clear kj
                            have B9 := hid (B8.out.keep KJ.out)
                            have cm9 := B9.out.cm m hm3
                            rw [HV2.out] at cm9
                            by_cases hjl : j < L
                            · as_aux_lemma =>
                                have hjl' : (j : Int) < (L : Int) := by omega
                                have hjr : j < (rs2 m).length := by rw [← HL2.out]; exact hjl
                                have MR := B9.out.may m hm3
                                have cj9 := MR.cell HV2.out j hjr
                                obtain ⟨rr, hrr⟩ : ∃ x, x = (rs2 m)[j] := ⟨_, rfl⟩
                                obtain ⟨hr1, -, hr3⟩ := MR.rows _ (List.getElem_mem hjr)
                                have hx1 := hasX_succ xg (rs2 m) j hjr
                                rw [← hrr] at cj9 hr1 hr3 hx1
                                clear hrr
                                obtain ⟨rv, rx⟩ := rr
                                obtain ⟨ra, rc, hrv, -⟩ := id hr1
                                have hrv' : rv = .slice ra rx.length rc := hrv
                                subst hrv'
                                have RR := hid hr1
                                have HX1 := hid hx1
                                have cj9' : wr.cell? ⟨gk, j, none⟩ = some (.slice ra rx.length rc) := cj9
                                have SM : Hid (∀ n, Calls Try.prog 16 #[.slice va xg.length vc, .slice ra rx.length rc] (wr.drewN n) fun e w'' => e = .returned (.bool (decide (xg = rx))) ∧ ∃ m, w'' = wr.drewN m) := hid fun n => by
                                  have kn : Keeps [] w8 (wr.drewN n) := KJ.out.drewN n
                                  refine (same_any (wr.drewN n) _ _ xg rx (RB.out.keep kn (by intro _ _ _ _ _; simp)) (RR.out.keep ((Keeps.refl [] wr).drewN n) (by intro _ _ _ _ _; simp)) (by omega) (by have : rx.length ≤ 1000 := hr3; omega)).mono ?_
                                  rintro e w' ⟨he, n', hw⟩
                                  exact ⟨he, n + n', by rw [hw, World.drewN_drewN]⟩
                                have UM : Hid (∀ n, Calls Try.prog 17 #[.pointer (some ⟨q2, 0, none⟩), .int .i64 m] (wr.drewN n) fun e w'' => e = .returned (.bool (decide (0 < xg.length))) ∧ wr.drewN n = w'') := hid fun n => by
                                  have := lUsed_any (wr.drewN n) q2 pd g2 1 hs2 (B9.out.keep ((Keeps.refl [] wr).drewN n)).sl.at_.sl m
                                  rw [usedS, headS_at hm32, XU.out] at this
                                  exact this
                                clear MR cj9 hr1 hx1 hrv hr3 hjr
                                cases hok : hasX xg (rs2 m) j with
                                | true =>
                                  have NEXT : Hid (hasX xg (rs2 m) (j + 1) = true) := hid (by rw [HX1.out, hok]; rfl)
                                  have HOK := hid hok
                                  clear hok
                                  go_wp2_with fail
                                  go_quiet (fail)
                                  have K10 := hid (KJ.out.drewN nq)
                                  generalize wr.drewN nq = wx at K10 ⊢
                                  go_wp2_with fail
                                  go_roundw
                                  case rel => exact ⟨j + 1, by omega, by go_num, by rw [NEXT.out], K10.out⟩
                                  case measure => simp [intOf]; omega
                                | false =>
                                  have HOK := hid hok
                                  clear hok
                                  by_cases hxe : xg = rx
                                  · have NEXT : Hid (hasX xg (rs2 m) (j + 1) = true) := hid (by rw [HX1.out, HOK.out, Bool.false_or]; simpa using hxe)
                                    have hde : decide (xg = rx) = true := by simpa using hxe
                                    rw [hde] at SM
                                    rw [hxe] at UM
                                    by_cases hpos : 0 < rx.length
                                    · have hpos' : (0 : Int) < (rx.length : Int) := by omega
                                      have hdp : decide (0 < rx.length) = true := by simpa using hpos
                                      rw [hdp] at UM
                                      have XE := hid hxe
                                      clear hxe hde hdp
                                      go_wp2_with fail
                                      go_quiet ((first | (go_at_call 16; exact SM.out _) | (go_at_call 17; exact quiet_d (UM.out _))))
                                      have K10 := hid (KJ.out.drewN nq)
                                      generalize wr.drewN nq = wx at K10 ⊢
                                      go_wp2_with fail
                                      go_roundw
                                      case rel => exact ⟨j + 1, by omega, by go_num, by rw [NEXT.out], K10.out⟩
                                      case measure => simp [intOf]; omega
                                    · have hpos' : ¬ (0 : Int) < (rx.length : Int) := by omega
                                      have hdp : decide (0 < rx.length) = false := by simpa using hpos
                                      rw [hdp] at UM
                                      have XE := hid hxe
                                      clear hxe hde hdp
                                      go_wp2_with fail
                                      go_quiet ((first | (go_at_call 16; exact SM.out _) | (go_at_call 17; exact quiet_d (UM.out _))))
                                      have K10 := hid (KJ.out.drewN nq)
                                      generalize wr.drewN nq = wx at K10 ⊢
                                      go_wp2_with fail
                                      go_roundw
                                      case rel => exact ⟨j + 1, by omega, by go_num, by rw [NEXT.out], K10.out⟩
                                      case measure => simp [intOf]; omega
                                  · have NEXT : Hid (hasX xg (rs2 m) (j + 1) = false) := hid (by rw [HX1.out, HOK.out, Bool.false_or]; simpa using hxe)
                                    have hde : decide (xg = rx) = false := by simpa using hxe
                                    rw [hde] at SM
                                    have XE := hid hxe
                                    clear hxe hde
                                    go_wp2_with fail
                                    go_quiet ((first | (go_at_call 16; exact SM.out _) | (go_at_call 17; exact quiet_d (UM.out _))))
                                    have K10 := hid (KJ.out.drewN nq)
                                    generalize wr.drewN nq = wx at K10 ⊢
                                    go_wp2_with fail
                                    go_roundw
                                    case rel => exact ⟨j + 1, by omega, by go_num, by rw [NEXT.out], K10.out⟩
                                    case measure => simp [intOf]; omega
                            · as_aux_lemma =>
                                have hj2 : j = (rs2 m).length := by rw [← HL2.out]; omega
                                have hok : hasX xg (rs2 m) j = true := by rw [hj2]; exact hasX_all _ _ XIN.out
                                have hjl' : ¬ (j : Int) < (L : Int) := by omega
                                rw [hok]
                                have HOK := hid (And.intro hok hj2)
                                clear hok hj2
                                have B10 := hid (B9.out.keep ((Keeps.refl [] wr).alloc (.cells #[.slice va xg.length vc] 23)))
                                have cm10 := B10.out.cm m hm3
                                rw [HV2.out] at cm10
                                have fm10 := B10.out.fm m
                                have k9z := KJ.out.size
                                have MO := MayRow.one (w := wr) (ok := Far F5 q2 g2 gm) (RB.out.keep KJ.out (by intro _ _ _ _ _; simp)) (fun b n c' e => ⟨(FARB.out b n c' e).1, by have := (FARB.out b n c' e).2; omega⟩) hx1000 (B9.out.far _ (Nat.le_refl _))
                                have B11 := hid (B10.out.lay m _ _ MO)
                                have NEW : Hid (∃ (vs3 : Nat → Value) (rs3 : Nat → Rws), Tw w0 ((wr.alloc (.cells #[.slice va xg.length vc] 23)).setCell ⟨gm, m, none⟩ (.slice (some ⟨wr.heap.size, 0, none⟩) 1 1)) q2 pd g2 gm hs2 sc F5 (bk + k * 80) vs3 rs3 ∧ (∀ j, j < m + 1 → CalmAt hs2 vs3 rs3 want2 j) ∧ ∀ j, m + 1 ≤ j → rs3 j = rs j) := hid (by
                                  refine ⟨_, _, B11.out, fun j hj => ?_, fun j hj => by rw [upd_ne _ _ (by omega)]; exact RSS.out j (by omega)⟩
                                  by_cases e : j = m
                                  · subst e
                                    exact ⟨_, xg, _, upd_same _ _ _, upd_same _ _ _, fun _ => XCL.out⟩
                                  · obtain ⟨v, x, gk, e1, e2, e3⟩ := CMM.out j (by omega)
                                    exact ⟨v, x, gk, by rw [upd_ne _ _ e, e1], by rw [upd_ne _ _ e, e2], e3⟩)
                                clear B11 MO k9z
                                go_wp2_with fail
                                go_roundw
                                case rel =>
                                  obtain ⟨vs3, rs3, h1, h2, h3⟩ := NEW.out
                                  exact ⟨m + 1, vs3, rs3, by omega, by go_num, h1, h2, h3⟩
                                case measure => simp [intOf]; omega
                      · have : m = 3 := by omega
                        subst this
                        have hm3' : ¬ ((3 : Nat) : Int) < ((3 : Nat) : Int) := by omega
                        have NEW : Hid (TwRel w0 wr q2 pd gm ds.length (r + 1)) := hid
                          ⟨g2, hs2, sc, F5, vs2, rs2, want2, B.out.mono (by have e : (ds.length + 1) * 80 * (r + 1) = (ds.length + 1) * 80 * r + (ds.length + 1) * 80 := Nat.mul_succ _ _; rw [e, ← BK.out]; omega), SC.out.2.1, SC.out.1, fun j hj => CMM.out j (by rw [H32.out] at hj; exact hj)⟩
                        clear B CMM RSS
                        go_wp2_with fail
                        go_roundw
                        case rel => exact ⟨r + 1, q2, pd, by omega, by go_num, rfl, rfl, NEW.out⟩
                        case measure => simp [intOf]; omega
                · have FIN : Hid (FinT s 3 rs) := hid (by
                    rcases hst with ⟨_, hry, hcm⟩ | ⟨_, hfin⟩
                    · have := finT_calm hry hcm
                      rw [A.out.three] at this
                      exact this
                    · exact hfin)
                  clear hst
                  go_wp2_with fail
                  have hDk : k * 80 ≤ 60 * 80 := by have := RM.out.1; omega
                  refine (crash_any wr p s F _ A.out.sl.at_.dk (by omega) (.slice ca ch.length cc) ch (by omega) (CV0.out.keep A.out.sl.kept (by intro _ _ _ _ _; simp))).mono ?_
                  rintro e w5 ⟨pd, F5, rfl, d5, n5, k5⟩
                  obtain ⟨hs2, want2, RD, h32, HF⟩ := FIN.out ch
                  have cnt5 : (s.crashed ch).cnt = 25 := A.out.cnt
                  have RYc : Ready (s.crashed ch) 1 hs2 want2 := ⟨rfl, rfl, RD⟩
                  have hdead : (s.crashed ch).dead = false := rfl
                  generalize s.crashed ch = sc at d5 RD cnt5 RYc hdead
                  have hall : headsS sc 1 3 = hs2 := by have := RD.all; rw [h32] at this; exact this
                  have OP := lOpen_good w5 pd sc F5 _ d5 1 3 (by omega) (by omega) hdead (by have := RD.good; rw [h32] at this; exact this)
                  rw [hall] at OP
                  have OPH := hid OP
                  have RDH := hid RD
                  have HFH := hid HF
                  have H32 := hid h32
                  have SC := hid (And.intro RYc (And.intro hdead cnt5))
                  have N5 := hid n5
                  have K5 := hid k5
                  clear OP hall d5 n5 k5 RD HF h32 cnt5 RYc hdead
                  go_wp2_with fail
                  refine OPH.out.mono ?_
                  rintro e w6 ⟨q2, g2, rfl, t6, m1, m2, k6⟩
                  have A6 : Hid (Tw w0 w6 q2 pd g2 gm hs2 sc F5 (bk + k * 80) vs rs) := hid (A.out.turn (K5.out.trans k6) t6 (by have := K5.out.size; omega) (by have := K5.out.size; omega) N5.out H32.out SC.out.2.2)
                  clear t6 k6 OPH m1 m2
                  go_wp2_with fail
                  go_loopw [17] (fun i wz => ∃ (m : Nat) (vs2 : Nat → Value) (rs2 : Nat → Rws), m ≤ 3 ∧ i = .int .i64 m ∧ Tw w0 wz q2 pd g2 gm hs2 sc F5 (bk + k * 80) vs2 rs2 ∧ (∀ j, j < m → CalmAt hs2 vs2 rs2 want2 j) ∧ ∀ j, m ≤ j → rs2 j = rs j) (fun i _ => 3 - (intOf i).toNat)
                  case atStart => exact ⟨0, _, _, by omega, rfl, A6.out, fun j hj => by omega, fun j _ => rfl⟩
                  case round =>
                    obtain ⟨m, vs2, rs2, hm, rfl, hB, hcm, hrs⟩ := hrel
                    have B := hid hB
                    have CMM := hid hcm
                    have RSS := hid hrs
                    clear hB hcm hrs
                    have lc := lCount_any wr q2 pd g2 1 hs2 B.out.sl.at_.sl
                    rw [H32.out] at lc
                    have LC2 := hid lc
                    clear lc
                    go_wp2_with fail
                    refine LC2.out.mono ?_
                    rintro e _ ⟨rfl, rfl⟩
                    clear LC2
                    by_cases hm3 : m < 3
                    · as_aux_lemma =>
                        have hm3' : (m : Int) < ((3 : Nat) : Int) := by omega
                        have hm32 : m < hs2.length := by rw [H32.out]; exact hm3
                        obtain ⟨xg, hxg, hne, hin, hcl⟩ := FinT.got hm32 (HFH.out m hm32)
                        rw [← RSS.out m (Nat.le_refl _)] at hin
                        have GX := hid (getX_any wr q2 pd g2 hs2 sc F5 _ B.out.sl.at_ m hm32 SC.out.2.1 want2 RDH.out xg hxg hne)
                        have XU := hid hne
                        have XIN := hid hin
                        have XCL := hid hcl
                        clear hxg hne hin hcl
                        go_wp2_with fail
                        refine GX.out.mono ?_
                        rintro e w8 ⟨va, vc, er, rfl, rb, nb, hx1000, k8⟩
                        have RB := hid rb
                        have NB := hid nb
                        have B8 := hid (B.out.keep k8)
                        have FARB : Hid (∀ b n c', (.slice va xg.length vc : Value) = .slice (some b) n c' → Far F5 q2 g2 gm b.block ∧ b.block < w8.heap.size) := hid fun b n c' e => ⟨B.out.far _ (nb b n c' e).1, (nb b n c' e).2⟩
                        clear rb nb k8 GX NB
                        obtain ⟨gk, gcap, gcs, hvs2, hgl, -, -, -⟩ := (B8.out.may m hm3).at_
                        obtain ⟨L, hL⟩ : ∃ x, x = (rs2 m).length := ⟨_, rfl⟩
                        rw [← hL] at hvs2
                        have HL2 := hid hL
                        have hL2 : L ≤ 2 := by rw [hL]; exact (B8.out.may m hm3).few
                        have HV2 := hid hvs2
                        clear hL hvs2 hgl
                        go_wp2_with fail
                        go_loopw [20, 21] (fun o i wz => ∃ (j : Nat), j ≤ L ∧ i = .int .i64 j ∧ o = .bool (hasX xg (rs2 m) j) ∧ Keeps [] w8 wz) (fun _ i _ => L - (intOf i).toNat)
                        case atStart => exact ⟨0, by omega, rfl, rfl, Keeps.refl _ _⟩
                        case round =>
                          obtain ⟨j, hj, rfl, rfl, kj⟩ := hrel
                          have KJ := hid kj
                          clear kj
                          have B9 := hid (B8.out.keep KJ.out)
                          have cm9 := B9.out.cm m hm3
                          rw [HV2.out] at cm9
                          by_cases hjl : j < L
                          · as_aux_lemma =>
                              have hjl' : (j : Int) < (L : Int) := by omega
                              have hjr : j < (rs2 m).length := by rw [← HL2.out]; exact hjl
                              have MR := B9.out.may m hm3
                              have cj9 := MR.cell HV2.out j hjr
                              obtain ⟨rr, hrr⟩ : ∃ x, x = (rs2 m)[j] := ⟨_, rfl⟩
                              obtain ⟨hr1, -, hr3⟩ := MR.rows _ (List.getElem_mem hjr)
                              have hx1 := hasX_succ xg (rs2 m) j hjr
                              rw [← hrr] at cj9 hr1 hr3 hx1
                              clear hrr
                              obtain ⟨rv, rx⟩ := rr
                              obtain ⟨ra, rc, hrv, -⟩ := id hr1
                              have hrv' : rv = .slice ra rx.length rc := hrv
                              subst hrv'
                              have RR := hid hr1
                              have HX1 := hid hx1
                              have cj9' : wr.cell? ⟨gk, j, none⟩ = some (.slice ra rx.length rc) := cj9
                              have SM : Hid (∀ n, Calls Try.prog 16 #[.slice va xg.length vc, .slice ra rx.length rc] (wr.drewN n) fun e w'' => e = .returned (.bool (decide (xg = rx))) ∧ ∃ m, w'' = wr.drewN m) := hid fun n => by
                                have kn : Keeps [] w8 (wr.drewN n) := KJ.out.drewN n
                                refine (same_any (wr.drewN n) _ _ xg rx (RB.out.keep kn (by intro _ _ _ _ _; simp)) (RR.out.keep ((Keeps.refl [] wr).drewN n) (by intro _ _ _ _ _; simp)) (by omega) (by have : rx.length ≤ 1000 := hr3; omega)).mono ?_
                                rintro e w' ⟨he, n', hw⟩
                                exact ⟨he, n + n', by rw [hw, World.drewN_drewN]⟩
                              have UM : Hid (∀ n, Calls Try.prog 17 #[.pointer (some ⟨q2, 0, none⟩), .int .i64 m] (wr.drewN n) fun e w'' => e = .returned (.bool (decide (0 < xg.length))) ∧ wr.drewN n = w'') := hid fun n => by
                                have := lUsed_any (wr.drewN n) q2 pd g2 1 hs2 (B9.out.keep ((Keeps.refl [] wr).drewN n)).sl.at_.sl m
                                rw [usedS, headS_at hm32, XU.out] at this
                                exact this
                              clear MR cj9 hr1 hx1 hrv hr3 hjr
                              cases hok : hasX xg (rs2 m) j with
                              | true =>
                                have NEXT : Hid (hasX xg (rs2 m) (j + 1) = true) := hid (by rw [HX1.out, hok]; rfl)
                                have HOK := hid hok
                                clear hok
                                go_wp2_with fail
                                go_quiet (fail)
                                have K10 := hid (KJ.out.drewN nq)
                                generalize wr.drewN nq = wx at K10 ⊢
                                go_wp2_with fail
                                go_roundw
                                case rel => exact ⟨j + 1, by omega, by go_num, by rw [NEXT.out], K10.out⟩
                                case measure => simp [intOf]; omega
                              | false =>
                                have HOK := hid hok
                                clear hok
                                by_cases hxe : xg = rx
                                · have NEXT : Hid (hasX xg (rs2 m) (j + 1) = true) := hid (by rw [HX1.out, HOK.out, Bool.false_or]; simpa using hxe)
                                  have hde : decide (xg = rx) = true := by simpa using hxe
                                  rw [hde] at SM
                                  rw [hxe] at UM
                                  by_cases hpos : 0 < rx.length
                                  · have hpos' : (0 : Int) < (rx.length : Int) := by omega
                                    have hdp : decide (0 < rx.length) = true := by simpa using hpos
                                    rw [hdp] at UM
                                    have XE := hid hxe
                                    clear hxe hde hdp
                                    go_wp2_with fail
                                    go_quiet ((first | (go_at_call 16; exact SM.out _) | (go_at_call 17; exact quiet_d (UM.out _))))
                                    have K10 := hid (KJ.out.drewN nq)
                                    generalize wr.drewN nq = wx at K10 ⊢
                                    go_wp2_with fail
                                    go_roundw
                                    case rel => exact ⟨j + 1, by omega, by go_num, by rw [NEXT.out], K10.out⟩
                                    case measure => simp [intOf]; omega
                                  · have hpos' : ¬ (0 : Int) < (rx.length : Int) := by omega
                                    have hdp : decide (0 < rx.length) = false := by simpa using hpos
                                    rw [hdp] at UM
                                    have XE := hid hxe
                                    clear hxe hde hdp
                                    go_wp2_with fail
                                    go_quiet ((first | (go_at_call 16; exact SM.out _) | (go_at_call 17; exact quiet_d (UM.out _))))
                                    have K10 := hid (KJ.out.drewN nq)
                                    generalize wr.drewN nq = wx at K10 ⊢
                                    go_wp2_with fail
                                    go_roundw
                                    case rel => exact ⟨j + 1, by omega, by go_num, by rw [NEXT.out], K10.out⟩
                                    case measure => simp [intOf]; omega
                                · have NEXT : Hid (hasX xg (rs2 m) (j + 1) = false) := hid (by rw [HX1.out, HOK.out, Bool.false_or]; simpa using hxe)
                                  have hde : decide (xg = rx) = false := by simpa using hxe
                                  rw [hde] at SM
                                  have XE := hid hxe
                                  clear hxe hde
                                  go_wp2_with fail
                                  go_quiet ((first | (go_at_call 16; exact SM.out _) | (go_at_call 17; exact quiet_d (UM.out _))))
                                  have K10 := hid (KJ.out.drewN nq)
                                  generalize wr.drewN nq = wx at K10 ⊢
                                  go_wp2_with fail
                                  go_roundw
                                  case rel => exact ⟨j + 1, by omega, by go_num, by rw [NEXT.out], K10.out⟩
                                  case measure => simp [intOf]; omega
                          · as_aux_lemma =>
                              have hj2 : j = (rs2 m).length := by rw [← HL2.out]; omega
                              have hok : hasX xg (rs2 m) j = true := by rw [hj2]; exact hasX_all _ _ XIN.out
                              have hjl' : ¬ (j : Int) < (L : Int) := by omega
                              rw [hok]
                              have HOK := hid (And.intro hok hj2)
                              clear hok hj2
                              have B10 := hid (B9.out.keep ((Keeps.refl [] wr).alloc (.cells #[.slice va xg.length vc] 23)))
                              have cm10 := B10.out.cm m hm3
                              rw [HV2.out] at cm10
                              have fm10 := B10.out.fm m
                              have k9z := KJ.out.size
                              have MO := MayRow.one (w := wr) (ok := Far F5 q2 g2 gm) (RB.out.keep KJ.out (by intro _ _ _ _ _; simp)) (fun b n c' e => ⟨(FARB.out b n c' e).1, by have := (FARB.out b n c' e).2; omega⟩) hx1000 (B9.out.far _ (Nat.le_refl _))
                              have B11 := hid (B10.out.lay m _ _ MO)
                              have NEW : Hid (∃ (vs3 : Nat → Value) (rs3 : Nat → Rws), Tw w0 ((wr.alloc (.cells #[.slice va xg.length vc] 23)).setCell ⟨gm, m, none⟩ (.slice (some ⟨wr.heap.size, 0, none⟩) 1 1)) q2 pd g2 gm hs2 sc F5 (bk + k * 80) vs3 rs3 ∧ (∀ j, j < m + 1 → CalmAt hs2 vs3 rs3 want2 j) ∧ ∀ j, m + 1 ≤ j → rs3 j = rs j) := hid (by
                                refine ⟨_, _, B11.out, fun j hj => ?_, fun j hj => by rw [upd_ne _ _ (by omega)]; exact RSS.out j (by omega)⟩
                                by_cases e : j = m
                                · subst e
                                  exact ⟨_, xg, _, upd_same _ _ _, upd_same _ _ _, fun _ => XCL.out⟩
                                · obtain ⟨v, x, gk, e1, e2, e3⟩ := CMM.out j (by omega)
                                  exact ⟨v, x, gk, by rw [upd_ne _ _ e, e1], by rw [upd_ne _ _ e, e2], e3⟩)
                              clear B11 MO k9z
                              go_wp2_with fail
                              go_roundw
                              case rel =>
                                obtain ⟨vs3, rs3, h1, h2, h3⟩ := NEW.out
                                exact ⟨m + 1, vs3, rs3, by omega, by go_num, h1, h2, h3⟩
                              case measure => simp [intOf]; omega
                    · have : m = 3 := by omega
                      subst this
                      have hm3' : ¬ ((3 : Nat) : Int) < ((3 : Nat) : Int) := by omega
                      have NEW : Hid (TwRel w0 wr q2 pd gm ds.length (r + 1)) := hid
                        ⟨g2, hs2, sc, F5, vs2, rs2, want2, B.out.mono (by have e : (ds.length + 1) * 80 * (r + 1) = (ds.length + 1) * 80 * r + (ds.length + 1) * 80 := Nat.mul_succ _ _; rw [e, ← BK.out]; omega), SC.out.2.1, SC.out.1, fun j hj => CMM.out j (by rw [H32.out] at hj; exact hj)⟩
                      clear B CMM RSS
                      go_wp2_with fail
                      go_roundw
                      case rel => exact ⟨r + 1, q2, pd, by omega, by go_num, rfl, rfl, NEW.out⟩
                      case measure => simp [intOf]; omega
            · have : r = 2 := by omega
              subst this
              have hr2' : ¬ ((2 : Nat) : Int) < 2 := by omega
              go_wp2_with fail
              go_ret
              exact ⟨rfl, K0.out.trans tw.sl.kept⟩
end Go.Proofs.Ytnjlhplcagkcnaa

namespace Go.Proofs.Ytnjlhplcagkcnaa
open Go.ChangeShapes Go.WideShapes Go.ChangeAt Go.RowKit
set_option maxRecDepth 100000

section
variable {H : Type} {enc : TypeId × Value → H}
theorem cells_two : Try.prog.cellsOf 47 = 2 := by kernel_rfl
theorem cells_u8t : Try.prog.cellsOf 5 = 1 := by kernel_rfl
theorem two_of_trod {W : World} {base : Nat} {v : Value} {d : DataW H} {p : List MemPlace} (hv : Value.okWide Try.prog W .any base 47 v) (h : DataW.Trod enc Try.prog W 0 (fun _ => true) true 47 v d p) :
    ∃ z y, v = .agg #[.int .u8 z, .int .u8 y] ∧ d = .agg [.lit (.int .u8 z), .lit (.int .u8 y)] ∧ p = [] ∧ (Lit.int .u8 z).wf = true ∧ (Lit.int .u8 y).wf = true := by
  obtain ⟨cs, rfl, hsz, _⟩ : ∃ cs, v = .agg cs ∧ cs.size = Try.prog.cellsOf 47 ∧ Row.okWide Try.prog W .any base 47 cs := by
    simpa [Value.okWide, Try.underlying47] using hv
  rw [cells_two] at hsz
  obtain ⟨l⟩ := cs
  obtain ⟨c0, c1, rfl⟩ : ∃ a b, l = [a, b] := by
    match l, hsz with
    | [a, b], _ => exact ⟨a, b, rfl⟩
  obtain ⟨fuel, hf⟩ := h
  obtain ⟨xs, m, rfl, e, _, hl, hi⟩ := DataW.trod_array Try.underlying47 hf
  obtain ⟨x0, x1, rfl⟩ : ∃ a b, xs = [a, b] := by
    match xs, hl with
    | [a, b], _ => exact ⟨a, b, rfl⟩
  have h0 := hi 0 (by decide)
  have h1 := hi 1 (by decide)
  rw [cells_u8t] at h0 h1
  simp [Value.cells] at h0 h1
  obtain ⟨z, e0, rfl, w0⟩ := DataW.trod_int Try.underlying5 h0
  obtain ⟨y, e1, rfl, w1⟩ := DataW.trod_int Try.underlying5 h1
  simp at e0 e1 e
  subst e0 e1
  exact ⟨z, y, rfl, e.1, e.2, w0, w1⟩
theorem two_shut {W : World} {sp : Nat → Bool} {held : Bool} {z y : Int} (h : (Lit.int .u8 z).wf = true ∧ (Lit.int .u8 y).wf = true) :
    DataW.Trod enc Try.prog W 0 sp held 47 (.agg #[.int .u8 z, .int .u8 y]) (.agg [.lit (.int .u8 z), .lit (.int .u8 y)]) [] :=
  ⟨2, by simp [DataW.trod, Value.cells, Try.underlying47, Try.underlying5, cells_two, cells_u8t, h.1, h.2, show List.range 2 = [0, 1] from rfl]⟩
end

theorem twice_lifted (os : Os) (started : os.Started) (H : Type) (enc : TypeId × Value → H) :
    ReturnsInHanded {} Try.checked os 4 .any (Rows.slotTwiceSpec.pre6 enc Try.prog Try.f4 Rows.slotTwiceRow.domain false) (Rows.slotTwiceSpec.post enc Try.prog Try.f4 false true false false) := by
  refine returnsInHanded_of_change_sized (C := Try.checked) own started (by kernel_rfl) Try.func4
    (ChangeSpec.witness6 (enc := enc) (C := Try.checked) false ⟨#[], #[.slice none 0 0, .agg #[.int .u8 0, .int .u8 0], .slice none 0 0], []⟩ 8 (by kernel_rfl) (by kernel_rfl) (by kernel_rfl) (by kernel_rfl)) ?_
  intro W base args ds gs before hval0 hW hcnd hsz0 _
  have hval : ∀ (j : Nat) t v, Try.f4.params[j]? = some t → args[j]? = some v → Value.okWide Try.prog W .any base t v := hval0
  have hsz : (DataW.weightsEach Try.prog (Try.f4.params.toList ++ Rows.slotTwiceSpec.plain.varTypes Try.prog) (ds ++ gs)).all (· ≤ reachBytes) = true := hsz0
  have hW' := hW
  obtain ⟨p, q, hA0, hV, rfl, hfz, hnd⟩ := hW
  have hA : DataW.TrodAll enc Try.prog W 0 (fun _ => true) true Try.f4.params.toList args.toList ds p := hA0
  rw [Try.params4] at hA hval hsz
  obtain ⟨v0, vs0, d0, ds0, p0, q0, hargs, rfl, rfl, h0, r0⟩ := trodAll_cons hA
  obtain ⟨v1, vs1, d1, ds1, p1, q1, rfl, rfl, rfl, h1, r1⟩ := trodAll_cons r0
  obtain ⟨v2, vs2, d2, ds2, p2, q2, rfl, rfl, rfl, h2, r2⟩ := trodAll_cons r1
  obtain ⟨rfl, rfl, rfl⟩ := trodAll_nil r2
  obtain rfl : args = #[v0, v1, v2] := by cases args; simp_all
  obtain ⟨rfl, rfl⟩ := trodVars_none hV
  have k0 := h0
  have lt0 : ∀ x ∈ p0, x.block < W.heap.size := by obtain ⟨m, hm⟩ := k0; exact DataW.trod_lt m _ _ _ hm
  have k2 := h2
  have lt2 : ∀ x ∈ p2, x.block < W.heap.size := by obtain ⟨m, hm⟩ := k2; exact DataW.trod_lt m _ _ _ hm
  obtain ⟨a0, l0, c0, rfl⟩ := okWide_slice Try.underlying22 (hval 0 22 v0 rfl rfl)
  obtain ⟨z1, y1, rfl, rfl, rfl, w1⟩ := two_of_trod (hval 1 47 v1 rfl rfl) h1
  obtain ⟨a2, l2, c2, rfl⟩ := okWide_slice Try.underlying23 (hval 2 23 v2 rfl rfl)
  obtain ⟨x0, y0⟩ : ∃ zs, D5sAt W (.slice a0 l0 c0) zs := by
    obtain ⟨m, hm⟩ := h0
    obtain ⟨v, zs, e, hr⟩ := deeds5_of_trod hm (each_le hsz (j := 0) rfl rfl)
    simp [Value.cells] at e
    subst e
    exact ⟨zs, hr⟩
  obtain ⟨x2, y2⟩ : ∃ zs, RowAt W (.slice a2 l2 c2) zs ∧ zs.length ≤ 140737488351232 := by
    obtain ⟨m, hm⟩ := h2
    obtain ⟨v, zs, e, hr, hz⟩ := row_of_trod hm (each_le hsz (j := 2) rfl rfl)
    simp [Value.cells] at e
    subst e
    exact ⟨zs, hr, hz⟩
  clear hA0 hval0
  refine (twice_any W _ x0 y0 z1 y1 (bounds_u8 w1.1) (bounds_u8 w1.2) _ x2 y2.1).mono fun e W' ⟨he, hk⟩ => ?_
  subst he
  have bel : Below W.heap.size W W' := hk.below (Nat.le_refl _) (by simp)
  exact ⟨_, rfl, _, _, _, [], _, [], hW', trodAll_mk1 (shut_bool Try.underlying4 _), (trodAll_cons_mk (Below.trod laidOut (by kernel_rfl) (of_decide_eq_true (by kernel_rfl)) k0 bel lt0) (trodAll_cons_mk (two_shut w1) (trodAll_cons_mk (Below.trod laidOut (by kernel_rfl) (of_decide_eq_true (by kernel_rfl)) k2 bel lt2) trodAll_mk0))), rfl, bel.frame _, fun h => by cases h⟩

theorem twice_holds : Rows.SlotTwiceSaid :=
  OpenClaim.holds_of_wide 4 Try.f4 rfl rfl rfl rfl rfl rfl rfl ⟨rfl, rfl, rfl, rfl, rfl⟩ rfl rfl rfl rfl rfl (by kernel_rfl) Try.func4 (by kernel_rfl)
    (of_decide_eq_true (by kernel_rfl)) (by unfold Func.isWrapper; rw [if_neg (of_decide_eq_false (by kernel_rfl))]; exact ⟨rfl, rfl⟩)
    (fun os started H enc _ => twice_lifted os started H enc)

end Go.Proofs.Ytnjlhplcagkcnaa
