/- bag: what the laws know of a bag and of the reference's, their blocks named. -/
import Derived.Test.YtehbibimfjipiaaBgR
namespace Go.Proofs.Ytehbibimfjipiaa
open Go.RowKit Go.Shelf
set_option maxRecDepth 100000

def PutF (T E : TypeId) (w : World) (p : Nat) (F : List Nat) (most : Int) (ms : List Mg) (m : Mg) (e : Ending) (w' : World) : Prop :=
  ((ms.length : Int) = most ∧ e = .returned (.bool false) ∧ Keeps [] w w') ∨
  ((ms.length : Int) < most ∧ e = .returned (.bool true) ∧ ∃ F' m', BagF T E w' p F' most (ms ++ [m']) ∧ con m' = con m ∧ Keeps F w w' ∧ Fr w F F')
theorem PutPost7.f {T E : TypeId} {w : World} {p : Nat} {X : List Nat} {v : Value} {most : Int} {ms : List Mg} {m : Mg} {e : Ending} {w' : World} (h : PutPost7 T E w p X v most ms m e w') : PutF T E w p (bfoot p X v) most ms m e w' := by
  rcases h with h | ⟨h1, h2, X', v', m', h3, h4, h5, h6⟩
  · exact Or.inl h
  · exact Or.inr ⟨h1, h2, _, m', ⟨X', v', h3, rfl⟩, h4, h5, h6⟩
theorem bPutF {w : World} {p : Nat} {F : List Nat} {most : Int} {ms : List Mg} (h : BagF 58 30 w p F most ms) (m : Mg) (Y : List Nat) (hm : MgOk w Y m) : Calls Try.prog 8 #[.pointer (some ⟨p, 0, none⟩), mgV m] w (PutF 58 30 w p F most ms m) := by
  obtain ⟨X, v, h, rfl⟩ := h
  exact (bPut_any w p X v most ms h m Y hm).mono fun _ _ h => h.f
theorem rbPutF {w : World} {p : Nat} {F : List Nat} {most : Int} {ms : List Mg} (h : BagF 48 38 w p F most ms) (m : Mg) (Y : List Nat) (hm : MgOk w Y m) : Calls Try.prog 12 #[.pointer (some ⟨p, 0, none⟩), mgV m] w (PutF 48 38 w p F most ms m) := by
  obtain ⟨X, v, h, rfl⟩ := h
  exact (rbPut_any w p X v most ms h m Y hm).mono fun _ _ h => h.f

def TakeF (T E : TypeId) (w : World) (p : Nat) (F : List Nat) (most : Int) (ms : List Mg) (n : Int) (e : Ending) (w' : World) : Prop :=
  (ms = [] ∧ e = .returned (.tuple #[.agg #[.int .i64 0, .int .i64 0, .slice none 0 0], .bool false]) ∧ Keeps [] w w') ∨
  (∃ i, ∃ h : i < ms.length, n % (ms.length : Int) = i ∧ ∃ m' Y, e = .returned (.tuple #[mgV m', .bool true]) ∧ con m' = con ms[i] ∧ MgOk w' Y m' ∧ Fr w F Y ∧ (∀ b ∈ Y, b < w'.heap.size) ∧
    ∃ F', BagF T E w' p F' most (ms.take i ++ ms.drop (i + 1)) ∧ Keeps F w w' ∧ Fr w F F')
theorem TakePost7.f {T E : TypeId} {w : World} {p : Nat} {X : List Nat} {v : Value} {most : Int} {ms : List Mg} {n : Int} {e : Ending} {w' : World} (h : TakePost7 T E w p X v most ms n e w') : TakeF T E w p (bfoot p X v) most ms n e w' := by
  rcases h with h | ⟨i, hi, h1, m', Y, h2, h3, h4, h5, h6, X', v', h7, h8, h9⟩
  · exact Or.inl h
  · exact Or.inr ⟨i, hi, h1, m', Y, h2, h3, h4, h5, h6, _, ⟨X', v', h7, rfl⟩, h8, h9⟩
theorem bTakeF {w : World} {p : Nat} {F : List Nat} {most : Int} {ms : List Mg} (h : BagF 58 30 w p F most ms) (n : Int) (hn : i64 n) : Calls Try.prog 9 #[.pointer (some ⟨p, 0, none⟩), .int .i64 n] w (TakeF 58 30 w p F most ms n) := by
  obtain ⟨X, v, h, rfl⟩ := h
  exact (bTake_any w p X v most ms h n hn).mono fun _ _ h => h.f
theorem rbTakeF {w : World} {p : Nat} {F : List Nat} {most : Int} {ms : List Mg} (h : BagF 48 38 w p F most ms) (n : Int) (hn : i64 n) : Calls Try.prog 13 #[.pointer (some ⟨p, 0, none⟩), .int .i64 n] w (TakeF 48 38 w p F most ms n) := by
  obtain ⟨X, v, h, rfl⟩ := h
  exact (rbTake_any w p X v most ms h n hn).mono fun _ _ h => h.f

def DropF (T E : TypeId) (w : World) (p : Nat) (F : List Nat) (most : Int) (ms : List Mg) (tt : Int) (e : Ending) (w' : World) : Prop :=
  e = .returned (.int .i64 ((ms.length : Int) - (ms.filter (keepTo tt)).length)) ∧ ∃ F', BagF T E w' p F' most (ms.filter (keepTo tt)) ∧ Keeps F w w' ∧ Fr w F F'
theorem DropPost7.f {T E : TypeId} {w : World} {p : Nat} {X : List Nat} {v : Value} {most : Int} {ms : List Mg} {tt : Int} {e : Ending} {w' : World} (h : DropPost7 T E w p X v most ms tt e w') : DropF T E w p (bfoot p X v) most ms tt e w' := by
  obtain ⟨h1, X', v', h7, h8, h9⟩ := h
  exact ⟨h1, _, ⟨X', v', h7, rfl⟩, h8, h9⟩
theorem bDropF {w : World} {p : Nat} {F : List Nat} {most : Int} {ms : List Mg} (h : BagF 58 30 w p F most ms) (tt : Int) : Calls Try.prog 15 #[.pointer (some ⟨p, 0, none⟩), .int .i64 tt] w (DropF 58 30 w p F most ms tt) := by
  obtain ⟨X, v, h, rfl⟩ := h
  exact (bDrop_any w p X v most ms h tt).mono fun _ _ h => h.f
theorem rbDropF {w : World} {p : Nat} {F : List Nat} {most : Int} {ms : List Mg} (h : BagF 48 38 w p F most ms) (tt : Int) : Calls Try.prog 16 #[.pointer (some ⟨p, 0, none⟩), .int .i64 tt] w (DropF 48 38 w p F most ms tt) := by
  obtain ⟨X, v, h, rfl⟩ := h
  exact (rbDrop_any w p X v most ms h tt).mono fun _ _ h => h.f
theorem bLenF {w : World} {p : Nat} {F : List Nat} {most : Int} {ms : List Mg} (h : BagF 58 30 w p F most ms) : Calls Try.prog 10 #[.pointer (some ⟨p, 0, none⟩)] w fun e w' => e = .returned (.int .i64 ms.length) ∧ w = w' := by
  obtain ⟨X, v, h, rfl⟩ := h
  exact bLen_any w p X v most ms h
theorem bAllF {w : World} {p : Nat} {F : List Nat} {most : Int} {ms : List Mg} (h : BagF 58 30 w p F most ms) : Calls Try.prog 19 #[.pointer (some ⟨p, 0, none⟩)] w (CopiedPost w ms) := by
  obtain ⟨X, v, h, rfl⟩ := h
  exact bAll_any w p X v most ms h

theorem filter_con (tt : Int) : ∀ {ms ns : List Mg}, ms.map con = ns.map con → (ms.filter (keepTo tt)).map con = (ns.filter (keepTo tt)).map con
  | [], [], _ => rfl
  | [], _ :: _, h => by simp at h
  | _ :: _, [], h => by simp at h
  | m :: r, n :: s, h => by
    simp only [List.map_cons, List.cons.injEq] at h
    have ht : keepTo tt m = keepTo tt n := by
      have := h.1
      simp only [con, Prod.mk.injEq] at this
      simp [keepTo, this.2.1]
    have ih := filter_con tt h.2
    rw [List.filter_cons, List.filter_cons, ht]
    split
    · simp only [List.map_cons, ih, h.1]
    · exact ih

/-- A bag and the reference's, apart, all in the law's own memory. -/
structure PlayAt (W wr : World) (p q : Nat) (F G : List Nat) (most : Int) (ms ns : List Mg) : Prop where
  b : BagF 58 30 wr p F most ms
  r : BagF 48 38 wr q G most ns
  dj : Dj F G
  nF : ∀ b ∈ F, W.heap.size ≤ b
  nG : ∀ b ∈ G, W.heap.size ≤ b
  k : Keeps [] W wr

theorem PlayAt.later {W wr w' : World} {p q : Nat} {F G : List Nat} {most : Int} {ms ns : List Mg} (P : PlayAt W wr p q F G most ms ns) (k : Keeps [] wr w') : PlayAt W w' p q F G most ms ns :=
  ⟨P.b.later k, P.r.later k, P.dj, P.nF, P.nG, P.k.trans k⟩
theorem PlayAt.bag {W wr w' : World} {p q : Nat} {F G F' : List Nat} {most : Int} {ms ns ms' : List Mg} (P : PlayAt W wr p q F G most ms ns) (b : BagF 58 30 w' p F' most ms') (k : Keeps F wr w') (f : Fr wr F F') : PlayAt W w' p q F' G most ms' ns :=
  ⟨b, P.r.keep k (fun b hb hf => P.dj b hf hb), P.dj.fr f P.r.lt, f.newF P.nF P.k.size, P.nG, P.k.ofNew k P.nF⟩
theorem PlayAt.ref {W wr w' : World} {p q : Nat} {F G G' : List Nat} {most : Int} {ms ns ns' : List Mg} (P : PlayAt W wr p q F G most ms ns) (b : BagF 48 38 w' q G' most ns') (k : Keeps G wr w') (f : Fr wr G G') : PlayAt W w' p q F G' most ms ns' :=
  ⟨P.b.keep k P.dj, b, (P.dj.symm.fr f P.b.lt).symm, P.nF, f.newF P.nG P.k.size, P.k.ofNew k P.nG⟩

/-- A block of the law's own, made since, is none of theirs. -/
theorem PlayAt.apart {W wr : World} {p q : Nat} {F G : List Nat} {most : Int} {ms ns : List Mg} (P : PlayAt W wr p q F G most ms ns) {x : Nat} (hx : wr.heap.size ≤ x) : x ∉ F ∧ x ∉ G :=
  ⟨fun h => by have := P.b.lt x h; omega, fun h => by have := P.r.lt x h; omega⟩

theorem load_d7 {w : World} {b o : Nat} {x0 x1 x2 x3 x4 : Value} (c0 : w.cell? ⟨b, o, none⟩ = some x0) (c1 : w.cell? ⟨b, o + 1, none⟩ = some x1) (c2 : w.cell? ⟨b, o + 2, none⟩ = some x2) (c3 : w.cell? ⟨b, o + 3, none⟩ = some x3) (c4 : w.cell? ⟨b, o + 4, none⟩ = some x4) :
    (Instr.loadAt 40 (.pointer (some ⟨b, o, none⟩))).run Try.prog w = .ok (.agg #[x0, x1, x2, x3, x4]) w := by
  refine run_loadAt_mid w b o 40 [x0, x1, x2, x3, x4] _ (fun j v hv => ?_) Try.underlying40 rfl (by kernel_rfl)
  match j, hv with
  | 0, hv => simp at hv; subst hv; exact c0
  | 1, hv => simp at hv; subst hv; exact c1
  | 2, hv => simp at hv; subst hv; exact c2
  | 3, hv => simp at hv; subst hv; exact c3
  | 4, hv => simp at hv; subst hv; exact c4

theorem row_block5 {W : World} {b : Nat} {x0 x1 x2 x3 x4 : Value} {T : TypeId} (h : W.heap[b]? = some (.cells #[x0, x1, x2, x3, x4] T (0, 0))) :
    W.cell? ⟨b, 0, none⟩ = some x0 ∧ W.cell? ⟨b, 1, none⟩ = some x1 ∧ W.cell? ⟨b, 2, none⟩ = some x2 ∧ W.cell? ⟨b, 3, none⟩ = some x3 ∧ W.cell? ⟨b, 4, none⟩ = some x4 := by
  simp [World.cell?, h]
end Go.Proofs.Ytehbibimfjipiaa
