/- bag: how the laws' arguments are read: messages, deeds, numbers. -/
import Derived.Test.YtkfebgbgnpdgpaaBgQ
import Derived.Test.YtkfebgbgnpdgpaaOpenC
namespace Go.Proofs.Ytkfebgbgnpdgpaa
open Go.ChangeShapes Go.WideShapes Go.ChangeAt Go.RowKit
set_option maxRecDepth 100000

/-- A message that came in. -/
structure MgIn (w : World) (m : Mg) : Prop where
  row : RowAt w m.row m.bs
  fit : m.bs.length ≤ 140737488351232
  b0 : i64 m.f
  b1 : i64 m.t

theorem MgIn.keep {w w' : World} {m : Mg} (h : MgIn w m) (k : Keeps [] w w') : MgIn w' m := ⟨h.row.keep k (by intro _ _ _ _ _; simp), h.fit, h.b0, h.b1⟩

theorem RowAt.block {w : World} {v : Value} {zs : List Int} (h : RowAt w v zs) {ad : Addr} {n c : Nat} (e : v = .slice (some ad) n c) (hne : zs ≠ []) : ad.block < w.heap.size := by
  obtain ⟨a, cap, rfl, h1, h2, h3, h4, h5⟩ := h
  injection e with e _ _
  subst e
  obtain ⟨z, zs', rfl⟩ := List.exists_cons_of_ne_nil hne
  have := h5 ad rfl 0 (.int .u8 z) (by simp)
  have := World.block_lt_of_cell? _ _ this
  rwa [Addr.add_block] at this

/-- One whose bytes are few, as a message to be read. -/
theorem MgIn.ok {w : World} {m : Mg} (h : MgIn w m) (hl : m.bs.length ≤ 100) : MgOk w (List.range w.heap.size) m :=
  ⟨h.row, fun ad n c e hne => by rw [List.mem_range]; exact h.row.block e hne, hl, h.b0, h.b1⟩

structure D7 where
  act : Int
  n : Int
  m : Mg

/-- Deed d lies in the five cells from there on. -/
structure D7At (w : World) (g off : Nat) (d : D7) : Prop where
  c0 : w.cell? ⟨g, off, none⟩ = some (.int .i64 d.act)
  c1 : w.cell? ⟨g, off + 1, none⟩ = some (.int .i64 d.n)
  c2 : w.cell? ⟨g, off + 2, none⟩ = some (.int .i64 d.m.f)
  c3 : w.cell? ⟨g, off + 3, none⟩ = some (.int .i64 d.m.t)
  c4 : w.cell? ⟨g, off + 4, none⟩ = some d.m.row
  inn : MgIn w d.m
  b0 : i64 d.act
  b1 : i64 d.n

def D7sAt (w : World) (v : Value) (ds : List D7) : Prop :=
  ∃ (a : Option Addr) (cap : Nat), v = .slice a ds.length cap ∧ ds.length ≤ cap ∧ cap ≤ maxLen ∧ (a = none → cap = 0) ∧
    (ds ≠ [] → ∃ g off, a = some ⟨g, off, none⟩ ∧ ∀ i (h : i < ds.length), D7At w g (off + i * 5) ds[i])
theorem D7At.keep {w w' : World} {g off : Nat} {d : D7} (h : D7At w g off d) (k : Keeps [] w w') : D7At w' g off d :=
  ⟨k.cell' h.c0 (by simp), k.cell' h.c1 (by simp), k.cell' h.c2 (by simp), k.cell' h.c3 (by simp), k.cell' h.c4 (by simp), h.inn.keep k, h.b0, h.b1⟩

/-- A message that came in, in three cells. -/
structure M3At (w : World) (g off : Nat) (m : Mg) : Prop where
  c0 : w.cell? ⟨g, off, none⟩ = some (.int .i64 m.f)
  c1 : w.cell? ⟨g, off + 1, none⟩ = some (.int .i64 m.t)
  c2 : w.cell? ⟨g, off + 2, none⟩ = some m.row
  inn : MgIn w m
theorem M3At.keep {w w' : World} {g off : Nat} {d : Mg} (h : M3At w g off d) (k : Keeps [] w w') : M3At w' g off d :=
  ⟨k.cell' h.c0 (by simp), k.cell' h.c1 (by simp), k.cell' h.c2 (by simp), h.inn.keep k⟩
def M3sAt (w : World) (v : Value) (ms : List Mg) : Prop :=
  ∃ (a : Option Addr) (cap : Nat), v = .slice a ms.length cap ∧ ms.length ≤ cap ∧ cap ≤ maxLen ∧ (a = none → cap = 0) ∧
    (ms ≠ [] → ∃ g off, a = some ⟨g, off, none⟩ ∧ ∀ i (h : i < ms.length), M3At w g (off + i * 3) ms[i])

section
variable {H : Type} {enc : TypeId × Value → H}
theorem cells_int7 : Try.prog.cellsOf 3 = 1 := by kernel_rfl
theorem cells_rmsg : Try.prog.cellsOf 31 = 3 := by kernel_rfl
theorem msg_of_trod {W : World} {fuel : Nat} {c0 c1 c2 : Value} {x : DataW H × List MemPlace}
    (h : DataW.trod enc Try.prog W 0 (fun _ => true) true fuel 31 [c0, c1, c2] = some x)
    (hs : ∀ n ∈ x.1.weights Try.prog 31, n ≤ reachBytes) : ∃ m : Mg, c0 = .int .i64 m.f ∧ c1 = .int .i64 m.t ∧ c2 = m.row ∧ MgIn W m := by
  obtain ⟨ys, n, _, hx, _, hyl, hf⟩ := DataW.trod_struct Try.underlying31 h
  have t0 : DataW.trod enc Try.prog W 0 (fun _ => true) true n 3 (([c0, c1, c2].drop 0).take (Try.prog.cellsOf 3)) = ys[0]? := hf 0 _ rfl
  have t1 : DataW.trod enc Try.prog W 0 (fun _ => true) true n 3 (([c0, c1, c2].drop 1).take (Try.prog.cellsOf 3)) = ys[1]? := hf 1 _ rfl
  have t2 : DataW.trod enc Try.prog W 0 (fun _ => true) true n 29 (([c0, c1, c2].drop 2).take (Try.prog.cellsOf 29)) = ys[2]? := hf 2 _ rfl
  simp only [cells_int7, cells_row, List.drop_zero, List.drop_succ_cons, List.take_succ_cons, List.take_zero] at t0 t1 t2
  match ys, hyl with
  | [y0, y1, y2], _ =>
    simp only [List.getElem?_cons_zero, List.getElem?_cons_succ] at t0 t1 t2
    obtain ⟨z0, e0, _, w0⟩ := DataW.trod_int Try.underlying3 t0
    obtain ⟨z1, e1, _, w1⟩ := DataW.trod_int Try.underlying3 t1
    obtain ⟨v2, zs2, e2, hr2, hl2⟩ := row_of_trod t2 (fun n hn => hs n (by
      rw [hx]
      simp only [DataW.weights, Try.underlying31, List.map_cons, List.map_nil, DataW.weightsEach, List.mem_append]
      right; right; left; exact hn))
    injection e0 with e0 _
    injection e1 with e1 _
    injection e2 with e2 _
    exact ⟨⟨z0, z1, v2, zs2⟩, e0, e1, e2, hr2, hl2, i64_of w0, i64_of w1⟩

theorem rmsg_of_trod {W : World} {fuel : Nat} {cs : List Value} {x : DataW H × List MemPlace} {g off : Nat} (hcl : W.cells? 0 ⟨g, off, none⟩ 3 = some cs)
    (h : DataW.trod enc Try.prog W 0 (fun _ => true) true fuel 31 cs = some x)
    (hs : ∀ n ∈ x.1.weights Try.prog 31, n ≤ reachBytes) : ∃ d, M3At W g off d := by
  obtain ⟨_, hl, hat⟩ := World.cells?_some hcl
  match cs, hl with
  | [c0, c1, c2], _ =>
    obtain ⟨m, e2, e3, e4, hm⟩ := msg_of_trod h hs
    subst e2; subst e3; subst e4
    have a0 := hat 0 (by omega)
    have a1 := hat 1 (by omega)
    have a2 := hat 2 (by omega)
    rw [Addr.add_lit] at a0 a1 a2
    exact ⟨m, a0, a1, a2, hm⟩

theorem rmsgs_of_trod {W : World} {fuel : Nat} {cs : List Value} {x : DataW H × List MemPlace} (h : DataW.trod enc Try.prog W 0 (fun _ => true) true fuel 22 cs = some x)
    (hs : ∀ n ∈ x.1.weights Try.prog 22, n ≤ reachBytes) : ∃ v ds, cs = [v] ∧ M3sAt W v ds := by
  rcases Go.Deep.open_slice Try.underlying22 h with ⟨rfl, _⟩ | ⟨a, len, cap, m, n, D, Pl, rfl, _, hl, hm, hmm, rfl, hi⟩
  · exact ⟨_, [], rfl, none, 0, rfl, by simp, by simp, fun _ => rfl, fun h => absurd rfl h⟩
  · simp only [if_true] at hmm
    subst hmm
    have hD : ∀ i, i < len → ∀ k ∈ (D i).weights Try.prog 31, k ≤ reachBytes := by
      intro i hi k hk
      refine hs k ?_
      simp only [DataW.weights, Try.underlying22]
      refine List.mem_cons_of_mem _ (List.mem_append.2 (Or.inl ?_))
      exact mem_weightsAll (List.mem_map.2 ⟨i, List.mem_range.2 hi, rfl⟩) hk
    by_cases h0 : len = 0
    · subst h0
      exact ⟨_, [], rfl, some a, m, rfl, by simp, hm, by simp, fun h => absurd rfl h⟩
    · obtain ⟨g, off, sp⟩ := a
      have hsp : sp = none := by
        obtain ⟨cs', hc, _⟩ := hi 0 (by omega)
        rw [cells_rmsg] at hc
        obtain ⟨_, hcl, hat⟩ := World.cells?_some hc
        have := hat 0 (by omega)
        rw [List.getElem?_eq_getElem (by omega)] at this
        have hs := World.cell?_spot this
        simpa [Addr.add] using hs
      subst hsp
      obtain ⟨ds, hdl, hda⟩ := list_of (P := fun i d => M3At W g (off + i * 3) d) len (fun i hil => by
        obtain ⟨cs', hc, ht⟩ := hi i (by omega)
        rw [cells_rmsg, Addr.add_lit] at hc
        exact rmsg_of_trod hc ht (hD i hil))
      refine ⟨_, ds, rfl, some ⟨g, off, none⟩, m, by rw [hdl], by omega, hm, by simp, fun _ => ⟨g, off, rfl, hda⟩⟩
end
end Go.Proofs.Ytkfebgbgnpdgpaa
