/- once: how the laws' arguments are read: stamps and rows. -/
import Derived.Test.YtkfebgbgnpdgpaaOnG
import Derived.Test.YtkfebgbgnpdgpaaOpenC
namespace Go.Proofs.Ytkfebgbgnpdgpaa
open Go.ChangeShapes Go.WideShapes Go.ChangeAt Go.RowKit
set_option maxRecDepth 100000

theorem iVStamp8 : (Try.prog.info? 57).map (fun i => (i.zero, i.size)) = some (some (.agg #[.int .i64 0, .int .i64 0, .int .i64 0]), 3) := by kernel_rfl
/-- A stamp in three cells. -/
structure S3At (w : World) (g off : Nat) (z : Int × Int × Int) : Prop where
  c0 : w.cell? ⟨g, off, none⟩ = some (.int .i64 z.1)
  c1 : w.cell? ⟨g, off + 1, none⟩ = some (.int .i64 z.2.1)
  c2 : w.cell? ⟨g, off + 2, none⟩ = some (.int .i64 z.2.2)
  b0 : i64 z.1
  b1 : i64 z.2.1
  b2 : i64 z.2.2
theorem S3At.keep {w w' : World} {g off : Nat} {z : Int × Int × Int} (h : S3At w g off z) (k : Keeps [] w w') : S3At w' g off z :=
  ⟨k.cell' h.c0 (by simp), k.cell' h.c1 (by simp), k.cell' h.c2 (by simp), h.b0, h.b1, h.b2⟩
def S3sAt (w : World) (v : Value) (zs : List (Int × Int × Int)) : Prop :=
  ∃ (a : Option Addr) (cap : Nat), v = .slice a zs.length cap ∧ zs.length ≤ cap ∧ cap ≤ maxLen ∧ (a = none → cap = 0) ∧
    (zs ≠ [] → ∃ g off, a = some ⟨g, off, none⟩ ∧ g < w.heap.size ∧ ∀ i (h : i < zs.length), S3At w g (off + i * 3) zs[i])
theorem S3sAt.keep {w w' : World} {v : Value} {zs : List (Int × Int × Int)} (h : S3sAt w v zs) (k : Keeps [] w w') : S3sAt w' v zs := by
  obtain ⟨a, cap, e, h1, h2, h3, h4⟩ := h
  exact ⟨a, cap, e, h1, h2, h3, fun hne => by
    obtain ⟨g, off, e2, hl, h5⟩ := h4 hne
    exact ⟨g, off, e2, Nat.lt_of_lt_of_le hl k.size, fun i hi => (h5 i hi).keep k⟩⟩
theorem S3sAt.at {w : World} {a : Option Addr} {n cap : Nat} {zs : List (Int × Int × Int)} (h : S3sAt w (.slice a n cap) zs) (i : Nat) (hi : i < zs.length) : ∃ g off, a = some ⟨g, off, none⟩ ∧ g < w.heap.size ∧ n = zs.length ∧ S3At w g (off + i * 3) zs[i] := by
  obtain ⟨a', cap', hv, h1, h2, h0, h4⟩ := h
  injection hv with e1 e2 e3
  subst e1; subst e2; subst e3
  obtain ⟨g, off, rfl, hg, hc⟩ := h4 (by intro e; rw [e] at hi; simp at hi)
  exact ⟨g, off, rfl, hg, rfl, hc i hi⟩

/-- A row that came in, in four cells. -/
structure R4At (w : World) (g off : Nat) (r : Rw) : Prop where
  c0 : w.cell? ⟨g, off, none⟩ = some (.int .i64 r.c)
  c1 : w.cell? ⟨g, off + 1, none⟩ = some (.int .i64 r.l)
  c2 : w.cell? ⟨g, off + 2, none⟩ = some (.int .i64 r.s)
  c3 : w.cell? ⟨g, off + 3, none⟩ = some r.row
  row : RowAt w r.row r.bs
  fit : r.bs.length ≤ 140737488351232
  b0 : i64 r.c
  b1 : i64 r.l
  b2 : i64 r.s
theorem R4At.keep {w w' : World} {g off : Nat} {r : Rw} (h : R4At w g off r) (k : Keeps [] w w') : R4At w' g off r :=
  ⟨k.cell' h.c0 (by simp), k.cell' h.c1 (by simp), k.cell' h.c2 (by simp), k.cell' h.c3 (by simp), h.row.keep k (by intro _ _ _ _ _; simp), h.fit, h.b0, h.b1, h.b2⟩
def R4sAt (w : World) (v : Value) (rs : List Rw) : Prop :=
  ∃ (a : Option Addr) (cap : Nat), v = .slice a rs.length cap ∧ rs.length ≤ cap ∧ cap ≤ maxLen ∧ (a = none → cap = 0) ∧
    (rs ≠ [] → ∃ g off, a = some ⟨g, off, none⟩ ∧ g < w.heap.size ∧ ∀ i (h : i < rs.length), R4At w g (off + i * 4) rs[i])
theorem R4sAt.keep {w w' : World} {v : Value} {rs : List Rw} (h : R4sAt w v rs) (k : Keeps [] w w') : R4sAt w' v rs := by
  obtain ⟨a, cap, e, h1, h2, h3, h4⟩ := h
  exact ⟨a, cap, e, h1, h2, h3, fun hne => by
    obtain ⟨g, off, e2, hl, h5⟩ := h4 hne
    exact ⟨g, off, e2, Nat.lt_of_lt_of_le hl k.size, fun i hi => (h5 i hi).keep k⟩⟩
theorem R4sAt.at {w : World} {a : Option Addr} {n cap : Nat} {rs : List Rw} (h : R4sAt w (.slice a n cap) rs) (i : Nat) (hi : i < rs.length) : ∃ g off, a = some ⟨g, off, none⟩ ∧ g < w.heap.size ∧ n = rs.length ∧ R4At w g (off + i * 4) rs[i] := by
  obtain ⟨a', cap', hv, h1, h2, h0, h4⟩ := h
  injection hv with e1 e2 e3
  subst e1; subst e2; subst e3
  obtain ⟨g, off, rfl, hg, hc⟩ := h4 (by intro e; rw [e] at hi; simp at hi)
  exact ⟨g, off, rfl, hg, rfl, hc i hi⟩
/-- Rows whose bytes are few, as rows to be read. -/
theorem R4sAt.rws {w : World} {v : Value} {rs : List Rw} (h : R4sAt w v rs) (hf : ∀ r ∈ rs, r.bs.length ≤ 100) : RwsAt w [] v rs := by
  obtain ⟨a, cap, rfl, h1, h2, h0, h4⟩ := h
  refine ⟨a, cap, rfl, h1, h2, h0, fun r hr => ?_, fun hne => ?_⟩
  · obtain ⟨i, hi, rfl⟩ := List.mem_iff_getElem.1 hr
    obtain ⟨g, off, rfl, hg, hc⟩ := h4 (by intro e; rw [e] at hi; simp at hi)
    have := hc i hi
    exact ⟨this.row, by intro _ _ _ _ _; simp, hf _ hr, this.b0, this.b1, this.b2⟩
  · obtain ⟨g, off, rfl, hg, hc⟩ := h4 hne
    refine ⟨g, off, rfl, hg, by simp, fun j u hu => ?_⟩
    have hj : j < rs.length * 4 := by
      have := (List.getElem?_eq_some_iff.1 hu).1
      rwa [rcells_length] at this
    have hq : j / 4 < rs.length := by omega
    obtain ⟨m0, m1, m2, m3⟩ := rcells_at rs (j / 4) hq
    have R := hc (j / 4) hq
    have hm : j % 4 = 0 ∨ j % 4 = 1 ∨ j % 4 = 2 ∨ j % 4 = 3 := by omega
    rcases hm with hm | hm | hm | hm
    · rw [show j = j / 4 * 4 by omega, m0] at hu; obtain rfl := Option.some.inj hu
      rw [show off + j = off + j / 4 * 4 by omega]; exact R.c0
    · rw [show j = j / 4 * 4 + 1 by omega, m1] at hu; obtain rfl := Option.some.inj hu
      rw [show off + j = off + j / 4 * 4 + 1 by omega]; exact R.c1
    · rw [show j = j / 4 * 4 + 2 by omega, m2] at hu; obtain rfl := Option.some.inj hu
      rw [show off + j = off + j / 4 * 4 + 2 by omega]; exact R.c2
    · rw [show j = j / 4 * 4 + 3 by omega, m3] at hu; obtain rfl := Option.some.inj hu
      rw [show off + j = off + j / 4 * 4 + 3 by omega]; exact R.c3

section
variable {H : Type} {enc : TypeId × Value → H}
theorem cells_vrow : Try.prog.cellsOf 60 = 4 := by kernel_rfl

theorem stamp3_of_trod {W : World} {fuel : Nat} {c0 c1 c2 : Value} {x : DataW H × List MemPlace}
    (h : DataW.trod enc Try.prog W 0 (fun _ => true) true fuel 57 [c0, c1, c2] = some x) : ∃ z : Int × Int × Int, c0 = .int .i64 z.1 ∧ c1 = .int .i64 z.2.1 ∧ c2 = .int .i64 z.2.2 ∧ i64 z.1 ∧ i64 z.2.1 ∧ i64 z.2.2 := by
  obtain ⟨ys, n, _, hx, _, hyl, hf⟩ := DataW.trod_struct Try.underlying57 h
  have t0 : DataW.trod enc Try.prog W 0 (fun _ => true) true n 3 (([c0, c1, c2].drop 0).take (Try.prog.cellsOf 3)) = ys[0]? := hf 0 _ rfl
  have t1 : DataW.trod enc Try.prog W 0 (fun _ => true) true n 3 (([c0, c1, c2].drop 1).take (Try.prog.cellsOf 3)) = ys[1]? := hf 1 _ rfl
  have t2 : DataW.trod enc Try.prog W 0 (fun _ => true) true n 3 (([c0, c1, c2].drop 2).take (Try.prog.cellsOf 3)) = ys[2]? := hf 2 _ rfl
  simp only [cells_int8, List.drop_zero, List.drop_succ_cons, List.take_succ_cons, List.take_zero] at t0 t1 t2
  match ys, hyl with
  | [y0, y1, y2], _ =>
    simp only [List.getElem?_cons_zero, List.getElem?_cons_succ] at t0 t1 t2
    obtain ⟨z0, e0, _, w0⟩ := DataW.trod_int Try.underlying3 t0
    obtain ⟨z1, e1, _, w1⟩ := DataW.trod_int Try.underlying3 t1
    obtain ⟨z2, e2, _, w2⟩ := DataW.trod_int Try.underlying3 t2
    injection e0 with e0 _
    injection e1 with e1 _
    injection e2 with e2 _
    exact ⟨⟨z0, z1, z2⟩, e0, e1, e2, i64_of w0, i64_of w1, i64_of w2⟩

theorem stamps_of_trod {W : World} {fuel : Nat} {cs : List Value} {x : DataW H × List MemPlace} (h : DataW.trod enc Try.prog W 0 (fun _ => true) true fuel 51 cs = some x)
    (_ : ∀ n ∈ x.1.weights Try.prog 51, n ≤ reachBytes) : ∃ v zs, cs = [v] ∧ S3sAt W v zs := by
  rcases Go.Deep.open_slice Try.underlying51 h with ⟨rfl, _⟩ | ⟨a, len, cap, m, n, D, Pl, rfl, _, hl, hm, hmm, rfl, hi⟩
  · exact ⟨_, [], rfl, none, 0, rfl, by simp, by simp, fun _ => rfl, fun h => absurd rfl h⟩
  · simp only [if_true] at hmm
    subst hmm
    by_cases h0 : len = 0
    · subst h0
      exact ⟨_, [], rfl, some a, m, rfl, by simp, hm, by simp, fun h => absurd rfl h⟩
    · obtain ⟨g, off, sp⟩ := a
      have hsp : sp = none := by
        obtain ⟨cs', hc, _⟩ := hi 0 (by omega)
        rw [cells_vstamp] at hc
        obtain ⟨_, hcl, hat⟩ := World.cells?_some hc
        have := hat 0 (by omega)
        rw [List.getElem?_eq_getElem (by omega)] at this
        have hs := World.cell?_spot this
        simpa [Addr.add] using hs
      subst hsp
      obtain ⟨ds, hdl, hda⟩ := list_of (P := fun i z => S3At W g (off + i * 3) z) len (fun i hil => by
        obtain ⟨cs', hc, ht⟩ := hi i (by omega)
        rw [cells_vstamp, Addr.add_lit] at hc
        obtain ⟨_, hl3, hat⟩ := World.cells?_some hc
        match cs', hl3 with
        | [c0, c1, c2], _ =>
          obtain ⟨z, e0, e1, e2, w0, w1, w2⟩ := stamp3_of_trod ht
          subst e0; subst e1; subst e2
          have a0 := hat 0 (by omega)
          have a1 := hat 1 (by omega)
          have a2 := hat 2 (by omega)
          rw [Addr.add_lit] at a0 a1 a2
          exact ⟨z, a0, a1, a2, w0, w1, w2⟩)
      have hlt : g < W.heap.size := World.block_lt_of_cell? _ _ (hda 0 (by omega)).c0
      refine ⟨_, ds, rfl, some ⟨g, off, none⟩, m, by rw [hdl], by omega, hm, by simp, fun _ => ⟨g, off, rfl, hlt, hda⟩⟩

theorem row4_of_trod {W : World} {fuel : Nat} {c0 c1 c2 c3 : Value} {x : DataW H × List MemPlace}
    (h : DataW.trod enc Try.prog W 0 (fun _ => true) true fuel 60 [c0, c1, c2, c3] = some x)
    (hs : ∀ n ∈ x.1.weights Try.prog 60, n ≤ reachBytes) : ∃ r : Rw, c0 = .int .i64 r.c ∧ c1 = .int .i64 r.l ∧ c2 = .int .i64 r.s ∧ c3 = r.row ∧ RowAt W r.row r.bs ∧ r.bs.length ≤ 140737488351232 ∧ i64 r.c ∧ i64 r.l ∧ i64 r.s := by
  obtain ⟨ys, n, _, hx, _, hyl, hf⟩ := DataW.trod_struct Try.underlying60 h
  have t0 : DataW.trod enc Try.prog W 0 (fun _ => true) true n 57 (([c0, c1, c2, c3].drop 0).take (Try.prog.cellsOf 57)) = ys[0]? := hf 0 _ rfl
  have t1 : DataW.trod enc Try.prog W 0 (fun _ => true) true n 29 (([c0, c1, c2, c3].drop 3).take (Try.prog.cellsOf 29)) = ys[1]? := hf 1 _ rfl
  simp only [cells_vstamp, cells_row, List.drop_zero, List.drop_succ_cons, List.take_succ_cons, List.take_zero] at t0 t1
  match ys, hyl with
  | [y0, y1], _ =>
    simp only [List.getElem?_cons_zero, List.getElem?_cons_succ] at t0 t1
    obtain ⟨z, e0, e1, e2, w0, w1, w2⟩ := stamp3_of_trod t0
    obtain ⟨v2, zs2, e3, hr2, hl2⟩ := row_of_trod t1 (fun n hn => hs n (by
      rw [hx]
      simp only [DataW.weights, Try.underlying60, List.map_cons, List.map_nil, DataW.weightsEach, List.mem_append]
      right; left; exact hn))
    injection e3 with e3 _
    exact ⟨⟨z.1, z.2.1, z.2.2, v2, zs2⟩, e0, e1, e2, e3, hr2, hl2, w0, w1, w2⟩

theorem vrows_of_trod {W : World} {fuel : Nat} {cs : List Value} {x : DataW H × List MemPlace} (h : DataW.trod enc Try.prog W 0 (fun _ => true) true fuel 50 cs = some x)
    (hs : ∀ n ∈ x.1.weights Try.prog 50, n ≤ reachBytes) : ∃ v rs, cs = [v] ∧ R4sAt W v rs := by
  rcases Go.Deep.open_slice Try.underlying50 h with ⟨rfl, _⟩ | ⟨a, len, cap, m, n, D, Pl, rfl, _, hl, hm, hmm, rfl, hi⟩
  · exact ⟨_, [], rfl, none, 0, rfl, by simp, by simp, fun _ => rfl, fun h => absurd rfl h⟩
  · simp only [if_true] at hmm
    subst hmm
    have hD : ∀ i, i < len → ∀ k ∈ (D i).weights Try.prog 60, k ≤ reachBytes := by
      intro i hi k hk
      refine hs k ?_
      simp only [DataW.weights, Try.underlying50]
      refine List.mem_cons_of_mem _ (List.mem_append.2 (Or.inl ?_))
      exact mem_weightsAll (List.mem_map.2 ⟨i, List.mem_range.2 hi, rfl⟩) hk
    by_cases h0 : len = 0
    · subst h0
      exact ⟨_, [], rfl, some a, m, rfl, by simp, hm, by simp, fun h => absurd rfl h⟩
    · obtain ⟨g, off, sp⟩ := a
      have hsp : sp = none := by
        obtain ⟨cs', hc, _⟩ := hi 0 (by omega)
        rw [cells_vrow] at hc
        obtain ⟨_, hcl, hat⟩ := World.cells?_some hc
        have := hat 0 (by omega)
        rw [List.getElem?_eq_getElem (by omega)] at this
        have hs := World.cell?_spot this
        simpa [Addr.add] using hs
      subst hsp
      obtain ⟨ds, hdl, hda⟩ := list_of (P := fun i r => R4At W g (off + i * 4) r) len (fun i hil => by
        obtain ⟨cs', hc, ht⟩ := hi i (by omega)
        rw [cells_vrow, Addr.add_lit] at hc
        obtain ⟨_, hl3, hat⟩ := World.cells?_some hc
        match cs', hl3 with
        | [c0, c1, c2, c3], _ =>
          obtain ⟨r, e0, e1, e2, e3, hr, hf, w0, w1, w2⟩ := row4_of_trod ht (hD i hil)
          subst e0; subst e1; subst e2; subst e3
          have a0 := hat 0 (by omega)
          have a1 := hat 1 (by omega)
          have a2 := hat 2 (by omega)
          have a3 := hat 3 (by omega)
          rw [Addr.add_lit] at a0 a1 a2 a3
          exact ⟨r, a0, a1, a2, a3, hr, hf, w0, w1, w2⟩)
      have hlt : g < W.heap.size := World.block_lt_of_cell? _ _ (hda 0 (by omega)).c0
      refine ⟨_, ds, rfl, some ⟨g, off, none⟩, m, by rw [hdl], by omega, hm, by simp, fun _ => ⟨g, off, rfl, hlt, hda⟩⟩
end
end Go.Proofs.Ytkfebgbgnpdgpaa
