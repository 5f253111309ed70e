/- The deeds of layer 4's laws: as they lie in memory, as they come in; their bytes; the room. -/
import Derived.Test.YtofoeemgplggbaaDkP
namespace Go.Proofs.Ytofoeemgplggbaa
open Go.ChangeShapes Go.WideShapes Go.ChangeAt Go.RowKit
set_option maxRecDepth 100000

structure D4 where
  act : Int
  n : Int
  fill : Int
  long : Int

def D4.cells (d : D4) : List Value := [.int .i64 d.act, .int .i64 d.n, .int .u8 d.fill, .int .i64 d.long]
def d4V (d : D4) : Value := .agg d.cells.toArray
structure D4.Ok (d : D4) : Prop where
  b0 : i64 d.act
  b1 : i64 d.n
  b2 : 0 ≤ d.fill ∧ d.fill ≤ 255
  b3 : i64 d.long

def D4sAt (w : World) (v : Value) (ds : List D4) : Prop :=
  ∃ (a : Option Addr) (cap : Nat), v = .slice a ds.length cap ∧ ds.length ≤ cap ∧ cap ≤ maxLen ∧ (a = none → cap = 0) ∧
    (ds ≠ [] → ∃ g off, a = some ⟨g, off, none⟩ ∧ ∀ i (h : i < ds.length), w.rangeAt g (off + i * 4) ds[i].cells ∧ ds[i].Ok)

theorem D4sAt.keep {w w' : World} {v : Value} {ds : List D4} (h : D4sAt w v ds) (k : Keeps [] w w') : D4sAt w' v ds := by
  obtain ⟨a, cap, rfl, h1, h2, h0, h3⟩ := h
  refine ⟨a, cap, rfl, h1, h2, h0, fun hne => ?_⟩
  obtain ⟨g, off, rfl, h4⟩ := h3 hne
  refine ⟨g, off, rfl, fun i hi => ⟨fun j u hu => ?_, (h4 i hi).2⟩⟩
  have hc := (h4 i hi).1 j u hu
  rw [World.cell?_of_block (w := w) (k.block _ (World.block_lt_of_cell? _ _ hc) (by simp))]
  exact hc

theorem D4sAt.open {w : World} {v : Value} {ds : List D4} (h : D4sAt w v ds) (hne : 0 < ds.length) :
    ∃ g off cap, v = .slice (some ⟨g, off, none⟩) ds.length cap ∧ ds.length ≤ cap ∧ ∀ i (h : i < ds.length), w.rangeAt g (off + i * 4) ds[i].cells ∧ ds[i].Ok := by
  obtain ⟨a, cap, rfl, h1, h2, h0, h3⟩ := h
  obtain ⟨g, off, rfl, h4⟩ := h3 (by rintro rfl; simp at hne)
  exact ⟨g, off, cap, rfl, h1, h4⟩

section
variable {H : Type} {enc : TypeId × Value → H}
theorem cells_deed4 : Try.prog.cellsOf 51 = 4 := by kernel_rfl
theorem cells_i64 : Try.prog.cellsOf 3 = 1 := by kernel_rfl
theorem cells_u84 : Try.prog.cellsOf 5 = 1 := by kernel_rfl

theorem deed4_of_trod {W : World} {fuel : Nat} {cs : List Value} {x : DataW H × List MemPlace} {g off : Nat} (hcl : W.cells? 0 ⟨g, off, none⟩ 4 = some cs)
    (h : DataW.trod enc Try.prog W 0 (fun _ => true) true fuel 51 cs = some x) : ∃ d : D4, W.rangeAt g off d.cells ∧ d.Ok := by
  obtain ⟨_, hl, hat⟩ := World.cells?_some hcl
  obtain ⟨ys, n, _, hx, _, hyl, hf⟩ := DataW.trod_struct Try.underlying51 h
  match cs, hl with
  | [c0, c1, c2, c3], _ =>
    have t0 : DataW.trod enc Try.prog W 0 (fun _ => true) true n 3 (([c0, c1, c2, c3].drop 0).take (Try.prog.cellsOf 3)) = ys[0]? := hf 0 _ rfl
    have t1 : DataW.trod enc Try.prog W 0 (fun _ => true) true n 3 (([c0, c1, c2, c3].drop 1).take (Try.prog.cellsOf 3)) = ys[1]? := hf 1 _ rfl
    have t2 : DataW.trod enc Try.prog W 0 (fun _ => true) true n 5 (([c0, c1, c2, c3].drop 2).take (Try.prog.cellsOf 5)) = ys[2]? := hf 2 _ rfl
    have t3 : DataW.trod enc Try.prog W 0 (fun _ => true) true n 3 (([c0, c1, c2, c3].drop 3).take (Try.prog.cellsOf 3)) = ys[3]? := hf 3 _ rfl
    simp only [cells_i64, cells_u84, List.drop_zero, List.drop_succ_cons, List.take_succ_cons, List.take_zero] at t0 t1 t2 t3
    match ys, hyl with
    | [y0, y1, y2, y3], _ =>
      simp only [List.getElem?_cons_zero, List.getElem?_cons_succ] at t0 t1 t2 t3
      obtain ⟨z0, e0, _, w0⟩ := DataW.trod_int Try.underlying3 t0
      obtain ⟨z1, e1, _, w1⟩ := DataW.trod_int Try.underlying3 t1
      obtain ⟨z2, e2, _, w2⟩ := DataW.trod_int Try.underlying5 t2
      obtain ⟨z3, e3, _, w3⟩ := DataW.trod_int Try.underlying3 t3
      injection e0 with e0 _
      injection e1 with e1 _
      injection e2 with e2 _
      injection e3 with e3 _
      subst e0; subst e1; subst e2; subst e3
      refine ⟨⟨z0, z1, z2, z3⟩, fun j u hu => ?_, i64_of w0, i64_of w1, bounds_u8 w2, i64_of w3⟩
      have hj : j < 4 := (List.getElem?_eq_some_iff.1 hu).1
      have := hat j (by omega)
      rw [Addr.add_lit] at this
      rw [this]
      exact hu

theorem deeds4_of_trod {W : World} {fuel : Nat} {cs : List Value} {x : DataW H × List MemPlace} (h : DataW.trod enc Try.prog W 0 (fun _ => true) true fuel 22 cs = some x) : ∃ v ds, cs = [v] ∧ D4sAt W v ds := by
  rcases Go.Deep.open_slice Try.underlying22 h with ⟨rfl, _⟩ | ⟨a, len, cap, m, n, D, Pl, rfl, _, hl, hm, hmm, rfl, hi⟩
  · exact ⟨_, [], rfl, none, 0, rfl, by simp, by simp, fun _ => rfl, fun h => absurd rfl h⟩
  · simp only [if_true] at hmm
    subst hmm
    by_cases h0 : len = 0
    · subst h0
      exact ⟨_, [], rfl, some a, m, rfl, by simp, hm, by simp, fun h => absurd rfl h⟩
    · obtain ⟨g, off, sp⟩ := a
      have hsp : sp = none := by
        obtain ⟨cs', hc, _⟩ := hi 0 (by omega)
        rw [cells_deed4] at hc
        obtain ⟨_, hcl, hat⟩ := World.cells?_some hc
        have := hat 0 (by omega)
        rw [List.getElem?_eq_getElem (by omega)] at this
        have hs := World.cell?_spot this
        simpa [Addr.add] using hs
      subst hsp
      obtain ⟨ds, hdl, hda⟩ := list_of' (P := fun i (d : D4) => W.rangeAt g (off + i * 4) d.cells ∧ d.Ok) len (fun i hil => by
        obtain ⟨cs', hc, ht⟩ := hi i (by omega)
        rw [cells_deed4, Addr.add_lit] at hc
        exact deed4_of_trod hc ht)
      refine ⟨_, ds, rfl, some ⟨g, off, none⟩, m, by rw [hdl], by omega, hm, by simp, fun _ => ⟨g, off, rfl, hda⟩⟩
end

theorem room4_any (w : World) (v : Value) (ds : List D4) (h : D4sAt w v ds) (n : Int) : Calls Try.prog 6 #[v, .int .i64 n] w fun e w' => e = .returned (.bool (decide ((ds.length : Int) ≤ n))) ∧ w = w' := by
  obtain ⟨a, cap, rfl, h1, h2, h0, h3⟩ := h
  clear h2 h0 h3
  go_enter Try.func6, Try.ntmps6
  go_wp2_with fail
  go_ret
  exact ⟨rfl, rfl⟩

/-- The bytes of a deed. -/
def bytesL (d : D4) : List Int := if 0 ≤ d.long ∧ d.long < 64 then (secL d.fill).take d.long.toNat else secL d.fill

theorem bytesL_len (d : D4) : (bytesL d).length ≤ 64 := by
  unfold bytesL
  split <;> simp [secL]; omega

theorem wpList_boxD4 {ops : Array Oper} {rest : List Oper} {o : Oper} {a : Act} {w : World} {Q : Exit → Act → World → Prop} (hgd : o.guard = none) (x : Operand) (ho : o.op = .box 51 x) (c : Array Value) (hx : a.eval x = .agg c)
    (h : wpList Try.prog ops Q rest (a.put o.dst (.pointer (some ⟨w.heap.size, 0, none⟩))) (w.alloc (.cells c 51))) : wpList Try.prog ops Q (o :: rest) a w := by
  refine wpList_is hgd _ _ ?_ h
  simp [execOp, ho, Instr.box, newVar, newRow, hx, Value.cells, Result.andThen]

theorem row_take4 {w : World} {a : Option Addr} {cap : Nat} {zs : List Int} (h : RowAt w (.slice a zs.length cap) zs) (k : Nat) (hk : k ≤ zs.length) : RowAt w (.slice a k cap) (zs.take k) := by
  obtain ⟨a', cap', e, h1, h2, h3, h4, h5⟩ := h
  injection e with e1 e2 e3
  subst e1; subst e3
  refine ⟨a, cap, by simp [Nat.min_eq_left hk], by simp; omega, h2, h3, fun z hz => h4 z (List.mem_of_mem_take hz), fun ad had j u hu => h5 ad had j u ?_⟩
  rw [List.map_take, List.getElem?_take] at hu
  split at hu
  · exact hu
  · cases hu

theorem dbytes_any (w : World) (d : D4) (hd : d.Ok) :
    Calls Try.prog 21 #[d4V d] w fun e w' => ∃ v, e = .returned v ∧ RowAt w' v (bytesL d) ∧ NewV w v ∧ Keeps [] w w' := by
  obtain ⟨A, N, C, L⟩ := d
  obtain ⟨-, -, b2, b3⟩ := hd
  simp only at b2 b3
  have SA := hid (fun (W : World) => sector_any C b2.1 b2.2 W)
  have z1 : (w.alloc (.cells #[.int .i64 A, .int .i64 N, .int .u8 C, .int .i64 L] 51)).heap.size = w.heap.size + 1 := by simp
  have q2 : (w.alloc (.cells #[.int .i64 A, .int .i64 N, .int .u8 C, .int .i64 L] 51)).cell? ⟨w.heap.size, 2, none⟩ = some (.int .u8 C) := cell_of_row _ _ 2 _ _ (0, 0) (heap_alloc_new w _)
  have q3 : (w.alloc (.cells #[.int .i64 A, .int .i64 N, .int .u8 C, .int .i64 L] 51)).cell? ⟨w.heap.size, 3, none⟩ = some (.int .i64 L) := cell_of_row _ _ 3 _ _ (0, 0) (heap_alloc_new w _)
  have kA : Keeps [] w (w.alloc (.cells #[.int .i64 A, .int .i64 N, .int .u8 C, .int .i64 L] 51)) := (Keeps.refl [] w).alloc _
  have hb1 : 0 ≤ L ∧ L < 64 → bytesL ⟨A, N, C, L⟩ = (secL C).take L.toNat := fun h => by simp only [bytesL, if_pos h]
  have hb2 : ¬ (0 ≤ L ∧ L < 64) → bytesL ⟨A, N, C, L⟩ = secL C := fun h => by simp only [bytesL, if_neg h]
  have HB1 := hid hb1
  have HB2 := hid hb2
  clear hb1 hb2
  by_cases h1 : 0 ≤ L
  · by_cases h2 : L < 64
    · obtain ⟨k, rfl⟩ := Int.eq_ofNat_of_zero_le h1
      have SB : Hid (∀ (W : World), Calls Try.prog 17 #[.int .u8 C] W fun e w' => ∃ a m, e = .returned (.slice a 64 m) ∧ 64 ≤ m ∧ RowAt w' (.slice a 64 m) (secL C) ∧ NewV W (.slice a 64 m) ∧ Keeps [] W w') := hid fun W => (SA.out W).mono (by
        rintro e w' ⟨v, rfl, g1, g2, _, g4⟩
        obtain ⟨a, m, e1, e2, _⟩ := id g1
        subst e1
        rw [secL_len] at e2 g1 g2 ⊢
        exact ⟨a, m, rfl, e2, g1, g2, g4⟩)
      go_enter Try.func21, Try.ntmps21
      go_wp2_with (first | (refine wpList_boxD4 rfl _ rfl #[.int .i64 A, .int .i64 N, .int .u8 C, .int .i64 k] rfl ?_) | (go_at_call 17; go_loud (refine (SB.out _).mono ?_; rintro e w' ⟨a, m, rfl, hm, g1, g2, g4⟩; have q4 : w'.cell? ⟨w.heap.size, 3, none⟩ = some (.int .i64 k) := (by rw [World.cell?_of_block (g4.block _ (by simp) (by simp))]; exact q3); have R1 := hid g1; have N1 := hid g2; have K1 := hid g4; clear g1 g2 g4 q3)) | fail)
      go_ret
      refine ⟨_, rfl, ?_, ?_, kA.trans K1.out⟩
      case refine_2 =>
        have e : ∀ b, (Value.slice a k m).ownBlock = some b → w.heap.size ≤ b := fun b hb => by
          have := N1.out b (by cases a <;> exact hb)
          omega
        exact e
      rw [HB1.out ⟨h1, h2⟩, Int.toNat_natCast]
      exact row_take4 (zs := secL C) (by rw [secL_len]; exact R1.out) k (by rw [secL_len]; omega)
    · go_enter Try.func21, Try.ntmps21
      go_wp2_with (first | (refine wpList_boxD4 rfl _ rfl #[.int .i64 A, .int .i64 N, .int .u8 C, .int .i64 L] rfl ?_) | (go_at_call 17; refine (SA.out _).mono ?_; rintro e w' ⟨v, rfl, g1, g2, ⟨a, n, m, rfl⟩, g4⟩; have q4 : w'.cell? ⟨w.heap.size, 3, none⟩ = some (.int .i64 L) := (by rw [World.cell?_of_block (g4.block _ (by simp) (by simp))]; exact q3); have R1 := hid g1; have N1 := hid g2; have K1 := hid g4; clear g1 g2 g4 q3) | fail)
      go_ret
      exact ⟨_, rfl, by rw [HB2.out (by omega)]; exact R1.out, fun b hb => by have := N1.out b hb; omega, kA.trans K1.out⟩
  · go_enter Try.func21, Try.ntmps21
    go_wp2_with (first | (refine wpList_boxD4 rfl _ rfl #[.int .i64 A, .int .i64 N, .int .u8 C, .int .i64 L] rfl ?_) | (go_at_call 17; refine (SA.out _).mono ?_; rintro e w' ⟨v, rfl, g1, g2, ⟨a, n, m, rfl⟩, g4⟩; have q4 : w'.cell? ⟨w.heap.size, 3, none⟩ = some (.int .i64 L) := (by rw [World.cell?_of_block (g4.block _ (by simp) (by simp))]; exact q3); have R1 := hid g1; have N1 := hid g2; have K1 := hid g4; clear g1 g2 g4 q3) | fail)
    go_ret
    exact ⟨_, rfl, by rw [HB2.out (by omega)]; exact R1.out, fun b hb => by have := N1.out b hb; omega, kA.trans K1.out⟩

end Go.Proofs.Ytofoeemgplggbaa
