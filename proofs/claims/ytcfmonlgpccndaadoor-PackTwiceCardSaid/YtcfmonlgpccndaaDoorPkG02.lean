/- LyM, PyMix, PyIter. -/
import Derived.Test.YtcfmonlgpccndaaDoorPkG01
import Derived.RegionTactic
import Derived.ChangeAlike
import Derived.Laws.OwnMore
import Derived.RangeFuncNested
import Derived.RangeFuncBound
import Derived.RangeFuncCalls
import Derived.RangeFuncLeaves
import Derived.Shelf.Abstract
import Derived.Shelf.RegionOpen
import Derived.WalkKit
import Derived.OwnWalkIn
import Derived.TacticsInMore
import Derived.LoopNIn
import Derived.LoopIn
/- layout, plainly: how many bytes a fragment has, where they lie, what a stripe is cut into, and that its parts make it again. -/
namespace Go.Proofs.YtcfmonlgpccndaaDoor
open Go.RowKit
set_option linter.unusedSimpArgs false

/-- A stripe's name. -/
structure Spe where
  c : Int
  l : Int
  n : Int
deriving DecidableEq, Inhabited
def Spe.cells (s : Spe) : List Value := [.int .i64 s.c, .int .i64 s.l, .int .i64 s.n]
def mayE (s : Spe) : Bool := msB s.c s.l s.n
def maySv (n : Int) : Bool := btw n 3 16
theorem maySv_is {n : Int} : maySv n = true ↔ 3 ≤ n ∧ n ≤ 16 := btw_is
def mayHv (z n : Int) : Bool := maySv n && btw z 0 (400 * (n - 1))
theorem mayHv_is {z n : Int} : mayHv z n = true ↔ (3 ≤ n ∧ n ≤ 16) ∧ 0 ≤ z ∧ z ≤ 400 * (n - 1) := by
  unfold mayHv
  rw [Bool.and_eq_true, maySv_is, btw_is]
def eachI (z n : Int) : Int := if maySv n = true ∧ 1 ≤ z then (z - 1) / (n - 1) + 1 else 0
def placeI (s : Spe) (i n : Int) : Int := if maySv n = true then (s.n + s.c + i) % n else 0
def fromI (i z n : Int) : Int := min (i * eachI z n) z
def toI (i z n : Int) : Int := min (i * eachI z n + eachI z n) z
def longI (i z n : Int) : Int := toI (if i = n - 1 then 0 else i) z n - fromI (if i = n - 1 then 0 else i) z n

/-- The same of naturals. -/
def eN (z n : Nat) : Nat := if z = 0 then 0 else (z - 1) / (n - 1) + 1
def fromN (i z n : Nat) : Nat := min (i * eN z n) z
def lenN (i z n : Nat) : Nat := min (i * eN z n + eN z n) z - min (i * eN z n) z
def longN (i z n : Nat) : Nat := lenN (if i = n - 1 then 0 else i) z n

theorem eN_is {z n : Nat} (h3 : 3 ≤ n) (h16 : n ≤ 16) : eachI z n = eN z n := by
  unfold eachI eN
  by_cases hz : z = 0
  · subst hz
    rw [if_neg (by simp), if_pos rfl]; rfl
  · rw [if_pos ⟨maySv_is.2 ⟨by omega, by omega⟩, by omega⟩, if_neg hz]
    have e1 : ((z : Int) - 1) = ((z - 1 : Nat) : Int) := by omega
    have e2 : ((n : Int) - 1) = ((n - 1 : Nat) : Int) := by omega
    rw [e1, e2, ← Int.natCast_ediv]
    rfl
theorem eN_all {z n : Nat} (h3 : 3 ≤ n) : z ≤ (n - 1) * eN z n := by
  unfold eN
  by_cases hz : z = 0
  · omega
  · rw [if_neg hz]
    have := Nat.div_add_mod (z - 1) (n - 1)
    have h2 := Nat.mod_lt (z - 1) (show 0 < n - 1 by omega)
    rw [Nat.mul_add, Nat.mul_one]
    omega
theorem eN_le (z n : Nat) : eN z n ≤ z := by
  unfold eN
  split
  · omega
  · have := Nat.div_le_self (z - 1) (n - 1)
    omega
theorem eN_most {z n : Nat} (h : z ≤ 400 * (n - 1)) : eN z n ≤ 400 := by
  unfold eN
  by_cases hz : z = 0
  · rw [if_pos hz]; omega
  · rw [if_neg hz]
    have : (z - 1) / (n - 1) < 400 := Nat.div_lt_of_lt_mul (by rw [Nat.mul_comm]; omega)
    omega
theorem eN_pos {z n : Nat} (hz : 0 < z) : 0 < eN z n := by
  unfold eN
  rw [if_neg (by omega)]
  generalize (z - 1) / (n - 1) = q
  omega
theorem lenN_le (i z n : Nat) : lenN i z n ≤ lenN 0 z n := by
  unfold lenN
  rw [Nat.zero_mul]
  generalize i * eN z n = a
  omega
theorem lenN_zero (z n : Nat) : lenN 0 z n = eN z n := by
  have := eN_le z n
  unfold lenN
  rw [Nat.zero_mul]
  omega
theorem longN_le (i z n : Nat) : longN i z n ≤ eN z n := by
  unfold longN
  rw [← lenN_zero]
  exact lenN_le _ _ _
theorem longN_last (z n : Nat) : longN (n - 1) z n = eN z n := by
  unfold longN
  rw [if_pos rfl, lenN_zero]
theorem longN_ne {i z n : Nat} (h : i < n - 1) : longN i z n = lenN i z n := by
  unfold longN
  rw [if_neg (by omega)]
theorem longN_zero (z n : Nat) : longN 0 z n = eN z n := by
  unfold longN
  split <;> exact lenN_zero _ _

theorem fromI_is {i z n : Nat} (h3 : 3 ≤ n) (h16 : n ≤ 16) : fromI i z n = fromN i z n := by
  unfold fromI fromN
  rw [eN_is h3 h16]
  generalize eN z n = e
  rw [← Int.natCast_mul]
  omega
theorem toI_is {i z n : Nat} (h3 : 3 ≤ n) (h16 : n ≤ 16) : toI i z n = (fromN i z n + lenN i z n : Nat) := by
  unfold toI fromN lenN
  rw [eN_is h3 h16]
  generalize eN z n = e
  rw [← Int.natCast_mul]
  omega
theorem longI_is {i z n : Nat} (h3 : 3 ≤ n) (h16 : n ≤ 16) : longI i z n = longN i z n := by
  unfold longI longN
  by_cases h : i = n - 1
  · have h' : (i : Int) = n - 1 := by omega
    rw [if_pos h', if_pos h]
    have a := fromI_is (i := 0) (z := z) h3 h16
    have b := toI_is (i := 0) (z := z) h3 h16
    change fromI 0 z n = _ at a
    change toI 0 z n = _ at b
    rw [a, b]
    omega
  · have h' : ¬ (i : Int) = n - 1 := by omega
    rw [if_neg h', if_neg h, fromI_is h3 h16, toI_is h3 h16]
    omega

/-- A part of a stripe's bytes. -/
def partL (d : List Int) (i n : Nat) : List Int := (d.drop (fromN i d.length n)).take (lenN i d.length n)
def dataL (d : List Int) (n : Nat) : List (List Int) := (List.range (n - 1)).map fun i => partL d i n
/-- All that a stripe is cut into. -/
def rowsL (d : List Int) (n : Nat) : List (List Int) := dataL d n ++ [xorL (dataL d n)]

theorem partL_len (d : List Int) (i n : Nat) : (partL d i n).length = lenN i d.length n := by
  unfold partL
  rw [List.length_take, List.length_drop]
  unfold fromN lenN
  generalize i * eN d.length n = a
  omega
theorem dataL_len (d : List Int) (n : Nat) : (dataL d n).length = n - 1 := by simp [dataL]
theorem rowsL_len {d : List Int} {n : Nat} (h3 : 3 ≤ n) : (rowsL d n).length = n := by
  unfold rowsL
  rw [List.length_append, dataL_len, List.length_singleton]
  omega
theorem dataL_get {d : List Int} {n i : Nat} (h : i < (dataL d n).length) : (dataL d n)[i] = partL d i n := by simp [dataL]
theorem flat_upto (d : List Int) (n k : Nat) : ((List.range k).map fun i => partL d i n).flatten = d.take (fromN k d.length n) := by
  induction k with
  | zero => simp [fromN]
  | succ k ih =>
    rw [List.range_succ, List.map_append, List.flatten_append, ih, List.map_cons, List.map_nil, List.flatten_cons, List.flatten_nil, List.append_nil]
    unfold partL
    rw [← List.take_add]
    congr 1
    unfold fromN lenN
    rw [Nat.succ_mul]
    generalize k * eN d.length n = a
    omega
theorem flat_is {d : List Int} {n : Nat} (h3 : 3 ≤ n) : (dataL d n).flatten = d := by
  unfold dataL
  rw [flat_upto]
  have := eN_all (z := d.length) h3
  unfold fromN
  rw [Nat.min_eq_right this, List.take_length]
theorem partL_byte {d : List Int} (h : ∀ z ∈ d, byteB z) (i n : Nat) : ∀ z ∈ partL d i n, byteB z :=
  fun z hz => h z (List.mem_of_mem_drop (List.mem_of_mem_take hz))
theorem dataL_byte {d : List Int} (h : ∀ z ∈ d, byteB z) (n : Nat) : BytesL (dataL d n) := by
  intro r hr
  unfold dataL at hr
  obtain ⟨i, _, rfl⟩ := List.mem_map.1 hr
  exact partL_byte h i n
theorem longest_data {d : List Int} {n : Nat} (h3 : 3 ≤ n) : longest (dataL d n) = eN d.length n := by
  apply Nat.le_antisymm
  · refine longest_le fun r hr => ?_
    unfold dataL at hr
    obtain ⟨i, _, rfl⟩ := List.mem_map.1 hr
    rw [partL_len, ← lenN_zero]
    exact lenN_le _ _ _
  · have hm : partL d 0 n ∈ dataL d n := List.mem_map.2 ⟨0, by simp; omega, rfl⟩
    have := le_longest hm
    rw [partL_len, lenN_zero] at this
    exact this
theorem rowsL_at {d : List Int} {n i : Nat} (h3 : 3 ≤ n) (hi : i < (rowsL d n).length) : (rowsL d n)[i].length = longN i d.length n := by
  have hl := rowsL_len (d := d) h3
  unfold rowsL at hi ⊢
  rw [List.getElem_append]
  split
  · rename_i h
    rw [dataL_get, partL_len, longN_ne (by rw [dataL_len] at h; exact h)]
  · rename_i h
    rw [dataL_len] at h
    have : i = n - 1 := by unfold rowsL at hl; omega
    subst this
    simp only [dataL_len, Nat.sub_self, List.getElem_cons_zero]
    rw [xorL_length, longest_data h3, longN_last]

/-- Rows that are as long as a stripe's parts of so many bytes. -/
def Canon (l : List (List Int)) (z n : Nat) : Prop := l.length = n - 1 ∧ ∀ i (h : i < l.length), (l[i]'h).length = lenN i z n
theorem canon_of {d : List Int} {n : Nat} : Canon (dataL d n) d.length n := ⟨dataL_len d n, fun i h => by rw [dataL_get h, partL_len]⟩
theorem sum_upto (z n k : Nat) : ((List.range k).map fun i => lenN i z n).sum = fromN k z n := by
  induction k with
  | zero => simp [fromN]
  | succ k ih =>
    rw [List.range_succ, List.map_append, List.sum_append, ih]
    simp only [List.map_cons, List.map_nil, List.sum_cons, List.sum_nil]
    unfold fromN lenN
    rw [Nat.succ_mul]
    generalize k * eN z n = a
    omega
theorem Canon.lens {l : List (List Int)} {z n : Nat} (h : Canon l z n) : l.map List.length = (List.range (n - 1)).map fun i => lenN i z n := by
  apply List.ext_getElem
  · simp [h.1]
  · intro i h1 h2
    simp only [List.getElem_map, List.getElem_range]
    exact h.2 i (by simpa using h1)
theorem Canon.flat {l : List (List Int)} {z n : Nat} (h : Canon l z n) (h3 : 3 ≤ n) : l.flatten.length = z := by
  rw [List.length_flatten, h.lens, sum_upto]
  have := eN_all (z := z) h3
  unfold fromN
  omega
/-- What was joined is cut into the same rows. -/
theorem Canon.back {l : List (List Int)} {z n : Nat} (h : Canon l z n) (h3 : 3 ≤ n) : dataL l.flatten n = l := by
  rw [List.eq_iff_flatten_eq]
  refine ⟨flat_is h3, ?_⟩
  rw [h.lens, Canon.lens canon_of, h.flat h3]
end Go.Proofs.YtcfmonlgpccndaaDoor


/- The walk of parity's mix. -/
namespace Go.Proofs.YtcfmonlgpccndaaDoor
open Go.RowKit

/-- A row that the call owns: its block is g. -/
abbrev Owned (w : World) (B : Nat) (g n cap : Nat) (xs : List Int) : Prop := w.ownsRow B 5 1 (.slice (some ⟨g, 0, none⟩) n cap) n (xs.map (Value.int .u8))

theorem Owned.cell {w : World} {B g n cap : Nat} {xs : List Int} (h : Owned w B g n cap xs) {j : Nat} (hj : j < n) : w.cell? ⟨g, j, none⟩ = some (.int .u8 (xs.getD j 0)) := by
  have hl : xs.length = n := by simpa using h.1
  rw [World.ownsRow.cellAt h j (by omega), List.getElem?_map, List.getElem?_eq_getElem (by omega), List.getD_eq_getElem?_getD, List.getElem?_eq_getElem (by omega)]
  rfl
theorem Owned.length {w : World} {B g n cap : Nat} {xs : List Int} (h : Owned w B g n cap xs) : xs.length = n := by simpa using h.1
theorem Owned.set {w : World} {B g n cap : Nat} {xs : List Int} (h : Owned w B g n cap xs) (j : Nat) (z : Int) : Owned (w.setCell ⟨g, j, none⟩ (.int .u8 z)) B g n cap (xs.set j z) := by
  have := (World.ownsRow.stored h j (.int .u8 z)).1
  rwa [← List.map_set] at this

set_option maxHeartbeats 1000000 in
theorem mix_any (w : World) (B g n cap : Nat) (xs r : List Int) (u : Value) (hown : Owned w B g n cap xs) (hx : ∀ z ∈ xs, byteB z) (hr : RowAt w u r) (hoff : Off [g] u r) (hn : n ≤ 140737488351232) (hrl : r.length ≤ 140737488351232) :
    Calls Tryd.prog 76 #[.slice (some ⟨g, 0, none⟩) n cap, u] w fun e w' => e = .returned (.slice (some ⟨g, 0, none⟩) n cap) ∧ Owned w' B g n cap (mixL xs r) ∧ Keeps [g] w w' := by
  have HL := hid hown.length
  have HO := hid hown
  have HR := hid hr
  have HX := hid hx
  have HF := hid hoff
  obtain ⟨a, cr, rfl, z⟩ := id hr
  clear hown hr hx hoff z
  go_enter Tryd.func76, Tryd.ntmps76
  go_wp2_with fail
  all_goals
    go_loopw [11] (fun i wr => ∃ k : Nat, i = .int .i64 k ∧ k ≤ n ∧ k ≤ r.length ∧ Owned wr B g n cap (mixK xs r k) ∧ Keeps [g] w wr) (fun i _ => n - (intOf i).toNat)
    case atStart => exact ⟨0, rfl, by omega, by omega, by rw [mixK_zero]; exact HO.out, Keeps.refl _ _⟩
    case round =>
      obtain ⟨k, rfl, hk1, hk2, ho, hkk⟩ := hrel
      have HO2 := hid ho
      have HK := hid hkk
      clear ho hkk
      by_cases hlt : k < n ∧ k < r.length
      · obtain ⟨h1, h2⟩ := hlt
        obtain ⟨g2, o2, c2, e1, _, hc⟩ := (HR.out.keep HK.out HF.out).open (by omega)
        injection e1 with e1 _ e3
        subst e1; subst e3
        have cs := HO2.out.cell h1
        have fs := World.ownsRow.frozenAt HO2.out k
        have cr' := hc k h2
        have HB := hid (bx_is (getD_byte HX.out k) (getD_byte HR.out.bytes k))
        have HM := hid (mixK_getD xs r k k (by have := HL.out; omega))
        rw [HM.out, if_neg (Nat.lt_irrefl k)] at cs
        have HS := hid (mixK_set xs r k)
        clear hc
        clear HM
        generalize xs.getD k 0 = b1 at *
        generalize r.getD k 0 = b2 at *
        go_wp2_with fail
        go_region
        all_goals
          go_wp2_with fail
          go_roundw
          case rel =>
            refine ⟨k + 1, by go_num, by omega, by omega, ?_, ?_⟩
            · rw [HB.out, ← HS.out]
              exact Owned.set (show Owned _ B g n cap (mixK xs r k) from HO2.out) k _
            · exact (HK.out.setCell (p := ⟨g, k, none⟩) (Or.inl (by simp)) _).drew
          case measure => simp [intOf]; omega
      · have hm : mixK xs r k = mixL xs r := mixK_all xs r k HX.out (by have := HL.out; omega)
        rw [hm] at HO2
        clear hm
        first
        | (have : k = n := by omega
           subst this)
        | (have : k = r.length := by omega
           subst this)
        go_wp2_with fail
        go_ret
        exact ⟨rfl, HO2.out, HK.out⟩
end Go.Proofs.YtcfmonlgpccndaaDoor


/- The iterators over rows: slices.Values, parity's allBut. -/
namespace Go.Proofs.YtcfmonlgpccndaaDoor
open Go.RowKit Go.Shelf
attribute [local go_sem] Oper.semAt_some

/-- A row of bytes as it came: its value and what it holds. -/
abbrev Rw := Value × List Int
def RwOk (w : World) (r : Rw) : Prop := RowAt w r.1 r.2 ∧ r.2.length ≤ 140737488351232
abbrev El (w : World) := { r : Rw // RwOk w r }
def raws {w : World} (rs : List (El w)) : List (List Int) := rs.map fun r => r.1.2

/-- A slice of rows. -/
def RowsAt {w0 : World} (w : World) (v : Value) (rs : List (El w0)) : Prop :=
  ∃ (a : Option Addr) (cap : Nat), v = .slice a rs.length cap ∧ rs.length ≤ cap ∧ cap ≤ maxLen ∧ (a = none → cap = 0) ∧
    ∀ ad, a = some ad → ∀ j u, (rs.map fun r => r.1.1)[j]? = some u → w.cell? (ad.add j) = some u

theorem RowsAt.open {w0 w : World} {v : Value} {rs : List (El w0)} (h : RowsAt w v rs) (hne : 0 < rs.length) :
    ∃ g off cap, v = .slice (some ⟨g, off, none⟩) rs.length cap ∧ rs.length ≤ cap ∧ ∀ j (hj : j < rs.length), w.cell? ⟨g, off + j, none⟩ = some rs[j].1.1 := by
  obtain ⟨a, cap, rfl, h1, h2, h3, h5⟩ := h
  cases a with
  | none => have := h3 rfl; omega
  | some ad =>
    obtain ⟨g, off, sp⟩ := ad
    have hc := h5 _ rfl 0 rs[0].1.1 (by simp [List.getElem?_eq_getElem hne])
    cases sp with
    | some x =>
      exfalso
      unfold Addr.add at hc
      simp [World.cell?] at hc
      split at hc <;> simp_all
    | none =>
      refine ⟨g, off, cap, rfl, h1, fun j hj => ?_⟩
      have := h5 _ rfl j rs[j].1.1 (by simp [List.getElem?_eq_getElem hj])
      rwa [Addr.add_lit] at this

theorem RowsAt.keep {w0 w w' : World} {v : Value} {rs : List (El w0)} (h : RowsAt w v rs) (k : Keeps [] w w') : RowsAt w' v rs := by
  obtain ⟨a, cap, rfl, h1, h2, h3, h5⟩ := h
  refine ⟨a, cap, rfl, h1, h2, h3, fun ad had j u hu => ?_⟩
  have hc := h5 ad had j u hu
  rw [World.cell?_of_block (w := w) (k.block _ (World.block_lt_of_cell? _ _ hc) (by simp))]
  exact hc

set_option maxRecDepth 100000 in
set_option maxHeartbeats 2000000 in
theorem values1_in (n : Nat) (hn : 1 ≤ n) (l Bs n₀ b off cap : Nat) {w0 : World} (rs : List (El w0)) (hreach : rs.length ≤ 1099511627776) (hb : b < n₀) (J Jx : List (El w0) → World → Prop)
    (hY : ∀ pre x W, J pre W → pre.length < rs.length → YieldAt Fence.wide (n - 1) Tryd.prog l #[x.1.1] W fun e W' =>
      (e = .returned (.bool true) ∧ J (pre ++ [x]) W' ∧ Below n₀ W W') ∨ (e = .returned (.bool false) ∧ Jx (pre ++ [x]) W'))
    (W : World) (hBs : W.cell? ⟨Bs, 0, none⟩ = some (.slice (some ⟨b, off, none⟩) rs.length cap)) (hc : ∀ j (hj : j < rs.length), W.cell? ⟨b, off + j, none⟩ = some rs[j].1.1) (h0 : J [] W) :
    CallsIn Fence.wide n Tryd.prog 74 #[.func (.yield l) #[] #[], .pointer (some ⟨Bs, 0, none⟩)] W fun e W' => (∃ v, e = .returned v) ∧
      ((∃ ys, ys = rs ∧ J ys W') ∨ (∃ pre, True ∧ Jx pre W')) := by
  refine callsIn_of_wp Tryd.func74 rfl trivial ?_ rfl
  simp only [Tryd.ntmps74, List.size_toArray, List.length_cons, List.length_nil, Nat.reduceAdd, Nat.reduceSub, Array.replicate_succ, Array.replicate_zero, List.push_toArray, List.append_toArray, List.nil_append, List.cons_append]
  have HC := hid hc
  have HY := hid hY
  clear hc hY
  gi_wp2
  gi_loopw [7] (fun i wr => ∃ k : Nat, k ≤ rs.length ∧ i = .int .i64 k ∧ J (rs.take k) wr ∧ Below n₀ W wr)
    (fun i _ => rs.length - (intOf i).toNat)
  case atStart => exact ⟨0, Nat.zero_le _, rfl, h0, Below.refl _ _⟩
  case round =>
    obtain ⟨k, hk, rfl, hJs, hnx⟩ := hrel
    have HJ := hid hJs
    have HN := hid hnx
    clear hJs hnx
    by_cases hlt : k < rs.length
    · have hcx : wr.cell? ⟨b, off + k, none⟩ = some rs[k].1.1 := (HN.out.cell (p := ⟨b, off + k, none⟩) hb).trans (HC.out k hlt)
      obtain ⟨fn, tmps, assign, body, hy, hR⟩ := HY.out _ rs[k] wr HJ.out (by rw [List.length_take]; omega)
      have HT := hid (List.take_succ_eq_append_getElem hlt)
      generalize rs[k] = x at *
      obtain ⟨⟨u, zs⟩, hx⟩ := x
      dsimp only at hy hcx
      have HR := hid hR
      clear hR
      gi_wp2
      refine HR.out.mono ?_
      rintro e W3 (⟨rfl, hJ3, hk3⟩ | ⟨rfl, hJx3⟩)
      · have HJ3 := hid hJ3
        have HK3 := hid hk3
        clear hJ3 hk3
        gi_wp2
        go_roundw
        case rel => exact ⟨k + 1, by omega, by simp, by rw [HT.out]; exact HJ3.out, HN.out.trans HK3.out⟩
        case measure => simp [intOf]; omega
      · have HJ3 := hid hJx3
        clear hJx3
        gi_wp2
        refine bodyPost_ret (results_none rfl _ _ _) rfl ?_
        exact ⟨⟨_, rfl⟩, .inr ⟨_, trivial, HJ3.out⟩⟩
    · have : k = rs.length := by omega
      subst this
      rw [List.take_length] at HJ
      gi_wp2
      go_end0
      exact ⟨⟨_, rfl⟩, .inl ⟨_, rfl, HJ.out⟩⟩

set_option maxRecDepth 100000 in
set_option maxHeartbeats 1000000 in
theorem values1_nil_in (n : Nat) (l Bs : Nat) (a : Option Addr) (cap : Nat) {w0 : World} (J : List (El w0) → World → Prop) (W : World) (hBs : W.cell? ⟨Bs, 0, none⟩ = some (.slice a 0 cap)) (h0 : J [] W) :
    CallsIn Fence.wide n Tryd.prog 74 #[.func (.yield l) #[] #[], .pointer (some ⟨Bs, 0, none⟩)] W fun e W' => (∃ v, e = .returned v) ∧ J [] W' := by
  refine callsIn_of_wp Tryd.func74 rfl trivial ?_ rfl
  simp only [Tryd.ntmps74, List.size_toArray, List.length_cons, List.length_nil, Nat.reduceAdd, Nat.reduceSub, Array.replicate_succ, Array.replicate_zero, List.push_toArray, List.append_toArray, List.nil_append, List.cons_append]
  have HJ := hid h0
  clear h0
  gi_wp2
  gi_loopw [7] (fun i wr => i = .int .i64 0 ∧ wr = W) (fun _ _ => 0)
  case atStart => exact ⟨rfl, rfl⟩
  case round =>
    obtain ⟨rfl, rfl⟩ := hrel
    gi_wp2
    go_end0
    exact ⟨⟨_, rfl⟩, HJ.out⟩

set_option maxHeartbeats 1000000 in
theorem values_in (n : Nat) (a : Option Addr) (len cap : Nat) (w : World) :
    CallsIn Fence.wide n Tryd.prog 67 #[.slice a len cap] w fun e w' => e = .returned (.func (.func 74) #[] #[.pointer (some ⟨w.heap.size, 0, none⟩)]) ∧ w.alloc (.cells #[.slice a len cap] 81) = w' := by
  refine callsIn_of_wp Tryd.func67 rfl trivial ?_ rfl
  simp only [Tryd.ntmps67, List.size_toArray, List.length_cons, List.length_nil, Nat.reduceAdd, Nat.reduceSub, Array.replicate_succ, Array.replicate_zero, List.push_toArray, List.append_toArray, List.nil_append, List.cons_append]
  gi_wp2
  go_ret
  exact ⟨rfl, rfl⟩

theorem ret_int {k : IntKind} {a b : Int} (h : a = b) : Ending.returned (.int k a) = .returned (.int k b) := by rw [h]

/-- What has come of all but the i-th, k places on. -/
theorem but_same {α : Type} (l : List α) (i : Nat) (h : i < l.length) : (l.take (i + 1)).eraseIdx i = (l.take i).eraseIdx i := by
  have hl : (l.take i).length = i := by rw [List.length_take]; omega
  rw [List.take_succ_eq_append_getElem h, List.eraseIdx_append_of_length_le (by omega), hl, List.eraseIdx_of_length_le (l := l.take i) (by omega)]
  simp
theorem but_next {α : Type} (l : List α) (i k : Nat) (h : k < l.length) (hne : k ≠ i) : (l.take (k + 1)).eraseIdx i = (l.take k).eraseIdx i ++ [l[k]] := by
  rw [List.take_succ_eq_append_getElem h]
  by_cases hlt : i < k
  · rw [List.eraseIdx_append_of_lt_length (by rw [List.length_take]; omega)]
  · have hl : (l.take k).length = k := by rw [List.length_take]; omega
    rw [List.eraseIdx_of_length_le (by simp; omega), List.eraseIdx_of_length_le (by omega)]

end Go.Proofs.YtcfmonlgpccndaaDoor
