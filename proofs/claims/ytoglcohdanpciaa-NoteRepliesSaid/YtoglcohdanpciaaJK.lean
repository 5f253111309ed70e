/- Base, Core, KitG, App, KitF, KitA, KitE. -/
import Derived.WalkKit
import Derived.WalkSpells
import Derived.WalkLawsBesides
import Derived.Test.YtoglcohdanpciaaRows
import Derived.ProofKit
import Derived.Laws.AppendOwnNone
import Derived.OrdersHeld
import Derived.Shelf.Abstract
import Derived.Shelf.RegionOpen
import Derived.Deep.RegionLaw
import Derived.Deep.MidRow
import Derived.Great.BuildSlice
import Derived.Deep.WholeRow
/- Plain notions for the proofs of layer 1: frames, pens and rows of bytes in memory. -/
namespace Go.Proofs.Ytoglcohdanpciaa
open Go.RowKit

theorem hid {p : Prop} (h : p) : Hid p := h

/-- Every block but those of S is as it was; nothing has gone. -/
structure Keeps (S : List Nat) (w w' : World) : Prop where
  os : w'.os = w.os
  tape : w'.tape = w.tape
  output : w'.output = w.output
  size : w.heap.size ≤ w'.heap.size
  block : ∀ k, k < w.heap.size → k ∉ S → w'.heap[k]? = w.heap[k]?

theorem Keeps.refl (S : List Nat) (w : World) : Keeps S w w := ⟨rfl, rfl, rfl, Nat.le_refl _, fun _ _ _ => rfl⟩

theorem Keeps.trans {S : List Nat} {a b c : World} (h : Keeps S a b) (k : Keeps S b c) : Keeps S a c :=
  ⟨k.os.trans h.os, k.tape.trans h.tape, k.output.trans h.output, Nat.le_trans h.size k.size,
    fun i hi hs => (k.block i (Nat.lt_of_lt_of_le hi h.size) hs).trans (h.block i hi hs)⟩

theorem Keeps.mono {S S' : List Nat} {a b : World} (h : Keeps S a b) (hs : ∀ k, k < a.heap.size → k ∈ S → k ∈ S') : Keeps S' a b :=
  ⟨h.os, h.tape, h.output, h.size, fun i hi hn => h.block i hi (fun hm => hn (hs i hi hm))⟩

/-- Two steps, where the second may touch what is new since the first began. -/
theorem Keeps.trans' {S S' : List Nat} {a b c : World} (h : Keeps S a b) (k : Keeps S' b c) (hs : ∀ i, i < a.heap.size → i ∈ S' → i ∈ S) : Keeps S a c :=
  ⟨k.os.trans h.os, k.tape.trans h.tape, k.output.trans h.output, Nat.le_trans h.size k.size,
    fun i hi hn => (k.block i (Nat.lt_of_lt_of_le hi h.size) (fun hm => hn (hs i hi hm))).trans (h.block i hi hn)⟩

theorem Keeps.drew {S : List Nat} {a w : World} (h : Keeps S a w) : Keeps S a w.drew := ⟨h.os, h.tape, h.output, h.size, h.block⟩
theorem Keeps.drewN {S : List Nat} {a w : World} (h : Keeps S a w) (n : Nat) : Keeps S a (w.drewN n) := ⟨h.os, h.tape, h.output, h.size, h.block⟩

theorem Keeps.alloc {S : List Nat} {a w : World} (h : Keeps S a w) (o : Obj) : Keeps S a (w.alloc o) :=
  h.trans ⟨rfl, rfl, rfl, by simp, fun k hk _ => Below.heap_alloc _ _ _ hk⟩

theorem Keeps.setCell {S : List Nat} {a w : World} (h : Keeps S a w) {p : Addr} (hp : p.block ∈ S ∨ a.heap.size ≤ p.block) (u : Value) : Keeps S a (w.setCell p u) :=
  ⟨h.os, h.tape, h.output, by simpa [World.setCell] using h.size, fun k hk hn => by
    rw [Below.heap_setCell _ _ _ _ (fun e => ?_)]
    · exact h.block k hk hn
    · rcases hp with hp | hp
      · exact hn (e ▸ hp)
      · omega⟩

theorem Keeps.grown {S : List Nat} {a w w' : World} {row : Option Nat} (h : Keeps S a w) (hg : w.grownBy w' row) (hr : ∀ k, row = some k → k ∈ S ∨ a.heap.size ≤ k) : Keeps S a w' :=
  ⟨hg.os.trans h.os, hg.tape.trans h.tape, hg.output.trans h.output, Nat.le_trans h.size hg.size, fun k hk hn => by
    rw [hg.block k (Nat.lt_of_lt_of_le hk h.size) (fun e => ?_)]
    · exact h.block k hk hn
    · rcases hr k e.symm with hp | hp
      · exact hn hp
      · omega⟩

theorem Keeps.below {S : List Nat} {a b : World} (h : Keeps S a b) {B : Nat} (hB : B ≤ a.heap.size) (hS : ∀ k ∈ S, B ≤ k) : Below B a b :=
  ⟨h.os, h.tape, h.output, h.size, fun k hk => h.block k (by omega) (fun hm => by have := hS k hm; omega)⟩

/-- A slice value of the bytes zs, to be read. -/
def RowAt (w : World) (v : Value) (zs : List Int) : Prop :=
  ∃ (a : Option Addr) (cap : Nat), v = .slice a zs.length cap ∧ zs.length ≤ cap ∧ cap ≤ maxLen ∧ (a = none → cap = 0) ∧ (∀ z ∈ zs, 0 ≤ z ∧ z ≤ 255) ∧
    ∀ ad, a = some ad → ∀ j u, (zs.map (Value.int .u8))[j]? = some u → w.cell? (ad.add j) = some u

/-- The slice's bytes lie in none of the blocks of S. -/
def Off (S : List Nat) (v : Value) (zs : List Int) : Prop := ∀ ad n c, v = .slice (some ad) n c → zs ≠ [] → ad.block ∉ S

theorem Addr.add_block (a : Addr) (j : Nat) : (a.add j).block = a.block := by unfold Addr.add; split <;> rfl

theorem RowAt.keep {w w' : World} {v : Value} {zs : List Int} {S : List Nat} (h : RowAt w v zs) (k : Keeps S w w') (ho : Off S v zs) : RowAt w' v zs := by
  obtain ⟨a, cap, rfl, h1, h2, h3, h4, h5⟩ := h
  refine ⟨a, cap, rfl, h1, h2, h3, h4, fun ad had j u hu => ?_⟩
  have hc := h5 ad had j u hu
  have hne : zs ≠ [] := by rintro rfl; simp at hu
  rw [World.cell?_of_block (w := w) (k.block _ (World.block_lt_of_cell? _ _ hc) (by rw [Addr.add_block]; exact ho ad _ _ (by rw [had]) hne))]
  exact hc

theorem RowAt.bytes {w : World} {v : Value} {zs : List Int} (h : RowAt w v zs) : ∀ z ∈ zs, 0 ≤ z ∧ z ≤ 255 := by
  obtain ⟨_, _, _, _, _, _, h4, _⟩ := h
  exact h4

theorem RowAt.nil (w : World) : RowAt w (.slice none 0 0) [] := ⟨none, 0, rfl, by simp, by simp, fun _ => rfl, by simp, by simp⟩

/-- A pen (of either make: its type's number is T, that of a byte U): its two cells; its row is its own. -/
structure PenAt (w : World) (B : Nat) (T U : TypeId) (p : Nat) (v : Value) (zs : List Int) (bad : Int) : Prop where
  blk : w.heap[p]? = some (.cells #[v, .int .i64 bad] T (0, 0))
  own : w.ownsRow B U 1 v zs.length (zs.map (Value.int .u8))
  ne : v.ownBlock ≠ some p
  lo : B ≤ p
  byte : ∀ z ∈ zs, 0 ≤ z ∧ z ≤ 255
  fits : zs.length ≤ 65536

theorem PenAt.cell0 {w : World} {B T U p v zs bad} (h : PenAt w B T U p v zs bad) : w.cell? ⟨p, 0, none⟩ = some v := by simp [World.cell?, h.blk]
theorem PenAt.cell1 {w : World} {B T U p v zs bad} (h : PenAt w B T U p v zs bad) : w.cell? ⟨p, 1, none⟩ = some (.int .i64 bad) := by simp [World.cell?, h.blk]
theorem PenAt.free0 {w : World} {B T U p v zs bad} (h : PenAt w B T U p v zs bad) : w.frozen? ⟨p, 0, none⟩ = false := by simp [World.frozen?, h.blk]
theorem PenAt.free1 {w : World} {B T U p v zs bad} (h : PenAt w B T U p v zs bad) : w.frozen? ⟨p, 1, none⟩ = false := by simp [World.frozen?, h.blk]
theorem PenAt.lt {w : World} {B T U p v zs bad} (h : PenAt w B T U p v zs bad) : p < w.heap.size := lt_of_block h.blk

/-- What a call on a pen leaves. -/
def PenPost (w : World) (B : Nat) (T U : TypeId) (p : Nat) (v : Value) (s : List Int × Int) (e : Ending) (w' : World) : Prop :=
  e = .returned (.tuple #[]) ∧ ∃ v', PenAt w' B T U p v' s.1 s.2 ∧ Keeps (p :: v.ownBlock.toList) w w' ∧ (v'.ownBlock = v.ownBlock ∨ ∀ k, v'.ownBlock = some k → w.heap.size ≤ k)

end Go.Proofs.Ytoglcohdanpciaa


/- Rows of bytes in memory: what is cut out of them, their cells. (For every layer.) -/
namespace Go.Proofs.Ytoglcohdanpciaa
open Go.RowKit

def i64 (z : Int) : Prop := -9223372036854775808 ≤ z ∧ z ≤ 9223372036854775807

theorem info5 : (Try.prog.info? 5).map (fun i => (i.zero, i.size, i.bytes)) = some (some (.int .u8 0), 1, 1) := by kernel_rfl

theorem bytes_elem : Try.prog.underlying 34 = some (.slice (Try.prog.elem 34)) := by kernel_rfl
theorem bytes_el : Try.prog.elem 34 = 5 := by kernel_rfl

theorem size_u8 (W : World) : (sizeOf 5).run Try.prog W = .ok 1 W := by
  obtain ⟨i0, hi, hz0, hz1, hz2⟩ := info_parts info5
  simp [sizeOf, typeInfo, hi, hz1, Result.andThen]

/-- The first n bytes of a row. -/
theorem row_take {w : World} {a : Option Addr} {len cap : Nat} {zs : List Int} (h : RowAt w (.slice a len cap) zs) (n : Nat) (hn : n ≤ zs.length) :
    ∃ a1, (∀ W, (Instr.sliceAt 34 (.slice a len cap) none (some (.int .i64 (n : Int))) none).run Try.prog W = .ok (.slice a1 n cap) W) ∧
      (∀ W, (Instr.slice 34 (.slice a len cap) none (some (.int .i64 (n : Int))) none).run Try.prog W = .ok (.slice a1 n cap) W) ∧
      (∀ W, RowAt W (.slice a len cap) zs → RowAt W (.slice a1 n cap) (zs.take n)) ∧ (∀ ad, a1 = some ad → ∃ ad', a = some ad' ∧ ad'.block = ad.block) := by
  obtain ⟨a', cap', hv, h1, h2, h3, h4, h5⟩ := h
  injection hv with e1 e2 e3
  subst e1; subst e2; subst e3
  have hrun : ∀ W, (Instr.slice 34 (.slice a zs.length cap) none (some (.int .i64 (n : Int))) none).run Try.prog W = .ok (.slice (if cap = 0 then a else a.map (·.add 0)) n cap) W := by
    intro W
    rw [run_slice_h W 34 a zs.length cap bytes_elem .i64 n (by omega) (by omega), bytes_el, size_u8]
    simp [Result.andThen, sliced]
  have hadd : ∀ ad : Addr, ad.add 0 = ad := fun ad => by unfold Addr.add; split <;> simp_all
  have ha : (if cap = 0 then a else a.map (·.add 0)) = a := by
    split
    · rfl
    · cases a <;> simp [hadd]
  rw [ha] at hrun
  refine ⟨a, fun W => by rw [run_sliceAt_slice W 34 _ _ _ _ bytes_elem]; exact hrun W, hrun, ?_, fun ad had => ⟨ad, had, rfl⟩⟩
  rintro W ⟨a', cap', hv, g1, g2, g3, g4, g5⟩
  injection hv with e1 e2 e3
  subst e1; subst e3
  refine ⟨a, cap, by rw [List.length_take, Nat.min_eq_left hn], by rw [List.length_take]; omega, g2, g3, fun z hz => g4 z (List.mem_of_mem_take hz), fun ad had j u hu => g5 ad had j u ?_⟩
  rw [List.map_take, List.getElem?_take] at hu
  split at hu
  · exact hu
  · cases hu

/-- What is behind them. -/
theorem row_drop {w : World} {a : Option Addr} {len cap : Nat} {zs : List Int} (h : RowAt w (.slice a len cap) zs) (n : Nat) (hn : n ≤ zs.length) :
    ∃ a1, (∀ W, (Instr.sliceAt 34 (.slice a len cap) (some (.int .i64 (n : Int))) none none).run Try.prog W = .ok (.slice a1 (zs.length - n) (cap - n)) W) ∧
      (∀ W, (Instr.slice 34 (.slice a len cap) (some (.int .i64 (n : Int))) none none).run Try.prog W = .ok (.slice a1 (zs.length - n) (cap - n)) W) ∧
      (∀ W, RowAt W (.slice a len cap) zs → RowAt W (.slice a1 (zs.length - n) (cap - n)) (zs.drop n)) ∧ (∀ ad, a1 = some ad → ∃ ad', a = some ad' ∧ ad'.block = ad.block) := by
  obtain ⟨a', cap', hv, h1, h2, h3, h4, h5⟩ := h
  injection hv with e1 e2 e3
  subst e1; subst e2; subst e3
  have hrun : ∀ W, (Instr.slice 34 (.slice a zs.length cap) (some (.int .i64 (n : Int))) none none).run Try.prog W = .ok (.slice (if cap = n then a else a.map (·.add n)) (zs.length - n) (cap - n)) W := by
    intro W
    rw [run_slice_l W 34 a zs.length cap bytes_elem .i64 n (by omega) (by omega), bytes_el, size_u8]
    simp [Result.andThen, sliced]
  refine ⟨_, fun W => by rw [run_sliceAt_slice W 34 _ _ _ _ bytes_elem]; exact hrun W, hrun, ?_, ?_⟩
  · rintro W ⟨a', cap', hv, g1, g2, g3, g4, g5⟩
    injection hv with e1 e2 e3
    subst e1; subst e3
    refine ⟨_, cap - n, by rw [List.length_drop], by rw [List.length_drop]; omega, by omega, ?_, fun z hz => g4 z (List.mem_of_mem_drop hz), ?_⟩
    · split
      · intro _; omega
      · cases a with
        | none => intro _; have := g3 rfl; omega
        | some ad => simp
    · intro ad had j u hu
      have hj : n + j < zs.length := by
        have := (List.getElem?_eq_some_iff.1 hu).1
        simp at this; omega
      rw [if_neg (by omega)] at had
      cases a with
      | none => simp at had
      | some ad0 =>
        simp at had
        subst had
        have e : (ad0.add n).add j = ad0.add (n + j) := by
          have hc := g5 ad0 rfl 0 (.int .u8 zs[0]) (by simp [List.getElem?_eq_getElem (show 0 < zs.length by omega)])
          cases hsp : ad0.spot with
          | none =>
            obtain ⟨b0, o0, s0⟩ := ad0
            simp only at hsp
            subst hsp
            rw [Addr.add_lit, Addr.add_lit, Addr.add_lit, Nat.add_assoc]
          | some x =>
            exfalso
            unfold Addr.add at hc
            simp [hsp, World.cell?] at hc
            split at hc <;> simp_all
        rw [e]
        refine g5 ad0 rfl (n + j) u ?_
        rw [← hu, List.map_drop, List.getElem?_drop]
  · intro ad had
    split at had
    · exact ⟨ad, had, rfl⟩
    · cases a with
      | none => simp at had
      | some ad0 => simp at had; exact ⟨ad0, rfl, by rw [← had, Addr.add_block]⟩

/-- The cells of a row that is not empty. -/
theorem RowAt.open {w : World} {v : Value} {zs : List Int} (h : RowAt w v zs) (hne : 0 < zs.length) :
    ∃ g off cap, v = .slice (some ⟨g, off, none⟩) zs.length cap ∧ zs.length ≤ cap ∧ ∀ j, j < zs.length → w.cell? ⟨g, off + j, none⟩ = some (.int .u8 (zs.getD j 0)) := by
  obtain ⟨a, cap, rfl, h1, h2, h3, h4, h5⟩ := h
  cases a with
  | none => have := h3 rfl; omega
  | some ad =>
    obtain ⟨g, off, sp⟩ := ad
    have hc := h5 _ rfl 0 (.int .u8 zs[0]) (by simp [List.getElem?_eq_getElem hne])
    cases sp with
    | some x =>
      exfalso
      unfold Addr.add at hc
      simp [World.cell?] at hc
      split at hc <;> simp_all
    | none =>
      refine ⟨g, off, cap, rfl, h1, fun j hj => ?_⟩
      have := h5 _ rfl j (.int .u8 zs[j]) (by simp [List.getElem?_eq_getElem hj])
      rw [Addr.add_lit] at this
      rw [this, List.getD_eq_getElem?_getD, List.getElem?_eq_getElem hj]
      rfl

theorem take_snoc (zs : List Int) (k : Nat) (h : k < zs.length) : zs.take (k + 1) = zs.take k ++ [zs.getD k 0] := by
  rw [List.take_succ_eq_append_getElem h, List.getD_eq_getElem?_getD, List.getElem?_eq_getElem h]
  rfl

theorem row_lit {w : World} (zs : List Int) (T : TypeId) (hz : ∀ z ∈ zs, 0 ≤ z ∧ z ≤ 255) (n : Nat) (hn : n = zs.length) (hm : n ≤ maxLen) :
    RowAt (w.alloc (.cells (zs.map (Value.int .u8)).toArray T)) (.slice (some ⟨w.heap.size, 0, none⟩) n n) zs := by
  subst hn
  refine ⟨some ⟨w.heap.size, 0, none⟩, zs.length, rfl, Nat.le_refl _, hm, by simp, hz, ?_⟩
  rintro ad had j u hu
  obtain rfl := Option.some.inj had
  rw [Addr.add_lit, cell_of_row _ _ _ _ _ _ (heap_alloc_new w _), Nat.zero_add]
  simpa using hu

theorem own : ownKnob Try.prog.godebug = none := by kernel_rfl
theorem laidOut : laidOutB Try.prog = true := by kernel_rfl

end Go.Proofs.Ytoglcohdanpciaa


/- Plain: a number between two; a stripe that may be. (For every layer.) -/
namespace Go.Proofs.Ytoglcohdanpciaa
open Go.RowKit
set_option maxRecDepth 100000
set_option linter.unusedSimpArgs false

def btw (x lo hi : Int) : Bool := decide (lo ≤ x) && decide (x ≤ hi)
theorem btw_is {x lo hi : Int} : btw x lo hi = true ↔ lo ≤ x ∧ x ≤ hi := by simp [btw]
def msB (c l n : Int) : Bool := btw c 0 4 && btw l 0 1048576 && btw n 0 1073741824
theorem ret_boolP {a b : Bool} (h : a = b) : Ending.returned (.bool a) = .returned (.bool b) := by rw [h]
set_option maxHeartbeats 3200000 in
theorem rMayStripe_any (w : World) (c l n : Int) (b : Bool) (hb : msB c l n = b) : Calls Try.prog 65 #[.agg #[.int .i64 c, .int .i64 l, .int .i64 n]] w fun e w' => e = .returned (.bool b) ∧ Keeps [] w w' := by
  subst hb
  have E : Hid (msB c l n = (decide (0 ≤ c) && (decide (c ≤ 4) && (decide (0 ≤ l) && (decide (l ≤ 1048576) && (decide (0 ≤ n) && decide (n ≤ 1073741824))))))) := hid (by simp [msB, btw, Bool.and_assoc])
  have KB := hid ((Keeps.refl [] w).alloc (.cells #[.int .i64 c, .int .i64 l, .int .i64 n] 30))
  by_cases h0 : 0 ≤ c
  · by_cases h1 : c ≤ 4
    · by_cases h2 : 0 ≤ l
      · by_cases h3 : l ≤ 1048576
        · by_cases h4 : 0 ≤ n
          · by_cases h5 : n ≤ 1073741824
            · go_enter Try.func65, Try.ntmps65
              go_wp2_with fail
              go_ret
              exact ⟨ret_boolP (by rw [E.out]; simp [h0, h1, h2, h3, h4, h5] <;> omega), KB.out⟩
            · go_enter Try.func65, Try.ntmps65
              go_wp2_with fail
              go_ret
              exact ⟨ret_boolP (by rw [E.out]; simp [h0, h1, h2, h3, h4, h5] <;> omega), KB.out⟩
          · go_enter Try.func65, Try.ntmps65
            go_wp2_with fail
            go_ret
            exact ⟨ret_boolP (by rw [E.out]; simp [h0, h1, h2, h3, h4] <;> omega), KB.out⟩
        · go_enter Try.func65, Try.ntmps65
          go_wp2_with fail
          go_ret
          exact ⟨ret_boolP (by rw [E.out]; simp [h0, h1, h2, h3] <;> omega), KB.out⟩
      · go_enter Try.func65, Try.ntmps65
        go_wp2_with fail
        go_ret
        exact ⟨ret_boolP (by rw [E.out]; simp [h0, h1, h2] <;> omega), KB.out⟩
    · go_enter Try.func65, Try.ntmps65
      go_wp2_with fail
      go_ret
      exact ⟨ret_boolP (by rw [E.out]; simp [h0, h1] <;> omega), KB.out⟩
  · go_enter Try.func65, Try.ntmps65
    go_wp2_with fail
    go_ret
    exact ⟨ret_boolP (by rw [E.out]; simp [h0] <;> omega), KB.out⟩

end Go.Proofs.Ytoglcohdanpciaa


/- The built-in append on a row of bytes that the call owns, whatever row is appended: what is owned behind it, and that its block is the old one or new. -/
namespace Go.Proofs.Ytoglcohdanpciaa
open Go.RowKit

/-- The new value's block is the old one's, or new. -/
def NewRow (w : World) (v v' : Value) : Prop := v'.ownBlock = v.ownBlock ∨ ∀ k, v'.ownBlock = some k → w.heap.size ≤ k

theorem run_append_new {P : Program} (w : World) (B : Nat) (t ty e : TypeId) (i : TypeInfo) (z : Value) (ht : P.underlying t = some (.slice e)) (hi : P.info? e = some i) (hz : i.zero = some z)
    (hsize : i.size = 1) (hby : i.bytes = 1) (hzs : z.cells.size = 1) (v : Value) (n : Nat) (xs : List Value) (hown : w.ownsRow B e 1 v n xs)
    (a : Addr) (m c : Nat) (news : List Value) (hl : news.length = m) (hnews : ∀ j u, news[j]? = some u → w.cell? (a.add j) = some u) (h1 : ∀ u ∈ news, u.oneCell' = true)
    (hn : n + m ≤ 70368744177664) (hbase : B ≤ w.heap.size) :
    ∃ v' w', (Builtin.append_ #[t, t] ty #[v, .slice (some a) m c]).run P w = .ok v' w' ∧ w'.ownsRow B e 1 v' (n + m) (xs ++ news) ∧ w.grownBy w' v.ownBlock ∧ NewRow w v v' := by
  have hlen : news.length = m * 1 := by omega
  have hmax : n + m ≤ maxLen := by unfold maxLen; omega
  obtain ⟨v', w', hr, ho, hg, _⟩ := run_append_own (P := P) w B t ty e i z 1 1 ht hi hz hsize hby hzs (by omega) v n xs hown a m c news hlen hnews h1 hmax (by omega) hbase
  refine ⟨v', w', hr, ho, hg, ?_⟩
  rcases hown.2 with ⟨rfl, rfl⟩ | ⟨g, cap, cur, rfl, _, hgg, hnc, _, hcs, htake⟩
  · right
    have hx : xs = [] := List.eq_nil_of_length_eq_zero (by simpa using hown.1)
    subst hx
    obtain ⟨v2, w2, hr2, ho2, _⟩ := run_append_own (P := P) w w.heap.size t ty e i z 1 1 ht hi hz hsize hby hzs (by omega) (.slice none 0 0) 0 [] (World.ownsRow_nil _ _ _ _) a m c news hlen hnews h1 hmax (by omega) (Nat.le_refl _)
    rw [hr] at hr2
    injection hr2 with e1 e2
    subst e1; subst e2
    exact fun k hk => (ho2.lt k hk).1
  · by_cases hroom : n + m ≤ cap
    · left
      have hr2 := run_append_room (P := P) w t ty e i ht hi g n cap cur hgg a m c news (by rw [hsize]; exact hlen) hnews h1 hroom (by rw [hsize, hl, hcs]; omega)
      rw [hr] at hr2
      injection hr2 with e1 e2
      subst e1; rfl
    · right
      have hr2 := run_append_grow (P := P) w t ty e i z ht hi hz ⟨g, 0, none⟩ n cap xs (by rw [hsize]; exact hown.1) (hown.cells (g := g) rfl) a m c news (by rw [hsize]; exact hlen) hnews (by omega) (by omega) (growslice_fits (by omega) (by rw [hby]; omega))
      rw [hr] at hr2
      injection hr2 with e1 e2
      subst e1
      intro k hk
      simp [Value.ownBlock] at hk
      omega

theorem ownsRow_slice {w : World} {B : Nat} {e : TypeId} {v : Value} {n : Nat} {xs : List Value} (h : w.ownsRow B e 1 v n xs) : ∃ a c, v = .slice a n c := by
  rcases h.2 with ⟨rfl, rfl⟩ | ⟨g, cap, cur, rfl, _⟩
  · exact ⟨none, 0, rfl⟩
  · exact ⟨_, cap, rfl⟩

/-- A law for the walk: append(s, x...) where s is owned and x any row of bytes. -/
theorem wpList_append_row {P : Program} {w : World} {ops : Array Oper} {rest : List Oper} {o : Oper} {a : Act} {Q : Exit → Act → World → Prop} (hgd : o.guard = none) (s x : Operand) (t : TypeId)
    (ho : o.op = .call { callee := .builtin .append, args := #[s, x], argTypes := #[t, t] })
    (B : Nat) (e : TypeId) (i : TypeInfo) (z : Value) (ht : P.underlying t = some (.slice e)) (hi : P.info? e = some i) (hz : i.zero = some z)
    (hsize : i.size = 1) (hby : i.bytes = 1) (hzs : z.cells.size = 1) (v : Value) (n : Nat) (xs : List Value) (hs : a.eval s = v) (hown : w.ownsRow B e 1 v n xs)
    (u : Value) (bs : List Int) (hx : a.eval x = u) (hr : RowAt w u bs) (hn : n + bs.length ≤ 70368744177664) (hbase : B ≤ w.heap.size)
    (h : ∀ a' c' w', Hid (w'.ownsRow B e 1 (.slice a' (n + bs.length) c') (n + bs.length) (xs ++ bs.map (Value.int .u8))) → Hid (w.grownBy w' v.ownBlock) → Hid (NewRow w v (.slice a' (n + bs.length) c')) → wpList P ops Q rest (a.put o.dst (.slice a' (n + bs.length) c')) w') :
    wpList P ops Q (o :: rest) a w := by
  refine wpList_plain hgd fun K hK => ?_
  obtain ⟨ad, cap, rfl, h1, h2, h3, h4, h5⟩ := hr
  cases ad with
  | none =>
    obtain rfl := h3 rfl
    have hb : bs = [] := List.eq_nil_of_length_eq_zero (by omega)
    subst hb
    have hrun := run_append_owned_none (P := P) (w := w) B t o.type e i 1 ht hi v n xs hown
    unfold Oper.wp
    simp only [List.length_nil] at hx
    simp [execOp, ho, resolve, invoke, builtin, hs, hx, hrun, Result.andThen]
    obtain ⟨a', c', rfl⟩ := ownsRow_slice hown
    exact hK _ _ (h a' c' w (by simpa [Hid] using hown) ⟨rfl, rfl, rfl, Nat.le_refl _, fun _ _ _ => rfl⟩ (Or.inl rfl))
  | some ad =>
    obtain ⟨v', w', hrun, g1, g2, g3⟩ := run_append_new (P := P) w B t o.type e i z ht hi hz hsize hby hzs v n xs hown ad bs.length cap (bs.map (Value.int .u8)) (by simp) (h5 ad rfl) (by simp [Value.oneCell']) hn hbase
    unfold Oper.wp
    simp [execOp, ho, resolve, invoke, builtin, hs, hx, hrun, Result.andThen]
    obtain ⟨a', c', rfl⟩ := ownsRow_slice g1
    exact hK _ _ (h a' c' w' g1 g2 g3)

/-- What is owned can be read. -/
theorem row_of_own {w : World} {B : Nat} {e : TypeId} {v : Value} {zs : List Int} (h : w.ownsRow B e 1 v zs.length (zs.map (Value.int .u8))) (hz : ∀ z ∈ zs, 0 ≤ z ∧ z ≤ 255) : RowAt w v zs := by
  rcases h.2 with ⟨rfl, h0⟩ | ⟨g, cap, cur, rfl, hb, hg, hnc, hcm, hcs, ht⟩
  · rw [List.eq_nil_of_length_eq_zero h0]
    exact RowAt.nil w
  · refine ⟨_, cap, rfl, hnc, hcm, by simp, hz, ?_⟩
    rintro ad had j u hu
    obtain rfl := Option.some.inj had
    exact h.cells (g := g) rfl j u hu

/-- A slice in new memory (or nil) that holds zs; all that was there is there. -/
def NewPost (w : World) (zs : List Int) (e : Ending) (w' : World) : Prop :=
  ∃ a c, e = .returned (.slice a zs.length c) ∧ RowAt w' (.slice a zs.length c) zs ∧ (∀ ad, a = some ad → w.heap.size ≤ ad.block) ∧ Keeps [] w w'

end Go.Proofs.Ytoglcohdanpciaa


/- append of structs onto a row of the call's own: where the new row lies. (For every layer.) -/
namespace Go.Proofs.Ytoglcohdanpciaa
open Go.RowKit

theorem ownsRow_slice0 {w : World} {B : Nat} {e : TypeId} {s : Nat} {v : Value} {n : Nat} {xs : List Value} (h : w.ownsRow B e s v n xs) : ∃ a c, v = .slice a n c := by
  rcases h.2 with ⟨rfl, rfl⟩ | ⟨g, cap, cur, rfl, _⟩
  · exact ⟨none, 0, rfl⟩
  · exact ⟨_, cap, rfl⟩

/-- Of a run of append: where the new row lies. -/
theorem run_append_rowsO {P : Program} (w : World) (B : Nat) (t ty e : TypeId) (i : TypeInfo) (z : Value) (size bytes : Nat) (ht : P.underlying t = some (.slice e)) (hi : P.info? e = some i) (hz : i.zero = some z)
    (hsize : i.size = size) (hby : i.bytes = bytes) (hzs : z.cells.size = size) (hsz : 0 < size) (v : Value) (n : Nat) (xs : List Value) (hown : w.ownsRow B e size v n xs)
    (A : Option Addr) (m c : Nat) (news : List Value) (hl : news.length = m * size) (hA : A = none → c = 0) (hmc : m ≤ c) (hnews : ∀ ad, A = some ad → ∀ j u, news[j]? = some u → w.cell? (ad.add j) = some u) (h1 : ∀ u ∈ news, u.oneCell' = true)
    (hn : n + m ≤ maxLen) (hb : (n + m) * bytes ≤ 140737488355328) (hbase : B ≤ w.heap.size) :
    ∃ a' c' w', (Builtin.append_ #[t, t] ty #[v, .slice A m c]).run P w = .ok (.slice a' (n + m) c') w' ∧ w'.ownsRow B e size (.slice a' (n + m) c') (n + m) (xs ++ news) ∧ w.grownBy w' v.ownBlock ∧ NewRow w v (.slice a' (n + m) c') := by
  cases A with
  | none =>
    obtain rfl := hA rfl
    obtain rfl : m = 0 := by omega
    have hb : news = [] := List.eq_nil_of_length_eq_zero (by simpa using hl)
    subst hb
    have hrun := run_append_owned_none (P := P) (w := w) B t ty e i size ht hi v n xs hown
    obtain ⟨a', c', rfl⟩ := ownsRow_slice0 hown
    refine ⟨a', c', w, ?_, by simpa using hown, ⟨rfl, rfl, rfl, Nat.le_refl _, fun _ _ _ => rfl⟩, Or.inl rfl⟩
    simpa using hrun
  | some ad =>
    obtain ⟨v', w', hr, ho, hg, _⟩ := run_append_own (P := P) w B t ty e i z size bytes ht hi hz hsize hby hzs hsz v n xs hown ad m c news hl (hnews ad rfl) h1 hn hb hbase
    obtain ⟨a', c', rfl⟩ := ownsRow_slice0 ho
    refine ⟨a', c', w', hr, ho, hg, ?_⟩
    rcases hown.2 with ⟨rfl, rfl⟩ | ⟨g, cap, cur, rfl, _, hgg, hnc, hcm, hcs, htake⟩
    · right
      have hx : xs = [] := List.eq_nil_of_length_eq_zero (by simpa using hown.1)
      subst hx
      obtain ⟨v2, w2, hr2, ho2, _⟩ := run_append_own (P := P) w w.heap.size t ty e i z size bytes ht hi hz hsize hby hzs hsz (.slice none 0 0) 0 [] (World.ownsRow_nil _ _ _ _) ad m c news hl (hnews ad rfl) h1 hn hb (Nat.le_refl _)
      rw [hr] at hr2
      injection hr2 with e1 e2
      subst e1; subst e2
      exact fun k hk => (ho2.lt k hk).1
    · by_cases hroom : n + m ≤ cap
      · left
        have hr2 := run_append_room (P := P) w t ty e i ht hi g n cap cur hgg ad m c news (by rw [hsize]; exact hl) (hnews ad rfl) h1 hroom (by rw [hsize, hl, hcs, ← Nat.add_mul]; exact Nat.mul_le_mul_right _ hroom)
        rw [hr] at hr2
        injection hr2 with e1 e2
        injection e1 with e1 _ _
        subst e1; rfl
      · right
        have hsmall : n + m ≤ 9223372036854775807 := by simp only [maxLen] at hn; omega
        have hr2 := run_append_grow (P := P) w t ty e i z ht hi hz ⟨g, 0, none⟩ n cap xs (by rw [hsize]; exact hown.1) (hown.cells (g := g) rfl) ad m c news (by rw [hsize]; exact hl) (hnews ad rfl) (by omega) (by omega) (growslice_fits (by omega) (by rw [hby]; omega))
        rw [hr] at hr2
        injection hr2 with e1 e2
        injection e1 with e1 _ _
        subst e1
        intro k hk
        simp [Value.ownBlock] at hk
        omega

end Go.Proofs.Ytoglcohdanpciaa


/- Laws of the walk that speak of no program: drawn regions one operation at a time, what is kept, single operations. (For every layer without the texts of disk.) -/
namespace Go.Proofs.Ytoglcohdanpciaa
open Go.RowKit Go.Shelf

section
variable {P : Program} {ops : Array Oper} {Q : Exit → Act → World → Prop} {md : Region.Mode}

/-- What may be taken first, in whatever world of S. -/
theorem held_take {S : World → Prop} {i : Nat} {oi : Oper} {v : Value} {fuel : Nat} {listed : Array Bool} {a : Act} {w : World} (hi : ops.toList[i]? = some oi)
    (hs : Region.noSelect ops = true) (hf : Region.free md ops listed i = true) (hr : (Region.ready md ops listed).contains i = true)
    (hQ : ∀ c a w, Q (.panic c) (a.put oi.dst v) w → Q (.panic c) a w) (hg : oi.guard = none) (hy : ∀ w, S w → (execOp a.eval oi).run P w = .ok (.value v) w) (hS : S w)
    (h : wpAnyH P md ops Q S fuel (listed.setIfInBounds i true) (a.put oi.dst v) w) : wpAnyH P md ops Q S (fuel + 1) listed a w :=
  wpAnyH_take (by simpa using hi) hs hf hr hQ (Or.inl ⟨by simp [Region.wanted, hg], hy⟩) hS h

/-- The one that may come up. -/
theorem held_do {S : World → Prop} {i : Nat} {o : Oper} {fuel : Nat} {listed : Array Bool} {a : Act} {w : World} (hr : Region.ready md ops listed = [i]) (ho' : ops.toList[i]? = some o) (hg : o.guard = none)
    (h : o.wp P a w (fun a' w' => S w' ∧ wpAnyH P md ops Q S fuel (listed.setIfInBounds i true) a' w') Q) : wpAnyH P md ops Q S (fuel + 1) listed a w := by
  have ho : ops[i]? = some o := by simpa using ho'
  have hw : Region.wanted o (yielded ops a.tmps) = true := by simp [Region.wanted, hg]
  refine wpAnyH_all hr (by simp) fun j hj => ?_
  obtain rfl : j = i := by simpa using hj
  unfold wpOp
  simp only [ho, hw, if_true]
  exact Or.inl h

theorem wp_value {o : Oper} {a : Act} {w w' : World} {K : Act → World → Prop} {v : Value} (hrun : (execOp a.eval o).run P w = .ok (.value v) w') (h : K (a.put o.dst v) w') : o.wp P a w K Q := by
  unfold Oper.wp
  rw [hrun, Oper.upon_value]
  exact h

theorem wp_stored {o : Oper} {a : Act} {w w' : World} {K : Act → World → Prop} (hrun : (execOp a.eval o).run P w = .ok .skip w') (h : K (a.put o.dst undef) w') : o.wp P a w K Q := by
  unfold Oper.wp
  rw [hrun]
  exact h

/-- A call of a Go function. -/
theorem wp_enter {o : Oper} {a : Act} {w : World} {K : Act → World → Prop} {f : FuncId} {args : Array Value} {R : Ending → World → Prop} (hrun : (execOp a.eval o).run P w = .ok (.enter f args) w) (hc : Calls P f args w R)
    (h : ∀ e w', R e w' → ∃ v, e = .returned v ∧ K (a.put o.dst v) w') : o.wp P a w K Q := by
  unfold Oper.wp
  rw [hrun, Oper.upon_enter]
  refine hc.mono fun e w' hr => ?_
  obtain ⟨v, rfl, hk⟩ := h e w' hr
  exact hk

/-- A guarded one that is wanted. -/
theorem held_takeW {S : World → Prop} {i : Nat} {oi : Oper} {v : Value} {fuel : Nat} {listed : Array Bool} {a : Act} {w : World} (hi : ops.toList[i]? = some oi)
    (hs : Region.noSelect ops = true) (hf : Region.free md ops listed i = true) (hr : (Region.ready md ops listed).contains i = true)
    (hQ : ∀ c a w, Q (.panic c) (a.put oi.dst v) w → Q (.panic c) a w) (hw : Region.wanted oi (yielded ops a.tmps) = true) (hy : ∀ w, S w → (execOp a.eval oi).run P w = .ok (.value v) w) (hS : S w)
    (h : wpAnyH P md ops Q S fuel (listed.setIfInBounds i true) (a.put oi.dst v) w) : wpAnyH P md ops Q S (fuel + 1) listed a w :=
  wpAnyH_take (by simpa using hi) hs hf hr hQ (Or.inl ⟨hw, hy⟩) hS h
/-- A guarded one that is not wanted. -/
theorem held_skip {S : World → Prop} {i : Nat} {oi : Oper} {fuel : Nat} {listed : Array Bool} {a : Act} {w : World} (hi : ops.toList[i]? = some oi)
    (hs : Region.noSelect ops = true) (hf : Region.free md ops listed i = true) (hr : (Region.ready md ops listed).contains i = true)
    (hQ : ∀ c a w, Q (.panic c) (a.put oi.dst undef) w → Q (.panic c) a w) (hw : Region.wanted oi (yielded ops a.tmps) = false) (hS : S w)
    (h : wpAnyH P md ops Q S fuel (listed.setIfInBounds i true) (a.put oi.dst undef) w) : wpAnyH P md ops Q S (fuel + 1) listed a w :=
  wpAnyH_take (by simpa using hi) hs hf hr hQ (Or.inr ⟨hw, rfl⟩) hS h
/-- A guarded one that is wanted, and the one that may come up. -/
theorem held_doW {S : World → Prop} {i : Nat} {o : Oper} {fuel : Nat} {listed : Array Bool} {a : Act} {w : World} (hr : Region.ready md ops listed = [i]) (ho' : ops.toList[i]? = some o) (hw : Region.wanted o (yielded ops a.tmps) = true)
    (h : o.wp P a w (fun a' w' => S w' ∧ wpAnyH P md ops Q S fuel (listed.setIfInBounds i true) a' w') Q) : wpAnyH P md ops Q S (fuel + 1) listed a w := by
  have ho : ops[i]? = some o := by simpa using ho'
  refine wpAnyH_all hr (by simp) fun j hj => ?_
  obtain rfl : j = i := by simpa using hj
  unfold wpOp
  simp only [ho, hw, if_true]
  exact Or.inl h

/-- A call of a Go function that may panic. -/
theorem wp_enter2 {o : Oper} {a : Act} {w : World} {K : Act → World → Prop} {f : FuncId} {args : Array Value} {R : Ending → World → Prop} (hrun : (execOp a.eval o).run P w = .ok (.enter f args) w) (hc : Calls P f args w R)
    (h : ∀ e w', R e w' → (∃ v, e = .returned v ∧ K (a.put o.dst v) w') ∨ ∃ ch, e = .panicked ch ∧ Q (.panic ch) a w') : o.wp P a w K Q := by
  unfold Oper.wp
  rw [hrun, Oper.upon_enter]
  refine hc.mono fun e w' hr => ?_
  rcases h e w' hr with ⟨v, rfl, hk⟩ | ⟨ch, rfl, hk⟩
  · exact hk
  · exact hk

theorem any_op {i : Nat} {o : Oper} {a : Act} {w w' : World} {v : Value} {K : Act → World → Prop} (ho : ops[i]? = some o) (hg : o.guard = none) (hrun : (execOp a.eval o).run P w = .ok (.value v) w') (h : K (a.put o.dst v) w') : wpOp P ops Q i K a w := by
  have hw : Region.wanted o (yielded ops a.tmps) = true := by simp [Region.wanted, hg]
  unfold wpOp
  simp only [ho, hw, if_true]
  refine Or.inl ?_
  unfold Oper.wp
  rw [hrun, Oper.upon_value]
  exact h

theorem any_take {i : Nat} {oi : Oper} {v : Value} {fuel : Nat} {listed : Array Bool} {a : Act} {w : World} (hi : ops.toList[i]? = some oi)
    (hs : Region.noSelect ops = true) (hf : Region.free md ops listed i = true) (hr : (Region.ready md ops listed).contains i = true)
    (hQ : ∀ c a w, Q (.panic c) (a.put oi.dst v) w → Q (.panic c) a w) (hg : oi.guard = none) (hy : ∀ w, (execOp a.eval oi).run P w = .ok (.value v) w)
    (h : wpAny P md ops Q fuel (listed.setIfInBounds i true) (a.put oi.dst v) w) : wpAny P md ops Q (fuel + 1) listed a w :=
  wpAny_take (by simpa using hi) hs hf hr hQ (Or.inl ⟨by simp [Region.wanted, hg], hy⟩) h

/-- The one that may come up. -/
theorem any_do {i : Nat} {o : Oper} {fuel : Nat} {listed : Array Bool} {a : Act} {w : World} (hr : Region.ready md ops listed = [i]) (ho' : ops.toList[i]? = some o) (hg : o.guard = none)
    (h : o.wp P a w (wpAny P md ops Q fuel (listed.setIfInBounds i true)) Q) : wpAny P md ops Q (fuel + 1) listed a w := by
  have ho : ops[i]? = some o := by simpa using ho'
  have hw : Region.wanted o (yielded ops a.tmps) = true := by simp [Region.wanted, hg]
  refine wpAny_all hr (by simp) fun j hj => ?_
  obtain rfl : j = i := by simpa using hj
  unfold wpOp
  simp only [ho, hw, if_true]
  exact Or.inl h


theorem exec_load {P : Program} {ρ : Operand → Value} {o : Oper} {w : World} (t : TypeId) (x : Operand) (u v : Value) (ho : o.op = .load t x) (hx : ρ x = u) (h : (Instr.loadAt t u).run P w = .ok v w) : (execOp ρ o).run P w = .ok (.value v) w := by
  simp only [execOp, ho, hx, Sem.run_bind, h, Result.andThen_ok, Sem.run_pure]


theorem any_wp {i : Nat} {o : Oper} {a : Act} {w : World} {K : Act → World → Prop} (ho : ops[i]? = some o) (hg : o.guard = none) (h : o.wp P a w K Q) : wpOp P ops Q i K a w := by
  have hw : Region.wanted o (yielded ops a.tmps) = true := by simp [Region.wanted, hg]
  unfold wpOp
  simp only [ho, hw, if_true]
  exact Or.inl h

theorem any_chain {i j k : Nat} {oi oj ok : Oper} {vi : Value} {R1 : Value → World → Prop} {R2 : Value → Value → World → Prop} {fuel : Nat} {listed : Array Bool} {a : Act} {w : World}
    (r0 : Region.ready md ops listed = [i, j]) (r1 : Region.ready md ops (listed.setIfInBounds i true) = [j]) (r2 : Region.ready md ops ((listed.setIfInBounds i true).setIfInBounds j true) = [k])
    (r3 : Region.ready md ops (listed.setIfInBounds j true) = [i, k]) (r5 : Region.ready md ops ((listed.setIfInBounds j true).setIfInBounds k true) = [i])
    (hij : i ≠ j) (hik : i ≠ k) (hi' : ops.toList[i]? = some oi) (hj' : ops.toList[j]? = some oj) (hk' : ops.toList[k]? = some ok) (gi : oi.guard = none) (gj : oj.guard = none) (gk : ok.guard = none)
    (dij : ∀ d, oj.dst = some d → oi.dst ≠ some d) (dik : ∀ d, ok.dst = some d → oi.dst ≠ some d)
    (e0 : (execOp a.eval oi).run P w = .ok (.value vi) w)
    (e1 : ∀ v w1, R1 v w1 → (execOp (a.put oj.dst v).eval oi).run P w1 = .ok (.value vi) w1)
    (e2 : ∀ v u w2, R2 v u w2 → (execOp ((a.put oj.dst v).put ok.dst u).eval oi).run P w2 = .ok (.value vi) w2)
    (ej : ∀ (K : Act → World → Prop), (∀ v w1, R1 v w1 → K (a.put oj.dst v) w1) → oj.wp P a w K Q)
    (ej' : ∀ (K : Act → World → Prop), (∀ v w1, R1 v w1 → K ((a.put oi.dst vi).put oj.dst v) w1) → oj.wp P (a.put oi.dst vi) w K Q)
    (ek : ∀ v w1, R1 v w1 → ∃ u w2, (execOp (a.put oj.dst v).eval ok).run P w1 = .ok (.value u) w2 ∧ R2 v u w2)
    (ek' : ∀ v w1, R1 v w1 → ∃ u w2, (execOp ((a.put oi.dst vi).put oj.dst v).eval ok).run P w1 = .ok (.value u) w2 ∧ R2 v u w2)
    (h : ∀ v u w2, R2 v u w2 → wpAny P md ops Q fuel (((listed.setIfInBounds i true).setIfInBounds j true).setIfInBounds k true) (((a.put oi.dst vi).put oj.dst v).put ok.dst u) w2) :
    wpAny P md ops Q (fuel + 3) listed a w := by
  have hi : ops[i]? = some oi := by simpa using hi'
  have hj : ops[j]? = some oj := by simpa using hj'
  have hk : ops[k]? = some ok := by simpa using hk'
  have c1 : (listed.setIfInBounds j true).setIfInBounds i true = (listed.setIfInBounds i true).setIfInBounds j true := Array.setIfInBounds_comm _ _ (Ne.symm hij)
  have c2 : ((listed.setIfInBounds j true).setIfInBounds k true).setIfInBounds i true = ((listed.setIfInBounds i true).setIfInBounds j true).setIfInBounds k true := by
    rw [Array.setIfInBounds_comm _ _ (Ne.symm hik), c1]
  have p1 : ∀ v, ((a.put oj.dst v).put oi.dst vi) = (a.put oi.dst vi).put oj.dst v := fun v => Act.put_comm a v vi dij
  have p2 : ∀ v u, (((a.put oj.dst v).put ok.dst u).put oi.dst vi) = ((a.put oi.dst vi).put oj.dst v).put ok.dst u := fun v u => by
    rw [← p1]; exact Act.put_comm _ u vi dik
  refine wpAny_all r0 (by simp) fun x hx => ?_
  simp only [List.mem_cons, List.not_mem_nil, or_false] at hx
  rcases hx with rfl | rfl
  · refine any_op hi gi e0 (wpAny_all r1 (by simp) fun y hy => ?_)
    obtain rfl : y = j := by simpa using hy
    refine any_wp hj gj (ej' _ fun v w1 hR => wpAny_all r2 (by simp) fun z hz => ?_)
    obtain rfl : z = k := by simpa using hz
    obtain ⟨u, w2, hrun, hR2⟩ := ek' v w1 hR
    exact any_op hk gk hrun (h v u w2 hR2)
  · refine any_wp hj gj (ej _ fun v w1 hR => wpAny_all r3 (by simp) fun y hy => ?_)
    simp only [List.mem_cons, List.not_mem_nil, or_false] at hy
    rcases hy with rfl | rfl
    · refine any_op hi gi (e1 v w1 hR) ?_
      rw [c1, p1]
      refine wpAny_all r2 (by simp) fun z hz => ?_
      obtain rfl : z = k := by simpa using hz
      obtain ⟨u, w2, hrun, hR2⟩ := ek' v w1 hR
      exact any_op hk gk hrun (h v u w2 hR2)
    · obtain ⟨u, w2, hrun, hR2⟩ := ek v w1 hR
      refine any_op hk gk hrun (wpAny_all r5 (by simp) fun z hz => ?_)
      obtain rfl : z = i := by simpa using hz
      refine any_op hi gi (e2 v u w2 hR2) ?_
      rw [c2, p2]
      exact h v u w2 hR2

end

theorem exec_appendT {P : Program} {ρ : Operand → Value} {o : Oper} {w w' : World} {v u z : Value} (t : TypeId) (x y : Operand) (ho : o.op = .call { callee := .builtin .append, args := #[x, y], argTypes := #[t, t] }) (hx : ρ x = u) (hy : ρ y = z) (h : (Builtin.append_ #[t, t] o.type #[u, z]).run P w = .ok v w') : (execOp ρ o).run P w = .ok (.value v) w' := by
  simp [execOp, ho, resolve, invoke, builtin, hx, hy, h, Result.andThen]

theorem wpList_is {P : Program} {ops : Array Oper} {rest : List Oper} {o : Oper} {a : Act} {w : World} {Q : Exit → Act → World → Prop} (hgd : o.guard = none) (v : Value) (w' : World) (hrun : (execOp a.eval o).run P w = .ok (.value v) w') (h : wpList P ops Q rest (a.put o.dst v) w') : wpList P ops Q (o :: rest) a w := by
  refine wpList_plain hgd fun K hK => ?_
  unfold Oper.wp
  rw [hrun, Oper.upon_value]
  exact hK _ _ h

/-- Behind a step all blocks below n₀ are as they were, but those of S. -/
structure KpS (S : List Nat) (n₀ : Nat) (A B : World) : Prop where
  os : B.os = A.os
  tape : B.tape = A.tape
  output : B.output = A.output
  size : A.heap.size ≤ B.heap.size
  block : ∀ k, k < n₀ → k ∉ S → B.heap[k]? = A.heap[k]?

theorem KpS.refl (S : List Nat) (n₀ : Nat) (A : World) : KpS S n₀ A A := ⟨rfl, rfl, rfl, Nat.le_refl _, fun _ _ _ => rfl⟩
theorem KpS.trans {S : List Nat} {n₀ : Nat} {A B C : World} (h : KpS S n₀ A B) (k : KpS S n₀ B C) : KpS S n₀ A C :=
  ⟨k.os.trans h.os, k.tape.trans h.tape, k.output.trans h.output, Nat.le_trans h.size k.size, fun i hi hs => (k.block i hi hs).trans (h.block i hi hs)⟩
theorem KpS.alloc {S : List Nat} {n₀ : Nat} {A B : World} (h : KpS S n₀ A B) (hn : n₀ ≤ B.heap.size) (o : Obj) : KpS S n₀ A (B.alloc o) :=
  h.trans ⟨rfl, rfl, rfl, by simp, fun k hk _ => Below.heap_alloc _ _ _ (by omega)⟩
theorem KpS.keeps {S T : List Nat} {n₀ : Nat} {A B C : World} (h : KpS S n₀ A B) (k : Keeps T B C) (hn : n₀ ≤ B.heap.size) (hT : ∀ i ∈ T, i < n₀ → i ∈ S) : KpS S n₀ A C :=
  h.trans ⟨k.os, k.tape, k.output, k.size, fun i hi hs => k.block i (by omega) (fun hm => hs (hT i hm hi))⟩
theorem KpS.below {S : List Nat} {n₀ m : Nat} {A B : World} (h : Below m A B) (hm : n₀ ≤ m) : KpS S n₀ A B :=
  ⟨h.os, h.tape, h.output, h.size, fun k hk _ => h.block k (by omega)⟩
theorem KpS.toKeeps {S : List Nat} {A B : World} (h : KpS S A.heap.size A B) : Keeps S A B := ⟨h.os, h.tape, h.output, h.size, h.block⟩
theorem KpS.cell {S : List Nat} {n₀ : Nat} {A B : World} (h : KpS S n₀ A B) {b o : Nat} {v : Value} (hc : A.cell? ⟨b, o, none⟩ = some v) (hb : b < n₀) (hs : b ∉ S) : B.cell? ⟨b, o, none⟩ = some v := by
  rw [World.cell?_of_block (w := A) (h.block b hb hs)]; exact hc

theorem run_loadCell {P : Program} (w : World) (t : TypeId) (a : Addr) (v : Value) (hc : w.cell? a = some v) (ht : ∀ w, (isAgg t).run P w = .ok false w) : (Instr.loadAt t (.pointer (some a))).run P w = .ok v w := by
  simp [Instr.loadAt, Instr.sureAddr, loadVar, ht, hc, Result.andThen]
theorem agg_no (t : TypeId) (h : (match Try.prog.underlying t with | some (.struct _) | some (.array _ _) | none => false | _ => true) = true) (W : World) : (isAgg t).run Try.prog W = .ok false W := by
  cases hu : Try.prog.underlying t with
  | none => simp [hu] at h
  | some d =>
    unfold isAgg
    rw [Sem.run_bind, run_underlying hu W]
    cases d <;> simp_all

theorem exec_sliceR {P : Program} {ρ : Operand → Value} {o : Oper} {w : World} {v : Value} (t : TypeId) (x : Operand) (lo hi mx : Option Operand) (ho : o.op = .slice t x lo hi mx) (h : (Instr.sliceAt t (ρ x) (lo.map ρ) (hi.map ρ) (mx.map ρ)).run P w = .ok v w) : (execOp ρ o).run P w = .ok (.value v) w := by
  simp only [execOp, ho, Sem.run_bind, h, Result.andThen_ok, Sem.run_pure]

theorem Keeps.cell' {S : List Nat} {w w' : World} (k : Keeps S w w') {a : Addr} {v : Value} (h : w.cell? a = some v) (hs : a.block ∉ S) : w'.cell? a = some v := by
  rw [World.cell?_of_block (w := w) (k.block _ (World.block_lt_of_cell? _ _ h) hs)]
  exact h
end Go.Proofs.Ytoglcohdanpciaa


/- Structs in new memory: laid, stored, loaded, as single operations. (For every layer.) -/
namespace Go.Proofs.Ytoglcohdanpciaa
open Go.RowKit

theorem zero_of {t : TypeId} {z : Value} {n : Nat} (hi : (Try.prog.info? t).map (fun i => (i.zero, i.size)) = some (some z, n)) (w : World) : (zeroValue t).run Try.prog w = .ok z w := by
  cases hq : Try.prog.info? t with
  | none => simp [hq] at hi
  | some i => simp [hq] at hi; simp [zeroValue, typeInfo, hq, hi.1]
theorem size_of' {t : TypeId} {z : Value} {n : Nat} (hi : (Try.prog.info? t).map (fun i => (i.zero, i.size)) = some (some z, n)) : (Try.prog.info? t).map (·.size) = some n := by
  cases hq : Try.prog.info? t with
  | none => simp [hq] at hi
  | some i => simp [hq] at hi; simp [hi.2]

theorem exec_alloc {ρ : Operand → Value} {o : Oper} {w : World} (t : TypeId) (zs : Array Value) {n : Nat} (hi : (Try.prog.info? t).map (fun i => (i.zero, i.size)) = some (some (.agg zs), n)) (ho : o.op = .alloc t) :
    (execOp ρ o).run Try.prog w = .ok (.value (.pointer (some ⟨w.heap.size, 0, none⟩))) (w.alloc (.cells zs t)) := by
  have e : (Value.agg zs).cells = zs := rfl
  simp only [execOp, ho, Instr.alloc, newVar, newRow, Sem.run_bind, zero_of hi, e, Result.andThen_ok, Sem.run_pure, run_newObj_alloc]
theorem exec_box {ρ : Operand → Value} {o : Oper} {w : World} (t : TypeId) (x : Operand) (zs : Array Value) (hx : ρ x = .agg zs) (ho : o.op = .box t x) :
    (execOp ρ o).run Try.prog w = .ok (.value (.pointer (some ⟨w.heap.size, 0, none⟩))) (w.alloc (.cells zs t)) := by
  have e : (Value.agg zs).cells = zs := rfl
  simp [execOp, ho, Instr.box, newVar, newRow, hx, e, Result.andThen]
theorem exec_storeNew {ρ : Operand → Value} {o : Oper} {w : World} (t : TypeId) (x y : Operand) (ho : o.op = .store t x y) (W : World) (c c' : Array Value) (hw : w = W.alloc (.cells c t)) (hx : ρ x = .pointer (some ⟨W.heap.size, 0, none⟩))
    (hy : ρ y = .agg c') {z : Value} (hi : (Try.prog.info? t).map (fun i => (i.zero, i.size)) = some (some z, c'.size)) (hs : c.size = c'.size) (h1 : c'.all (·.oneCell') = true) :
    (execOp ρ o).run Try.prog w = .ok .skip (W.alloc (.cells c' t)) := by
  subst hw
  unfold execOp
  simp only [ho, hx, hy, run_storeAt_new W t c c' (size_of' hi) hs h1, Sem.run_bind, Result.andThen_ok, Sem.run_pure]
theorem exec_storeMid {ρ : Operand → Value} {o : Oper} {w : World} (t : TypeId) (x y : Operand) (ho : o.op = .store t x y) (b off : Nat) (cells : Array Value) (hx : ρ x = .pointer (some ⟨b, off, none⟩))
    (hy : ρ y = .agg cells) (ht : w.there b off cells.size) {z : Value} (hi : (Try.prog.info? t).map (fun i => (i.zero, i.size)) = some (some z, cells.size)) (h1 : cells.all (·.oneCell') = true) :
    (execOp ρ o).run Try.prog w = .ok .skip (w.setCells b off cells.toList) := by
  unfold execOp
  simp only [ho, hx, hy, run_storeAt_mid w b off t cells ht (size_of' hi) h1, Sem.run_bind, Result.andThen_ok, Sem.run_pure]

section
variable {ops : Array Oper} {rest : List Oper} {o : Oper} {a : Act} {w : World} {Q : Exit → Act → World → Prop}
theorem wpList_noval (hgd : o.guard = none) (w' : World) (hrun : (execOp a.eval o).run Try.prog w = .ok .skip w') (h : wpList Try.prog ops Q rest (a.put o.dst undef) w') : wpList Try.prog ops Q (o :: rest) a w := by
  refine wpList_plain hgd fun K hK => ?_
  unfold Oper.wp
  rw [hrun]
  exact hK _ _ h
/-- A guarded one that is wanted. -/
theorem wpList_isW (hw : Region.wanted o (yielded ops a.tmps) = true) (v : Value) (w' : World) (hrun : (execOp a.eval o).run Try.prog w = .ok (.value v) w') (h : wpList Try.prog ops Q rest (a.put o.dst v) w') : wpList Try.prog ops Q (o :: rest) a w := by
  unfold wpList
  rw [if_pos hw]
  refine Or.inl ?_
  unfold Oper.wp
  rw [hrun, Oper.upon_value]
  exact h
end

/-- A struct is read: its cells, one by one. -/
theorem load_row {t : TypeId} {d : TypeDesc} {w : World} {b o : Nat} (cs : List Value) (hu : Try.prog.underlying t = some d) (hd : d.isRow = true) {z : Value} (hi : (Try.prog.info? t).map (fun i => (i.zero, i.size)) = some (some z, cs.length))
    (hc : ∀ j v, cs[j]? = some v → w.cell? ⟨b, o + j, none⟩ = some v) : (Instr.loadAt t (.pointer (some ⟨b, o, none⟩))).run Try.prog w = .ok (.agg cs.toArray) w :=
  run_loadAt_mid w b o t cs d hc hu hd (size_of' hi)

theorem cells3 {w : World} {b o : Nat} {x0 x1 x2 : Value} (c0 : w.cell? ⟨b, o, none⟩ = some x0) (c1 : w.cell? ⟨b, o + 1, none⟩ = some x1) (c2 : w.cell? ⟨b, o + 2, none⟩ = some x2) :
    ∀ j v, [x0, x1, x2][j]? = some v → w.cell? ⟨b, o + j, none⟩ = some v := fun j v hv => by
  match j, hv with
  | 0, hv => simp at hv; subst hv; exact c0
  | 1, hv => simp at hv; subst hv; exact c1
  | 2, hv => simp at hv; subst hv; exact c2
theorem cells4 {w : World} {b o : Nat} {x0 x1 x2 x3 : Value} (c0 : w.cell? ⟨b, o, none⟩ = some x0) (c1 : w.cell? ⟨b, o + 1, none⟩ = some x1) (c2 : w.cell? ⟨b, o + 2, none⟩ = some x2) (c3 : w.cell? ⟨b, o + 3, none⟩ = some x3) :
    ∀ j v, [x0, x1, x2, x3][j]? = some v → w.cell? ⟨b, o + j, none⟩ = some v := fun j v hv => by
  match j, hv with
  | 0, hv => simp at hv; subst hv; exact c0
  | 1, hv => simp at hv; subst hv; exact c1
  | 2, hv => simp at hv; subst hv; exact c2
  | 3, hv => simp at hv; subst hv; exact c3
theorem block_cells3 {W : World} {b : Nat} {x0 x1 x2 : Value} {T : TypeId} (h : W.heap[b]? = some (.cells #[x0, x1, x2] T (0, 0))) :
    W.cell? ⟨b, 0, none⟩ = some x0 ∧ W.cell? ⟨b, 1, none⟩ = some x1 ∧ W.cell? ⟨b, 2, none⟩ = some x2 := by
  simp [World.cell?, h]
theorem block_cells4 {W : World} {b : Nat} {x0 x1 x2 x3 : Value} {T : TypeId} (h : W.heap[b]? = some (.cells #[x0, x1, x2, x3] T (0, 0))) :
    W.cell? ⟨b, 0, none⟩ = some x0 ∧ W.cell? ⟨b, 1, none⟩ = some x1 ∧ W.cell? ⟨b, 2, none⟩ = some x2 ∧ W.cell? ⟨b, 3, none⟩ = some x3 := by
  simp [World.cell?, h]
end Go.Proofs.Ytoglcohdanpciaa
