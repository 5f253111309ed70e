/- LyD, Awake, Model, RefA. -/
import Derived.Test.YtcfmonlgpccndaaDoorPkG06
import Derived.Test.YtcfmonlgpccndaaDoorPkG09
import Derived.Test.YtcfmonlgpccndaaDoorPkG05
/- layout: a fragment's head: whether it may be; how long the fragment is, by the reference. -/
namespace Go.Proofs.YtcfmonlgpccndaaDoor
open Go.RowKit
set_option maxRecDepth 100000
set_option linter.unusedSimpArgs false
set_option linter.unusedVariables false

/-- A fragment's head. -/
structure Hd13 where
  s : Spe
  i : Int
  n : Int
  z : Int
deriving DecidableEq, Inhabited
def Hd13.cells (h : Hd13) : List Value := [.int .i64 h.s.c, .int .i64 h.s.l, .int .i64 h.s.n, .int .i64 h.i, .int .i64 h.n, .int .i64 h.z]
def hdV13 (h : Hd13) : Value := .agg #[.int .i64 h.s.c, .int .i64 h.s.l, .int .i64 h.s.n, .int .i64 h.i, .int .i64 h.n, .int .i64 h.z]
def mayH (h : Hd13) : Bool := mayE h.s && mayHv h.z h.n && btw h.i 0 (h.n - 1)
theorem mayH_small {h : Hd13} (k : mayH h = true) : SmallF h.i h.z h.n ∧ mayE h.s = true ∧ h.i < h.n := by
  unfold mayH at k
  rw [Bool.and_eq_true, Bool.and_eq_true, mayHv_is, btw_is] at k
  obtain ⟨⟨k1, ⟨k2, k3⟩, k4, k5⟩, k6, k7⟩ := k
  exact ⟨⟨by omega, by omega, by omega, by omega, by omega, by omega⟩, k1, by omega⟩
theorem uStripe : Tryd.prog.underlying 29 = some (.struct (Tryd.prog.fieldsOf 29)) := by kernel_rfl
theorem sStripe : (Tryd.prog.info? 29).map (·.size) = some 3 := by kernel_rfl
theorem loadSpe (W : World) (b off : Nat) (s : Spe) (hc : W.rangeAt b off s.cells) : (Instr.loadAt 29 (.pointer (some ⟨b, off, none⟩))).run Tryd.prog W = .ok (.agg #[.int .i64 s.c, .int .i64 s.l, .int .i64 s.n]) W :=
  run_loadAt_mid W b off 29 s.cells _ hc uStripe rfl (by rw [sStripe]; rfl)
theorem range_cells {w : World} {b : Nat} {cs : List Value} {T : TypeId} (h : w.heap[b]? = some (.cells cs.toArray T (0, 0))) : w.rangeAt b 0 cs := fun j u hu => by
  rw [Nat.zero_add, cell_of_row _ _ _ _ _ _ h, ← Array.getElem?_toList]
  simpa using hu
theorem range_part {w : World} {b off k : Nat} {cs : List Value} (h : w.rangeAt b off cs) : w.rangeAt b (off + k) (cs.drop k) := fun j u hu => by
  rw [Nat.add_assoc]
  exact h (k + j) u (by rw [List.getElem?_drop] at hu; exact hu)
theorem range_fst {w : World} {b off k : Nat} {cs : List Value} (h : w.rangeAt b off cs) : w.rangeAt b off (cs.take k) := fun j u hu => by
  rw [List.getElem?_take] at hu
  split at hu
  · exact h j u hu
  · cases hu
end Go.Proofs.YtcfmonlgpccndaaDoor


/- The walk of the laws' awake. -/
namespace Go.Proofs.YtcfmonlgpccndaaDoor
open Go.RowKit

/-- A pen that was made since w. -/
structure PenSince (w w' : World) (T : TypeId) (p : Nat) (v : Value) (zs : List Int) (bad : Int) : Prop where
  pen : PenAt w' w.heap.size T 5 p v zs bad
  kept : Keeps [] w w'

theorem PenSince.le {w w' : World} {T p v zs bad} (h : PenSince w w' T p v zs bad) : ∀ k ∈ p :: v.ownBlock.toList, w.heap.size ≤ k := by
  intro k hk
  rcases List.mem_cons.1 hk with rfl | hk
  · exact h.pen.lo
  · exact (h.pen.own.lt k (by simpa using hk)).1

theorem PenSince.new (w : World) {w0 : World} (k : Keeps [] w w0) (T : TypeId) : PenSince w (w0.alloc (.cells #[.slice none 0 0, .int .i64 0] T)) T w0.heap.size (.slice none 0 0) [] 0 :=
  ⟨⟨heap_alloc_new _ _, World.ownsRow_nil _ _ _ _, by simp [Value.ownBlock], k.size, by simp, by simp⟩, k.alloc _⟩

theorem PenSince.step {w w2 w3 : World} {T : TypeId} {p : Nat} {v : Value} {zs : List Int} {bad : Int} {s : List Int × Int} {e : Ending} (h : PenSince w w2 T p v zs bad)
    (hp : PenPost w2 w.heap.size T 5 p v s e w3) : e = .returned (.tuple #[]) ∧ ∃ v', PenSince w w3 T p v' s.1 s.2 := by
  obtain ⟨rfl, v', q1, q2, q3⟩ := hp
  refine ⟨rfl, v', q1, ?_⟩
  exact h.kept.trans' q2 (fun i hi hm => by have := h.le i hm; omega)

theorem BytesPost.good {w : World} {zs : List Int} {e : Ending} {w' : World} (h : BytesPost w (zs, 0) e w') :
    ∃ a c, e = .returned (.tuple #[.slice a zs.length c, .int .i64 0]) ∧ RowAt w' (.slice a zs.length c) zs ∧ (∀ ad, a = some ad → w.heap.size ≤ ad.block) ∧ Keeps [] w w' := h
theorem BytesPost.bad {w : World} {zs : List Int} {b : Int} {e : Ending} {w' : World} (h : BytesPost w (zs, b) e w') (hb : b ≠ 0) :
    ∃ a c, e = .returned (.tuple #[.slice a 0 c, .int .i64 b]) ∧ RowAt w' (.slice a 0 c) [] ∧ (∀ ad, a = some ad → w.heap.size ≤ ad.block) ∧ Keeps [] w w' := by
  obtain ⟨a, c, h1, h2, h3, h4⟩ := h
  simp only [if_neg hb, List.length_nil] at h1 h2
  exact ⟨a, c, h1, h2, h3, h4⟩

theorem codes_ab : codes ⟨#[97, 98]⟩ = [97, 98] := by rfl
theorem awake_bytes : penBool true (penRaw (codes ⟨#[97, 98]⟩) (penNum 5 2 ([], 0))) = ([0, 5, 0, 2, 97, 98, 1], 0) := by decide +kernel
theorem awake_num : after [0, 5, 0, 2, 97, 98, 1] 0 (rdNum 2 [0, 5, 0, 2, 97, 98, 1]) = (some 5, [0, 2, 97, 98, 1], 0) := by decide +kernel
theorem awake_text : after [0, 2, 97, 98, 1] 0 (rdCount 9 [0, 2, 97, 98, 1]) = (some [97, 98], [1], 0) := by decide +kernel
theorem awake_bool : after [1] 0 (rdBool [1]) = (some true, [], 0) := by decide +kernel

end Go.Proofs.YtcfmonlgpccndaaDoor


/- Plain facts on what a pen writes and an eye reads. -/
namespace Go.Proofs.YtcfmonlgpccndaaDoor
open Go.RowKit

theorem be_zero (x : Int) : be x 0 = [] := rfl

theorem byteOf_succ (x : Int) (n k : Nat) (hk : k < n) : byteOf x (n + 1) k = byteOf (x / 256) n k := by
  unfold byteOf
  have e : n + 1 - 1 - k = (n - 1 - k) + 1 := by omega
  rw [e]
  have e2 : 8 * ((n - 1 - k) + 1) = 8 + 8 * (n - 1 - k) := by omega
  rw [e2, Int.pow_add]
  rw [show (2 : Int) ^ 8 = 256 from rfl, ← Int.ediv_ediv_of_nonneg (by omega)]

theorem be_succ (x : Int) (n : Nat) : be x (n + 1) = be (x / 256) n ++ [x % 256] := by
  unfold be
  rw [List.range_succ, List.map_append]
  congr 1
  · apply List.map_congr_left
    intro k hk
    exact byteOf_succ x n k (by simpa using hk)
  · simp [byteOf]

theorem val_be : ∀ (n : Nat) (x : Int), 0 ≤ x → x < 256 ^ n → val (be x n) = x
  | 0, x, h0, h1 => by
    simp at h1
    have : x = 0 := by omega
    subst this
    rfl
  | n + 1, x, h0, h1 => by
    rw [be_succ, val_snoc, val_be n (x / 256) (by omega) ?_]
    · omega
    · rw [Int.pow_succ] at h1
      generalize (256 : Int) ^ n = q at *
      omega

theorem be_one (x : Int) : be x 1 = [x % 256] := by rw [be_succ, be_zero]; rfl

theorem penNum_ok {x n : Int} {s : List Int × Int} (h1 : 1 ≤ n) (h7 : n ≤ 7) (hx : 0 ≤ x) (hd : x / 2 ^ (8 * n.toNat) = 0) (hs : s.2 = 0) (hl : s.1.length + n.toNat ≤ 65536) :
    penNum x n s = (s.1 ++ be x n.toNat, 0) := by
  unfold penNum
  rw [if_pos ⟨h1, h7, hx, hd⟩]
  unfold penAdd
  rw [if_neg (by simpa using hs), if_neg (by rw [be_length]; omega)]

def bit (b : Bool) : Int := if b then 1 else 0

theorem penBool_ok {b : Bool} {s : List Int × Int} (hs : s.2 = 0) (hl : s.1.length + 1 ≤ 65536) : penBool b s = (s.1 ++ [bit b], 0) := by
  unfold penBool
  cases b
  · rw [if_neg (by simp), penNum_ok (by omega) (by omega) (by omega) (by simp) hs (by simpa using hl)]
    rfl
  · rw [if_pos rfl, penNum_ok (by omega) (by omega) (by omega) (by decide) hs (by simpa using hl)]
    rfl

theorem penBool_full {b : Bool} {s : List Int × Int} (hs : s.2 = 0) (hl : 65536 < s.1.length + 1) : penBool b s = ([], 3) := by
  unfold penBool penNum
  rw [if_pos (by cases b <;> decide)]
  unfold penAdd
  rw [if_neg (by simpa using hs), if_pos (by rw [be_length]; simpa using hl)]

theorem penRaw_ok {bs : List Int} {s : List Int × Int} (hs : s.2 = 0) (h1 : bs.length ≤ 65535) (hl : s.1.length + 2 + bs.length ≤ 65536) :
    penRaw bs s = (s.1 ++ be bs.length 2 ++ bs, 0) := by
  unfold penRaw
  rw [if_neg (by omega), penNum_ok (by omega) (by omega) (by omega) ?_ hs (by simp; omega)]
  · unfold penAdd
    rw [if_neg (by simp), if_neg]
    · rfl
    · simp only [List.length_append, be_length]
      simp; omega
  · show (bs.length : Int) / 65536 = 0
    omega

theorem codes_strOf (zs : List Int) (h : ∀ z ∈ zs, 0 ≤ z ∧ z ≤ 255) : codes (strOfNums zs) = zs := by
  unfold codes
  rw [strOfNums_data, List.map_map]
  conv => rhs; rw [← List.map_id zs]
  apply List.map_congr_left
  intro z hz
  have := h z hz
  simp only [Function.comp, UInt8.toNat_ofNat', id]
  omega

/-- A row of noughts that has just been made. -/
theorem made_zero (n : Nat) : (madeCells #[Value.int .u8 0] (n * 1)).toList = (List.replicate n (0 : Int)).map (Value.int .u8) := by
  unfold madeCells
  rw [Nat.mul_one, Array.toList_map, Array.toList_range, List.map_replicate]
  apply List.ext_getElem
  · simp
  · intro i h1 h2
    simp [Nat.mod_one]

theorem rdCount_ok {most : Int} {bs rest : List Int} (h1 : bs.length ≤ 65535) (hm : (bs.length : Int) ≤ most) :
    rdCount most (be bs.length 2 ++ bs ++ rest) = .ok (bs, rest) := by
  have ht : (be bs.length 2 ++ bs ++ rest).take 2 = be bs.length 2 := by
    rw [List.append_assoc, List.take_append_of_le_length (by rw [be_length]; omega), List.take_of_length_le (by rw [be_length]; omega)]
  have hd : (be bs.length 2 ++ bs ++ rest).drop 2 = bs ++ rest := by
    rw [List.append_assoc]
    exact List.drop_left' (be_length _ _)
  have hv : val (be bs.length 2) = bs.length := val_be 2 _ (by omega) (by show (bs.length : Int) < 65536; omega)
  unfold rdCount
  rw [if_neg (by omega), if_neg (by simp only [List.length_append, be_length]; omega), ht, hd, hv, if_neg (by omega), if_neg (by simp)]
  simp

theorem rdCount_long {most : Int} {bs rest : List Int} (h0 : 0 ≤ most) (h1 : bs.length ≤ 65535) (hm : most < bs.length) :
    rdCount most (be bs.length 2 ++ bs ++ rest) = .error 3 := by
  have ht : (be bs.length 2 ++ bs ++ rest).take 2 = be bs.length 2 := by
    rw [List.append_assoc, List.take_append_of_le_length (by rw [be_length]; omega), List.take_of_length_le (by rw [be_length]; omega)]
  have hv : val (be bs.length 2) = bs.length := val_be 2 _ (by omega) (by show (bs.length : Int) < 65536; omega)
  unfold rdCount
  rw [if_neg (by omega), if_neg (by simp only [List.length_append, be_length]; omega), ht, hv, if_pos hm]
end Go.Proofs.YtcfmonlgpccndaaDoor


/- Walks of the reference's pen: add, Num. -/
namespace Go.Proofs.YtcfmonlgpccndaaDoor
open Go.RowKit

def refAdd (bs : List Int) (s : List Int × Int) : List Int × Int :=
  if s.2 = 0 then (if 65536 < s.1.length + bs.length then (s.1, 3) else (s.1 ++ bs, 0)) else s

def refNum (x n : Int) (s : List Int × Int) : List Int × Int :=
  if s.2 = 0 then (if 1 ≤ n ∧ n ≤ 7 ∧ 0 ≤ x ∧ x < 2 ^ (8 * n.toNat) then refAdd (be x n.toNat) s else (s.1, 1)) else s

theorem PenAt.store1 {w : World} {B : Nat} {T U : TypeId} {p : Nat} {v : Value} {zs : List Int} {bad : Int} (h : PenAt w B T U p v zs bad) (b : Int) :
    PenPost w B T U p v (zs, b) (.returned (.tuple #[])) (w.setCell ⟨p, 1, none⟩ (.int .i64 b)) :=
  ⟨rfl, v, ⟨(heap_two h.blk _).2, ownsRow_setCell_other h.own h.ne _, h.ne, h.lo, h.byte, h.fits⟩, (Keeps.refl _ _).setCell (Or.inl (by simp)) _, Or.inl rfl⟩

theorem pow_fits (n : Nat) (h7 : n ≤ 7) : wrap64 (2 ^ (8 * n)) = 2 ^ (8 * n) := by
  have : n = 0 ∨ n = 1 ∨ n = 2 ∨ n = 3 ∨ n = 4 ∨ n = 5 ∨ n = 6 ∨ n = 7 := by omega
  rcases this with rfl | rfl | rfl | rfl | rfl | rfl | rfl | rfl <;> exact IntWalk.wrap64_in _ (by decide)

theorem be_take_succ (x : Int) (n k : Nat) (h : k < n) : (be x n).take (k + 1) = (be x n).take k ++ [byteOf x n k] := by
  rw [take_snoc (be x n) k (by rw [be_length]; exact h)]
  congr 2
  rw [List.getD_eq_getElem?_getD]
  simp only [be, List.getElem?_map, List.getElem?_range h, Option.map_some, Option.getD_some]

/-- One byte in new memory. -/
theorem row_one {w : World} (z : Int) (T : TypeId) (hz : 0 ≤ z ∧ z ≤ 255) : RowAt (w.alloc (.cells #[.int .u8 z] T)) (.slice (some ⟨w.heap.size, 0, none⟩) 1 1) [z] :=
  row_lit (w := w) [z] T (by intro y hy; have : y = z := by simpa using hy
                             rw [this]; exact hz) 1 rfl (by unfold maxLen; omega)

end Go.Proofs.YtcfmonlgpccndaaDoor
