/- PenA, PenB, Clone, PenC. -/
import Derived.Test.YtoglcohdanpciaaRows
import Derived.Test.YtoglcohdanpciaaJK
/- Walks of the pen: giveUp, add. -/
namespace Go.Proofs.Ytoglcohdanpciaa
open Go.RowKit

theorem give_yes (w : World) (B p : Nat) (v : Value) (zs : List Int) (why : Int) (h : PenAt w B 172 5 p v zs 0) :
    Calls Try.prog 159 #[.pointer (some ⟨p, 0, none⟩), .int .i64 why] w fun e w' => e = .returned (.tuple #[]) ∧ (w.setCell ⟨p, 0, none⟩ (.slice none 0 0)).setCell ⟨p, 1, none⟩ (.int .i64 why) = w' := by
  have c0 := h.cell0
  have c1 := h.cell1
  have f0 := h.free0
  have f1 := h.free1
  clear h
  go_enter Try.func159, Try.ntmps159
  go_wp2
  go_end0
  exact ⟨rfl, rfl⟩

theorem give_no (w : World) (B p : Nat) (v : Value) (zs : List Int) (bad why : Int) (h : PenAt w B 172 5 p v zs bad) (hb : (bad == 0) = false) :
    Calls Try.prog 159 #[.pointer (some ⟨p, 0, none⟩), .int .i64 why] w fun e w' => e = .returned (.tuple #[]) ∧ w = w' := by
  have c0 := h.cell0
  have c1 := h.cell1
  have f0 := h.free0
  have f1 := h.free1
  clear h
  go_enter Try.func159, Try.ntmps159
  go_wp2
  go_end0
  exact ⟨rfl, rfl⟩

def penFail (why : Int) (s : List Int × Int) : List Int × Int := if s.2 = 0 then ([], why) else s
def penAdd (bs : List Int) (s : List Int × Int) : List Int × Int :=
  if s.2 ≠ 0 then s else if s.1.length + bs.length > 65536 then ([], 3) else (s.1 ++ bs, 0)

/-- The two cells of a block written. -/
theorem heap_two {w : World} {p : Nat} {x y : Value} {T : TypeId} (h : w.heap[p]? = some (.cells #[x, y] T (0, 0))) (u : Value) :
    (w.setCell ⟨p, 0, none⟩ u).heap[p]? = some (.cells #[u, y] T (0, 0)) ∧ (w.setCell ⟨p, 1, none⟩ u).heap[p]? = some (.cells #[x, u] T (0, 0)) := by
  have hlt := lt_of_block h
  have h' : w.heap[p] = .cells #[x, y] T (0, 0) := by simpa [Array.getElem?_eq_getElem hlt] using h
  constructor
  · show (w.heap.modify p _)[p]? = _
    rw [Array.getElem?_eq_getElem (by simpa using hlt), Array.getElem_modify_self, h']
    rfl
  · show (w.heap.modify p _)[p]? = _
    rw [Array.getElem?_eq_getElem (by simpa using hlt), Array.getElem_modify_self, h']
    rfl

theorem give_any (w : World) (B p : Nat) (v : Value) (zs : List Int) (bad why : Int) (h : PenAt w B 172 5 p v zs bad) :
    Calls Try.prog 159 #[.pointer (some ⟨p, 0, none⟩), .int .i64 why] w (PenPost w B 172 5 p v (penFail why (zs, bad))) := by
  by_cases hb : bad = 0
  · subst hb
    refine (give_yes w B p v zs why h).mono fun e w' ⟨he, hw⟩ => ⟨he, .slice none 0 0, ?_, ?_, ?_⟩
    · subst hw
      have e1 : penFail why (zs, 0) = ([], why) := by simp [penFail]
      rw [e1]
      exact ⟨(heap_two (heap_two h.blk _).1 _).2, World.ownsRow_nil _ _ _ _, by simp [Value.ownBlock], h.lo, by simp, by simp⟩
    · subst hw
      exact ((Keeps.refl _ _).setCell (Or.inl (by simp)) _).setCell (Or.inl (by simp)) _
    · right; simp [Value.ownBlock]
  · refine (give_no w B p v zs bad why h (by simpa using hb)).mono fun e w' ⟨he, hw⟩ => ⟨he, v, ?_, ?_, Or.inl rfl⟩
    · subst hw
      have e1 : penFail why (zs, bad) = (zs, bad) := by simp [penFail, hb]
      rw [e1]; exact h
    · subst hw; exact Keeps.refl _ _



theorem PenAt.vlen {w : World} {B T U p v zs bad} (h : PenAt w B T U p v zs bad) : ∃ a cap, v = .slice a zs.length cap := by
  rcases h.own.2 with ⟨rfl, h0⟩ | ⟨g, cap, cur, rfl, _⟩
  · rw [h0]; exact ⟨none, 0, rfl⟩
  · exact ⟨_, cap, rfl⟩

theorem ownsRow_kept' {w w' : World} {B : Nat} {e : TypeId} {v : Value} {n : Nat} {xs : List Value} {S : List Nat} (h : w.ownsRow B e 1 v n xs) (k : Keeps S w w') (ho : ∀ g, v.ownBlock = some g → g ∉ S) : w'.ownsRow B e 1 v n xs := by
  refine ⟨h.1, ?_⟩
  rcases h.2 with hn | ⟨g, cap, cur, rfl, hb, hgg, rest⟩
  · exact Or.inl hn
  · refine Or.inr ⟨g, cap, cur, rfl, hb, ?_, rest⟩
    rw [k.block g (lt_of_block hgg) (ho g rfl)]
    exact hgg

theorem PenAt.keep {w w' : World} {B T U p v zs bad} {S : List Nat} (h : PenAt w B T U p v zs bad) (k : Keeps S w w') (hp : p ∉ S) (hv : ∀ g, v.ownBlock = some g → g ∉ S) : PenAt w' B T U p v zs bad :=
  ⟨by rw [k.block p h.lt hp]; exact h.blk, ownsRow_kept' h.own k hv, h.ne, h.lo, h.byte, h.fits⟩

theorem PenAt.grown {w w1 : World} {B T U p v zs bad} (h : PenAt w B T U p v zs bad) (hg : w.grownBy w1 v.ownBlock) :
    w1.cell? ⟨p, 0, none⟩ = some v ∧ w1.cell? ⟨p, 1, none⟩ = some (.int .i64 bad) ∧ w1.frozen? ⟨p, 0, none⟩ = false ∧ w1.frozen? ⟨p, 1, none⟩ = false := by
  have hb : w1.heap[p]? = some (.cells #[v, .int .i64 bad] T (0, 0)) := by rw [hg.block p h.lt (fun e => h.ne e.symm)]; exact h.blk
  simp [World.cell?, World.frozen?, hb]

/-- What the append law leaves, stored into the pen. -/
theorem pen_grown {w w1 : World} {B T U p : Nat} {v v' : Value} {zs bs : List Int} (h : PenAt w B T U p v zs 0) (hown : w1.ownsRow B U 1 v' (zs.length + bs.length) (zs.map (Value.int .u8) ++ bs.map (Value.int .u8)))
    (hgrow : w.grownBy w1 v.ownBlock) (hnew : NewRow w v v') (hbs : ∀ z ∈ bs, 0 ≤ z ∧ z ≤ 255) (hfit : zs.length + bs.length ≤ 65536) :
    PenPost w B T U p v (zs ++ bs, 0) (.returned (.tuple #[])) (w1.setCell ⟨p, 0, none⟩ v') := by
  have hne : v'.ownBlock ≠ some p := by
    rcases hnew with e | e
    · rw [e]; exact h.ne
    · intro hp; have := e p hp; have := h.lt; omega
  have hb1 : w1.heap[p]? = some (.cells #[v, .int .i64 0] T (0, 0)) := by rw [hgrow.block p h.lt (fun e => h.ne e.symm)]; exact h.blk
  refine ⟨rfl, v', ⟨(heap_two hb1 v').1, ?_, hne, h.lo, ?_, by simpa using hfit⟩, ?_, hnew⟩
  · have := ownsRow_setCell_other (a := ⟨p, 0, none⟩) hown hne v'
    simpa using this
  · intro z hz
    rcases List.mem_append.1 hz with hz | hz
    · exact h.byte z hz
    · exact hbs z hz
  · refine ((Keeps.refl _ w).grown hgrow (fun k hk => Or.inl ?_)).setCell (Or.inl (by simp)) _
    simp [hk]

set_option maxHeartbeats 400000 in
theorem add_any (w : World) (B p : Nat) (v : Value) (zs : List Int) (bad : Int) (u : Value) (bs : List Int) (h : PenAt w B 172 5 p v zs bad) (hr : RowAt w u bs) (hB : B ≤ w.heap.size) :
    Calls Try.prog 160 #[.pointer (some ⟨p, 0, none⟩), u] w (PenPost w B 172 5 p v (penAdd bs (zs, bad))) := by
  have c0 := h.cell0
  have c1 := h.cell1
  have f0 := h.free0
  have f1 := h.free1
  have hfit := h.fits
  have HR := hid hr
  obtain ⟨a, cap, rfl, r1, r2, r3, r4, r5⟩ := hr
  have H := hid h
  have H4 := hid r4
  obtain ⟨va, vc, hv⟩ := h.vlen
  have HV := hid hv
  clear h r3 r4 r5 hv
  by_cases hb : bad = 0
  · subst hb
    by_cases hl : zs.length + bs.length > 65536
    · have hlt : (65536 : Int) - zs.length < bs.length := by omega
      have e1 : penAdd bs (zs, 0) = penFail 3 (zs, 0) := by simp [penAdd, penFail, hl]
      have E1 := hid e1
      obtain rfl := HV.out
      clear e1 HV
      go_enter Try.func160, Try.ntmps160
      go_wp2_with fail
      refine (give_any _ B p _ zs 0 3 H.out).mono ?_
      rintro e w' ⟨rfl, hq⟩
      go_wp2_with fail
      go_end0
      exact ⟨rfl, by rw [E1.out]; exact hq⟩
    · have hge : ¬ ((65536 : Int) - zs.length < bs.length) := by omega
      have e1 : penAdd bs (zs, 0) = (zs ++ bs, 0) := by simp [penAdd, hl]
      have E1 := hid e1
      have hmax : zs.length + bs.length ≤ 65536 := by omega
      obtain ⟨i0, hi, hz0, hz1, hz2⟩ := info_parts info5
      obtain rfl := HV.out
      clear e1 HV
      go_enter Try.func160, Try.ntmps160
      go_wp2_with (at_builtin; refine wpList_append_row rfl _ _ 34 rfl B 5 i0 (.int .u8 0) Try.underlying34 hi hz0 hz1 hz2 rfl (.slice va zs.length vc) zs.length (zs.map (Value.int .u8)) rfl H.out.own _ bs rfl HR.out (by omega) hB ?_; intro a' c' w1 k1 k2 k3; obtain ⟨d0, d1, d2, d3⟩ := H.out.grown k2.out)
      go_end0
      rw [E1.out]
      exact pen_grown H.out k1.out k2.out k3.out H4.out hmax
  · have hb' : (bad == 0) = false := by simpa using hb
    have hb2 : (bad != 0) = true := by simpa using hb
    have e1 : penAdd bs (zs, bad) = (zs, bad) := by simp [penAdd, hb]
    have E1 := hid e1
    clear e1 HV hb
    go_enter Try.func160, Try.ntmps160
    go_wp2_with fail
    go_end0
    exact ⟨rfl, v, by rw [E1.out]; exact H.out, Keeps.refl _ _, Or.inl rfl⟩
end Go.Proofs.Ytoglcohdanpciaa


/- Walks of the pen: Num. -/
namespace Go.Proofs.Ytoglcohdanpciaa
open Go.RowKit

/-- Byte k of x in n bytes, the highest first. -/
def byteOf (x : Int) (n k : Nat) : Int := (x / 2 ^ (8 * (n - 1 - k))) % 256
def be (x : Int) (n : Nat) : List Int := (List.range n).map (byteOf x n)
def seven (x : Int) (n k : Nat) : Array Value := ((List.range 7).map fun i => Value.int .u8 (if i < k then byteOf x n i else 0)).toArray

theorem seven_zero (x : Int) (n : Nat) : seven x n 0 = #[Value.int .u8 0, Value.int .u8 0, Value.int .u8 0, Value.int .u8 0, Value.int .u8 0, Value.int .u8 0, Value.int .u8 0] := by
  simp [seven, List.range, List.range.loop]

theorem seven_get (x : Int) (n k i : Nat) (h : i < 7) : (seven x n k)[i]? = some (.int .u8 (if i < k then byteOf x n i else 0)) := by
  simp [seven, h]

theorem seven_size (x : Int) (n k : Nat) : (seven x n k).size = 7 := by simp [seven]

theorem seven_set (x : Int) (n k : Nat) (h : k < 7) : (seven x n k).setIfInBounds k (.int .u8 (byteOf x n k)) = seven x n (k + 1) := by
  apply Array.ext_getElem?
  intro i
  rw [Array.getElem?_setIfInBounds, seven_size]
  by_cases hi : i < 7
  · rw [seven_get _ _ _ _ hi, seven_get _ _ _ _ hi]
    by_cases e : k = i
    · subst e; simp [h]
    · rw [if_neg e]
      congr 2
      by_cases hik : i < k
      · rw [if_pos hik, if_pos (by omega)]
      · rw [if_neg hik, if_neg (by omega)]
  · rw [Array.getElem?_eq_none (by rw [seven_size]; omega), Array.getElem?_eq_none (by rw [seven_size]; omega)]
    rw [if_neg (by omega)]

theorem be_length (x : Int) (n : Nat) : (be x n).length = n := by simp [be]
theorem be_byte (x : Int) (n : Nat) : ∀ z ∈ be x n, 0 ≤ z ∧ z ≤ 255 := by
  intro z hz
  obtain ⟨k, _, rfl⟩ := List.mem_map.1 hz
  unfold byteOf
  omega

theorem row_new {w : World} (x : Int) (n : Nat) (h7 : n ≤ 7) (T : TypeId) :
    RowAt (w.alloc (.cells (seven x n n) T)) (.slice (some ⟨w.heap.size, 0, none⟩) n 7) (be x n) := by
  refine ⟨some ⟨w.heap.size, 0, none⟩, 7, by rw [be_length], by rw [be_length]; omega, by unfold maxLen; omega, by simp, be_byte x n, ?_⟩
  rintro ad had j u hu
  obtain rfl := Option.some.inj had
  have hj : j < n := by
    have := (List.getElem?_eq_some_iff.1 hu).1
    simpa [be_length] using this
  have e1 : ((⟨w.heap.size, 0, none⟩ : Addr).add j) = ⟨w.heap.size, j, none⟩ := by unfold Addr.add; split <;> simp_all
  rw [e1, cell_of_row _ _ j _ _ _ (heap_alloc_new w _)]
  rw [seven_get _ _ _ _ (by omega), if_pos hj]
  rw [← hu]
  simp only [be, List.getElem?_map, List.getElem?_range hj, Option.map_some]

theorem len7 : Try.prog.arrayLen 211 = 7 := by kernel_rfl
theorem elem7 : Try.prog.elem 211 = 5 := by kernel_rfl

theorem slice7 (k : Nat) (hk : k ≤ 7) (b : Nat) (w : World) :
    (Instr.sliceAt 211 (.pointer (some ⟨b, 0, none⟩)) none (some (.int .i64 (k : Int))) none).run Try.prog w = .ok (.slice (some ⟨b, 0, none⟩) k 7) w := by
  obtain ⟨i0, hi, hz0, hz1, hz2⟩ := info_parts info5
  rw [run_sliceAt_array_h w 211 ⟨b, 0, none⟩ (by rw [len7, elem7]; exact Try.underlying211) .i64 k (by omega) (by rw [len7]; omega)]
  rw [elem7, len7]
  simp [sizeOf, typeInfo, hi, Result.andThen, slicedAt, Addr.add]

set_option maxHeartbeats 400000 in
theorem num_ok (w : World) (B p : Nat) (v : Value) (zs : List Int) (bad x : Int) (n : Nat) (h : PenAt w B 172 5 p v zs bad) (hB : B ≤ w.heap.size)
    (h1 : 1 ≤ n) (h7 : n ≤ 7) (hx : 0 ≤ x) (hs : (x / 2 ^ (8 * n) != 0) = false) :
    Calls Try.prog 106 #[.pointer (some ⟨p, 0, none⟩), .int .i64 x, .int .i64 n] w (PenPost w B 172 5 p v (penAdd (be x n) (zs, bad))) := by
  have H := hid h
  have d1 : decide ((n : Int) < 1) = false := by simp; omega
  have d2 : decide (7 < (n : Int)) = false := by simp; omega
  have d3 : decide (x < 0) = false := by simp; omega
  have hz := seven_zero x n
  have HZ := hid hz
  have HR := hid (row_new (w := w) x n h7 211)
  clear h hz
  go_enter Try.func106, Try.ntmps106
  go_wp2_with fail
  rw [← HZ.out]
  go_loopw [28] (fun i wr => ∃ k : Nat, k ≤ n ∧ i = .int .i64 k ∧ wr = w.alloc (.cells (seven x n k) 211)) (fun i _ => n - (intOf i).toNat)
  case atStart => exact ⟨0, Nat.zero_le _, rfl, rfl⟩
  case round =>
    obtain ⟨k, hk, rfl, rfl⟩ := hrel
    by_cases hlt : k < n
    · have hg : (seven x n k)[k]? = some (.int .u8 0) := by rw [seven_get _ _ _ _ (by omega), if_neg (by omega)]
      have HS := hid (seven_set x n k (by omega))
      go_wp2_with fail
      go_roundw
      case rel => exact ⟨k + 1, by omega, by go_num, by rw [← HS.out]; rfl⟩
      case measure => simp [intOf]; omega
    · have : k = n := by omega
      subst this
      have hsl := slice7 k (by omega)
      go_wp2_with fail
      refine (add_any _ B p v zs bad _ (be x k) (H.out.keep ((Keeps.refl [] w).alloc _) (by simp) (by simp)) HR.out (by simp; omega)).mono ?_
      rintro e w' ⟨rfl, hq⟩
      go_wp2_with fail
      go_end0
      obtain ⟨v', q1, q2, q3⟩ := hq
      refine ⟨rfl, v', q1, ?_, ?_⟩
      · exact ((Keeps.refl _ w).alloc _).trans q2
      · rcases q3 with q3 | q3
        · exact Or.inl q3
        · exact Or.inr fun k hk => by have := q3 k hk; simp at this; omega

def penNum (x n : Int) (s : List Int × Int) : List Int × Int :=
  if 1 ≤ n ∧ n ≤ 7 ∧ 0 ≤ x ∧ x / 2 ^ (8 * n.toNat) = 0 then penAdd (be x n.toNat) s else penFail 1 s

set_option maxHeartbeats 400000 in
/-- A width or a number that may not be: each way in which the test says yes. -/
theorem num_bad (w : World) (B p : Nat) (v : Value) (zs : List Int) (bad x n : Int) (h : PenAt w B 172 5 p v zs bad)
    (hn : ¬ (1 ≤ n ∧ n ≤ 7 ∧ 0 ≤ x ∧ x / 2 ^ (8 * n.toNat) = 0)) :
    Calls Try.prog 106 #[.pointer (some ⟨p, 0, none⟩), .int .i64 x, .int .i64 n] w (PenPost w B 172 5 p v (penFail 1 (zs, bad))) := by
  have H := hid h
  clear h
  by_cases a1 : n < 1
  · have d1 : decide (n < 1) = true := by simpa using a1
    clear hn
    go_enter Try.func106, Try.ntmps106
    go_wp2_with fail
    refine (give_any _ B p v zs bad 1 H.out).mono ?_
    rintro e w' ⟨rfl, hq⟩
    go_wp2_with fail
    go_end0
    exact ⟨rfl, hq⟩
  · have d1 : decide (n < 1) = false := by simpa using a1
    by_cases a2 : 7 < n
    · have d2 : decide (7 < n) = true := by simpa using a2
      clear hn
      go_enter Try.func106, Try.ntmps106
      go_wp2_with fail
      refine (give_any _ B p v zs bad 1 H.out).mono ?_
      rintro e w' ⟨rfl, hq⟩
      go_wp2_with fail
      go_end0
      exact ⟨rfl, hq⟩
    · have d2 : decide (7 < n) = false := by simpa using a2
      by_cases a3 : x < 0
      · have d3 : decide (x < 0) = true := by simpa using a3
        clear hn
        go_enter Try.func106, Try.ntmps106
        go_wp2_with fail
        refine (give_any _ B p v zs bad 1 H.out).mono ?_
        rintro e w' ⟨rfl, hq⟩
        go_wp2_with fail
        go_end0
        exact ⟨rfl, hq⟩
      · have d3 : decide (x < 0) = false := by simpa using a3
        obtain ⟨k, rfl⟩ := Int.eq_ofNat_of_zero_le (show 0 ≤ n by omega)
        have d4 : (x / 2 ^ (8 * k) != 0) = true := by
          rw [bne_iff_ne]
          intro e
          exact hn ⟨by omega, by omega, by omega, by simpa using e⟩
        clear hn
        go_enter Try.func106, Try.ntmps106
        go_wp2_with fail
        refine (give_any _ B p v zs bad 1 H.out).mono ?_
        rintro e w' ⟨rfl, hq⟩
        go_wp2_with fail
        go_end0
        exact ⟨rfl, hq⟩

theorem num_any (w : World) (B p : Nat) (v : Value) (zs : List Int) (bad x n : Int) (h : PenAt w B 172 5 p v zs bad) (hB : B ≤ w.heap.size) :
    Calls Try.prog 106 #[.pointer (some ⟨p, 0, none⟩), .int .i64 x, .int .i64 n] w (PenPost w B 172 5 p v (penNum x n (zs, bad))) := by
  by_cases hn : 1 ≤ n ∧ n ≤ 7 ∧ 0 ≤ x ∧ x / 2 ^ (8 * n.toNat) = 0
  · have e1 : penNum x n (zs, bad) = penAdd (be x n.toNat) (zs, bad) := by rw [penNum, if_pos hn]
    rw [e1]
    obtain ⟨k, rfl⟩ := Int.eq_ofNat_of_zero_le (show 0 ≤ n by omega)
    exact num_ok w B p v zs bad x k h hB (by omega) (by omega) hn.2.2.1 (by have := hn.2.2.2; simpa using this)
  · have e1 : penNum x n (zs, bad) = penFail 1 (zs, bad) := by rw [penNum, if_neg hn]
    rw [e1]
    exact num_bad w B p v zs bad x n h hn
end Go.Proofs.Ytoglcohdanpciaa


/- The walk of bytes.Clone. -/
namespace Go.Proofs.Ytoglcohdanpciaa
open Go.RowKit

set_option maxHeartbeats 400000 in
theorem clone_any (w : World) (v : Value) (zs : List Int) (h : RowAt w v zs) (hn : zs.length ≤ 35184372088832) :
    Calls Try.prog 113 #[v] w (NewPost w zs) := by
  have HR := hid h
  obtain ⟨a, cap, rfl, h1, h2, h3, h4, h5⟩ := h
  have H4 := hid h4
  obtain ⟨i0, hi, hz0, hz1, hz2⟩ := info_parts info5
  clear h5 h4 h2
  cases a with
  | none =>
    obtain rfl := h3 rfl
    obtain rfl : zs = [] := List.eq_nil_of_length_eq_zero (by omega)
    clear h1 h3
    have hnil : ∀ W, (binOp .eql 34 (.slice none 0 0) (.slice none 0 0)).run Try.prog W = .ok (.bool true) W := fun W => Lib.run_eql_slice_nil W _ _ _ _ _ _ _ Try.underlying34
    simp only [List.length_nil] at *
    go_enter Try.func113, Try.ntmps113
    go_wp2_with fail
    go_ret
    exact ⟨none, 0, rfl, RowAt.nil w, by simp, Keeps.refl _ _⟩
  | some ad =>
    clear h3
    have hnil : ∀ W, (binOp .eql 34 (.slice (some ad) zs.length cap) (.slice none 0 0)).run Try.prog W = .ok (.bool false) W := fun W => Lib.run_eql_slice_nil W _ _ _ _ _ _ _ Try.underlying34
    go_enter Try.func113, Try.ntmps113
    have HO := hid (World.ownsRow_made (base := w.heap.size) (e := 5) (size := 1) w #[] 0 (Nat.le_refl _) (by unfold maxLen; omega) (by simp))
    have HR2 := hid (HR.out.keep ((Keeps.refl [] w).alloc (.cells #[] 5)) (by intro _ _ _ _ _; simp))
    go_wp2_with (at_builtin; refine wpList_append_row rfl _ _ 34 rfl w.heap.size 5 i0 (.int .u8 0) Try.underlying34 hi hz0 hz1 hz2 rfl (.slice (some ⟨w.heap.size, 0, none⟩) 0 0) 0 [] rfl HO.out _ zs rfl HR2.out (by omega) (by simp) ?_; intro a' c' w1 k1 k2 k3; simp only [Nat.zero_add, List.nil_append] at k1 k3 ⊢)
    go_ret
    have k1' := k1.out
    refine ⟨a', c', rfl, row_of_own k1' H4.out, ?_, ?_⟩
    · rintro ad' rfl
      exact (k1'.lt _ rfl).1
    · exact ((Keeps.refl [] w).alloc _).grown k2.out (fun k hk => Or.inr (by simp [Value.ownBlock] at hk; omega))
end Go.Proofs.Ytoglcohdanpciaa


/- Walks of the pen: Raw, Text, Bool, Bytes. -/
namespace Go.Proofs.Ytoglcohdanpciaa
open Go.RowKit

def penRaw (bs : List Int) (s : List Int × Int) : List Int × Int :=
  if bs.length > 65535 then penFail 3 s else penAdd bs (penNum bs.length 2 s)
def penBool (b : Bool) (s : List Int × Int) : List Int × Int := penNum (if b then 1 else 0) 1 s

/-- Two calls one behind the other. -/
theorem PenPost.then {w w1 w2 : World} {B : Nat} {T U : TypeId} {p : Nat} {v v1 : Value} {s' : List Int × Int} (k1 : Keeps (p :: v.ownBlock.toList) w w1) (n1 : NewRow w v v1) {e : Ending}
    (h2 : PenPost w1 B T U p v1 s' e w2) : PenPost w B T U p v s' e w2 := by
  obtain ⟨rfl, v2, q1, q2, q3⟩ := h2
  refine ⟨rfl, v2, q1, k1.trans' q2 ?_, ?_⟩
  · intro i hi hm
    rcases List.mem_cons.1 hm with hm | hm
    · exact List.mem_cons.2 (Or.inl hm)
    · rcases n1 with n1 | n1
      · rw [n1] at hm; exact List.mem_cons.2 (Or.inr hm)
      · have := n1 i (by simpa using hm)
        omega
  · have hs := k1.size
    rcases q3 with q3 | q3
    · rcases n1 with n1 | n1
      · exact Or.inl (q3.trans n1)
      · exact Or.inr fun k hk => n1 k (by rw [← q3]; exact hk)
    · exact Or.inr fun k hk => by have := q3 k hk; omega

set_option maxHeartbeats 400000 in
theorem raw_any (w : World) (B p : Nat) (v : Value) (zs : List Int) (bad : Int) (u : Value) (bs : List Int) (h : PenAt w B 172 5 p v zs bad) (hr : RowAt w u bs)
    (ho : Off (p :: v.ownBlock.toList) u bs) (hB : B ≤ w.heap.size) (hl : bs.length ≤ 35184372088832) :
    Calls Try.prog 127 #[.pointer (some ⟨p, 0, none⟩), u] w (PenPost w B 172 5 p v (penRaw bs (zs, bad))) := by
  have H := hid h
  have HR := hid hr
  have HO := hid ho
  have hp := h.lt
  obtain ⟨a, cap, rfl, r1, r2, r3, r4, r5⟩ := hr
  clear h r3 r4 r5 ho
  by_cases hb : bs.length > 65535
  · have e1 : penRaw bs (zs, bad) = penFail 3 (zs, bad) := by simp [penRaw, hb]
    have E1 := hid e1
    clear e1
    have hb' : (65535 : Int) < bs.length := by omega
    go_enter Try.func127, Try.ntmps127
    go_wp2_with fail
    refine (give_any _ B p v zs bad 3 H.out).mono ?_
    rintro e w' ⟨rfl, hq⟩
    go_wp2_with fail
    go_end0
    rw [E1.out]
    exact ⟨rfl, hq⟩
  · have e1 : penRaw bs (zs, bad) = penAdd bs (penNum bs.length 2 (zs, bad)) := by rw [penRaw, if_neg hb]
    have E1 := hid e1
    clear e1
    have hb' : ¬ (65535 : Int) < bs.length := by omega
    go_enter Try.func127, Try.ntmps127
    go_wp2_with fail
    refine (num_any _ B p v zs bad bs.length 2 H.out hB).mono ?_
    rintro e w1 ⟨rfl, v1, q1, q2, q3⟩
    have Q1 := hid q1
    have Q2 := hid q2
    have Q3 := hid q3
    clear q1 q2 q3
    go_wp2_with fail
    refine (add_any _ B p v1 _ _ _ bs Q1.out (HR.out.keep Q2.out HO.out) (by have := Q2.out.size; omega)).mono ?_
    rintro e w2 hq
    obtain rfl := hq.1
    have HQ := hid hq
    clear hq
    go_wp2_with fail
    go_end0
    rw [E1.out]
    exact PenPost.then Q2.out Q3.out HQ.out

set_option maxHeartbeats 400000 in
theorem bool_any (w : World) (B p : Nat) (v : Value) (zs : List Int) (bad : Int) (b : Bool) (h : PenAt w B 172 5 p v zs bad) (hB : B ≤ w.heap.size) :
    Calls Try.prog 124 #[.pointer (some ⟨p, 0, none⟩), .bool b] w (PenPost w B 172 5 p v (penBool b (zs, bad))) := by
  have H := hid h
  clear h
  cases b with
  | true =>
    go_enter Try.func124, Try.ntmps124
    go_wp2_with fail
    refine (num_any _ B p v zs bad 1 1 H.out hB).mono ?_
    rintro e w' ⟨rfl, hq⟩
    go_wp2_with fail
    go_end0
    exact ⟨rfl, hq⟩
  | false =>
    go_enter Try.func124, Try.ntmps124
    go_wp2_with fail
    refine (num_any _ B p v zs bad 0 1 H.out hB).mono ?_
    rintro e w' ⟨rfl, hq⟩
    go_wp2_with fail
    go_end0
    exact ⟨rfl, hq⟩

def codes (s : ByteArray) : List Int := s.data.toList.map fun b => (b.toNat : Int)
theorem codes_length (s : ByteArray) : (codes s).length = s.size := by simp [codes]
theorem codes_byte (s : ByteArray) : ∀ z ∈ codes s, 0 ≤ z ∧ z ≤ 255 := by
  intro z hz
  obtain ⟨b, _, rfl⟩ := List.mem_map.1 hz
  have := b.toNat_lt
  omega

/-- The bytes of a string in new memory. -/
theorem row_of_string (w : World) (s : ByteArray) (n : Nat) (e : TypeId) (f : Nat × Nat) (hn : s.size ≤ n) (hm : n ≤ maxLen) :
    RowAt (w.alloc (.cells (bytesRow s n) e f)) (.slice (some ⟨w.heap.size, 0, none⟩) s.size n) (codes s) := by
  refine ⟨some ⟨w.heap.size, 0, none⟩, n, by rw [codes_length], by rw [codes_length]; omega, hm, by simp, codes_byte s, ?_⟩
  rintro ad had j u hu
  obtain rfl := Option.some.inj had
  have hj : j < s.size := by
    have := (List.getElem?_eq_some_iff.1 hu).1
    simpa [codes_length] using this
  rw [Addr.add_lit, cell_of_row _ _ _ _ _ _ (heap_alloc_new w _), Nat.zero_add, bytesRow_at s n j hj]
  rw [← hu]
  have hj' : j < s.data.toList.length := by rw [Array.length_toList]; exact hj
  simp [codes, List.getElem?_eq_getElem hj']

set_option maxHeartbeats 400000 in
theorem text_any (w : World) (B p : Nat) (v : Value) (zs : List Int) (bad : Int) (s : ByteArray) (h : PenAt w B 172 5 p v zs bad) (hB : B ≤ w.heap.size) (hl : s.size ≤ 35184372088832) :
    Calls Try.prog 139 #[.pointer (some ⟨p, 0, none⟩), .string s] w (PenPost w B 172 5 p v (penRaw (codes s) (zs, bad))) := by
  have H := hid h
  have hp := h.lt
  have hv := h.own.lt
  have HV := hid hv
  have hcv := fun w => run_bytes_of_string (P := Try.prog) w 9 34 5 s Try.underlying9 Try.underlying34 Try.underlying5
  clear h hv
  go_enter Try.func139, Try.ntmps139
  go_wp2_with fail
  have hc1 := grownCap_ge w s.size 0 5
  have hc2 := grownCap_le_maxLen w s.size 0 5 (by unfold maxLen; omega)
  generalize grownCap w s.size 0 5 = n at *
  have K0 := ((Keeps.refl [] w).alloc (.cells (bytesRow s n) 5 ((bytesRow s n).size, (bytesRow s n).size + 1))).drew
  have R0 : RowAt ((w.alloc (.cells (bytesRow s n) 5 ((bytesRow s n).size, (bytesRow s n).size + 1))).drew) (.slice (some ⟨w.heap.size, 0, none⟩) s.size n) (codes s) :=
    (row_of_string w s n 5 _ hc1 hc2).keep (S := []) (Keeps.refl _ _).drew (by intro _ _ _ _ _; simp)
  refine (raw_any _ B p v zs bad _ (codes s) (H.out.keep K0 (by simp) (by simp)) R0 ?_ (by simp; omega) (by rw [codes_length]; exact hl)).mono ?_
  · intro ad _ _ hs _ hm
    injection hs with e1 _ _
    obtain rfl := Option.some.inj e1
    rcases List.mem_cons.1 hm with hm | hm
    · simp at hm; omega
    · have := (HV.out _ (by simpa using hm)).2
      simp at this
  · rintro e w2 hq
    obtain rfl := hq.1
    have HQ := hid hq
    clear hq
    go_wp2_with fail
    go_end0
    obtain ⟨_, v', q1, q2, q3⟩ := HQ.out
    refine ⟨rfl, v', q1, (K0.mono (by simp)).trans q2, ?_⟩
    rcases q3 with q3 | q3
    · exact Or.inl q3
    · exact Or.inr fun k hk => by have := q3 k hk; simp at this; omega

/-- What Bytes answers: a row of new memory and OK, or none and the error. -/
def BytesPost (w : World) (s : List Int × Int) (e : Ending) (w' : World) : Prop :=
  ∃ a c, (let zs := if s.2 = 0 then s.1 else []
    e = .returned (.tuple #[.slice a zs.length c, .int .i64 s.2]) ∧ RowAt w' (.slice a zs.length c) zs ∧ (∀ ad, a = some ad → w.heap.size ≤ ad.block) ∧ Keeps [] w w')

set_option maxHeartbeats 400000 in
theorem bytes_any (w : World) (B p : Nat) (v : Value) (zs : List Int) (bad : Int) (h : PenAt w B 172 5 p v zs bad) :
    Calls Try.prog 107 #[.pointer (some ⟨p, 0, none⟩)] w (BytesPost w (zs, bad)) := by
  have H := hid h
  have c0 := h.cell0
  have c1 := h.cell1
  by_cases hb : bad = 0
  · subst hb
    have HR := hid (row_of_own h.own h.byte)
    have hn := h.fits
    clear h
    go_enter Try.func107, Try.ntmps107
    go_wp2_with fail
    refine (clone_any _ v zs HR.out (by omega)).mono ?_
    rintro e w1 ⟨a, c, rfl, q1, q2, q3⟩
    have Q1 := hid q1
    have Q2 := hid q2
    have Q3 := hid q3
    clear q1 q2 q3
    go_wp2_with fail
    go_ret2
    exact ⟨a, c, rfl, Q1.out, Q2.out, Q3.out⟩
  · have hb1 : (bad == 0) = false := by simpa using hb
    have hb2 : (bad != 0) = true := by simpa using hb
    have HB := hid hb
    clear h hb
    go_enter Try.func107, Try.ntmps107
    go_wp2_with fail
    go_region
    all_goals go_wp2
    go_ret2
    refine ⟨none, 0, ?_, ?_, by simp, ?_⟩
    · simp [HB.out]
    · simp only [HB.out, if_false]
      exact RowAt.nil _
    · exact (Keeps.refl _ _).drew

end Go.Proofs.Ytoglcohdanpciaa
