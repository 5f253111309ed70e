/- Slots: a head is read as it was written; what a Put and a Clear leave of the other slots (plain mathematics). -/
import Derived.Test.YtnhcfkiejldicaaGreatSlO
import Derived.Test.YtnhcfkiejldicaaGreatOpenC
import Derived.ProofKit
import Derived.OpenShut
import Derived.SizedLaws
import Derived.Deep.Slices
import Derived.BigQuiet
namespace Go.Proofs.YtnhcfkiejldicaaGreat
open Go.RowKit Go.Shelf

theorem allZ_rep (n : Nat) : allZ (List.replicate n 0) = true := by
  unfold allZ
  rw [List.all_eq_true]
  intro x hx
  rw [(List.mem_replicate.1 hx).2]
  rfl
theorem hdOf_zero (n : Nat) : hdOf (0 :: List.replicate n 0) = some hd0 := by
  have h1 : rdBool (0 :: List.replicate n 0) = .ok (false, List.replicate n 0) := by simp [rdBool, val]
  unfold hdOf
  rw [h1]
  simp only [allZ_rep, if_true]
theorem headB_back (h : Hd) (ok : h.Ok) : hdOf (pad64 (headB h)) = some h := by
  cases hu : h.used with
  | false =>
    have e : h = hd0 := ok.free hu
    subst e
    exact hdOf_zero 63
  | true =>
    obtain ⟨u, n, k⟩ := h
    obtain rfl : u = true := hu
    have hk : k.length ≤ 40 := ok.key
    have hn : n ≤ 448 := ok.held
    obtain ⟨z, hz⟩ : ∃ z, z = 64 - (headB ⟨true, n, k⟩).length := ⟨_, rfl⟩
    have e0 : pad64 (headB ⟨true, n, k⟩) = 1 :: (be n 2 ++ (be k.length 2 ++ k ++ List.replicate z 0)) := by
      unfold pad64
      rw [← hz]
      simp [headB]
    have h1 : rdBool (1 :: (be n 2 ++ (be k.length 2 ++ k ++ List.replicate z 0))) = .ok (true, be n 2 ++ (be k.length 2 ++ k ++ List.replicate z 0)) := by simp [rdBool, val]
    have l2 := be_length (n : Int) 2
    have h2 : rdNum 2 (be n 2 ++ (be k.length 2 ++ k ++ List.replicate z 0)) = .ok ((n : Int), be k.length 2 ++ k ++ List.replicate z 0) := by
      unfold rdNum
      rw [if_neg (by simp), if_neg (by simp [l2])]
      have e2 : (2 : Int).toNat = 2 := rfl
      rw [e2, List.take_append_of_le_length (by omega), List.take_of_length_le (by omega), List.drop_append_of_le_length (by omega), List.drop_eq_nil_of_le (by omega), List.nil_append, val_be 2 n (by omega) (by omega)]
    have h3 : rdHeld (be n 2 ++ (be k.length 2 ++ k ++ List.replicate z 0)) = .ok ((n : Int), be k.length 2 ++ k ++ List.replicate z 0) := by
      unfold rdHeld
      rw [h2]
      simp only
      rw [if_neg (by omega)]
    have h4 : rdCount 40 (be k.length 2 ++ k ++ List.replicate z 0) = .ok (k, List.replicate z 0) := rdCount_ok (by omega) (by omega)
    rw [e0]
    unfold hdOf
    rw [h1]
    simp only [h3, h4, allZ_rep, if_true]
    rfl
theorem mkRow_head (h : Hd) (ok : h.Ok) : (mkRow (pad64 (headB h))).1 = pad64 (headB h) := mkRow_is (pad64_len (by have := headB_len h ok; omega)) (pad64_byte (headB_byte h ok))

/-- The slots of a disk read as hs; what they hold is as want has it. -/
structure Reads (s : DS) (first : Nat) (hs : List Hd) (want : Nat → List Int) : Prop where
  alive : Alive s
  fit : first + hs.length * 8 ≤ s.cnt
  heads : ∀ j (h : j < hs.length), hdOf (s.now (first + j * 8)).1 = some hs[j]
  holds : ∀ j (h : j < hs.length), hs[j].used = true → getB s (first + j * 8) hs[j].held = want j
theorem Reads.good {s : DS} {first : Nat} {hs : List Hd} {want : Nat → List Int} (h : Reads s first hs want) : goodS s first hs.length := fun j hj => by
  unfold hdE
  rw [h.heads j hj]
  rfl
theorem Reads.all {s : DS} {first : Nat} {hs : List Hd} {want : Nat → List Int} (h : Reads s first hs want) : headsS s first hs.length = hs := by
  apply List.ext_getElem (by simp [headsS])
  intro j h1 h2
  simp only [headsS, List.getElem_map, List.getElem_range]
  unfold hdG
  rw [h.heads j h2]
  rfl
theorem getB_same {s s' : DS} {bg hl : Nat} (h : ∀ j, j < 7 → s'.now (bg + 1 + j) = s.now (bg + 1 + j)) : getB s' bg hl = getB s bg hl := by
  unfold getB imageL
  rw [List.flatMap_def, List.flatMap_def]
  have e : (List.range 7).map (fun i => (s'.now (bg + 1 + i)).1) = (List.range 7).map (fun i => (s.now (bg + 1 + i)).1) := List.map_congr_left fun j hj => by rw [h j (List.mem_range.1 hj)]
  rw [e]
theorem Reads.put {s : DS} {first : Nat} {hs : List Hd} {want : Nat → List Int} (h : Reads s first hs want) (i : Nat) (hi : i < hs.length) (key b : List Int) (ok : Hd.Ok ⟨true, b.length, key⟩) (hby : ∀ z ∈ b, 0 ≤ z ∧ z ≤ 255) :
    Reads (putD s (first + i * 8) key b) first (hs.set i ⟨true, b.length, key⟩) (upd want i b) := by
  have hfit := h.fit
  have hb : b.length ≤ 448 := ok.held
  have h7 : nch b.length ≤ 7 := by unfold nch; omega
  obtain ⟨a1, a2⟩ := h.alive.put (first + i * 8) key b ok (by omega)
  refine ⟨a1, by rw [List.length_set, putD_cnt]; exact hfit, fun j hj => ?_, fun j hj hu => ?_⟩
  · rw [List.length_set] at hj
    rw [a2]
    by_cases e : j = i
    · subst e
      rw [if_pos rfl, mkRow_head _ ok, headB_back _ ok, List.getElem_set_self]
    · rw [if_neg (by omega), if_neg (by omega), h.heads j hj, List.getElem_set_ne (fun h => e h.symm)]
  · rw [List.length_set] at hj
    by_cases e : j = i
    · subst e
      rw [upd_same, List.getElem_set_self]
      exact getB_put h.alive _ key b ok (by omega) hby
    · rw [upd_ne _ _ e, List.getElem_set_ne (fun h => e h.symm)]
      rw [List.getElem_set_ne (fun h => e h.symm)] at hu
      rw [← h.holds j hj hu]
      refine getB_same fun q hq => ?_
      rw [a2, if_neg (by omega), if_neg (by omega)]
theorem Reads.clear {s : DS} {first : Nat} {hs : List Hd} {want : Nat → List Int} (h : Reads s first hs want) (i : Nat) (hi : i < hs.length) :
    Reads (markS s (first + i * 8) hd0) first (hs.set i hd0) want := by
  have hfit := h.fit
  have ok : hd0.Ok := ⟨by simp [hd0], by simp [hd0], by simp [hd0], fun _ => rfl⟩
  obtain ⟨a1, a2⟩ := h.alive.mark (first + i * 8) hd0 ok (by omega)
  refine ⟨a1, by rw [List.length_set, markS_cnt]; exact hfit, fun j hj => ?_, fun j hj hu => ?_⟩
  · rw [List.length_set] at hj
    rw [a2]
    by_cases e : j = i
    · subst e
      rw [upd_same, mkRow_head _ ok, headB_back _ ok, List.getElem_set_self]
    · rw [upd_ne _ _ (by omega), h.heads j hj, List.getElem_set_ne (fun h => e h.symm)]
  · rw [List.length_set] at hj
    by_cases e : j = i
    · subst e
      rw [List.getElem_set_self] at hu
      cases hu
    · rw [List.getElem_set_ne (fun h => e h.symm)] at hu ⊢
      rw [← h.holds j hj hu]
      refine getB_same fun q hq => ?_
      rw [a2, upd_ne _ _ (by omega)]
theorem Reads.blank (c first n : Nat) (hf : first + n * 8 ≤ c) (want : Nat → List Int) : Reads (blankS c) first (List.replicate n hd0) want := by
  refine ⟨blank_alive c, by rw [List.length_replicate]; exact hf, fun j hj => ?_, fun j hj hu => ?_⟩
  · show hdOf zrow.1 = _
    rw [hd_zrow, List.getElem_replicate]
  · rw [List.getElem_replicate] at hu
    cases hu
end Go.Proofs.YtnhcfkiejldicaaGreat

/- The deeds of layer 5's laws: as they lie in memory, as they come in; the room; guarded operations of a drawn region. -/
namespace Go.Proofs.YtnhcfkiejldicaaGreat
open Go.ChangeShapes Go.WideShapes Go.ChangeAt Go.RowKit Go.Shelf
set_option maxRecDepth 100000

structure D5 where
  act : Int
  i : Int
  n : Int
  kv : Value
  bv : Value
  key : List Int
  b : List Int

/-- Deed d lies in the five cells from there on. -/
structure D5At (w : World) (g off : Nat) (d : D5) : Prop where
  c0 : w.cell? ⟨g, off, none⟩ = some (.int .i64 d.act)
  c1 : w.cell? ⟨g, off + 1, none⟩ = some (.int .i64 d.i)
  c2 : w.cell? ⟨g, off + 2, none⟩ = some (.int .i64 d.n)
  c3 : w.cell? ⟨g, off + 3, none⟩ = some d.kv
  c4 : w.cell? ⟨g, off + 4, none⟩ = some d.bv
  rk : RowAt w d.kv d.key
  rb : RowAt w d.bv d.b
  b0 : i64 d.act
  b1 : i64 d.i
  b2 : i64 d.n
def D5sAt (w : World) (v : Value) (ds : List D5) : Prop :=
  ∃ (a : Option Addr) (cap : Nat), v = .slice a ds.length cap ∧ ds.length ≤ cap ∧ cap ≤ maxLen ∧ (a = none → cap = 0) ∧
    (ds ≠ [] → ∃ g off, a = some ⟨g, off, none⟩ ∧ ∀ i (h : i < ds.length), D5At w g (off + i * 5) ds[i])
theorem D5At.keep {w w' : World} {g off : Nat} {d : D5} (h : D5At w g off d) (k : Keeps [] w w') : D5At w' g off d :=
  ⟨k.cell h.c0 (by simp), k.cell h.c1 (by simp), k.cell h.c2 (by simp), k.cell h.c3 (by simp), k.cell h.c4 (by simp), h.rk.keep k (by intro _ _ _ _ _; simp), h.rb.keep k (by intro _ _ _ _ _; simp), h.b0, h.b1, h.b2⟩
theorem D5sAt.keep {w w' : World} {v : Value} {ds : List D5} (h : D5sAt w v ds) (k : Keeps [] w w') : D5sAt w' v ds := by
  obtain ⟨a, cap, rfl, h1, h2, h0, h3⟩ := h
  refine ⟨a, cap, rfl, h1, h2, h0, fun hne => ?_⟩
  obtain ⟨g, off, rfl, h4⟩ := h3 hne
  exact ⟨g, off, rfl, fun i hi => (h4 i hi).keep k⟩

section
variable {H : Type} {enc : TypeId × Value → H}
theorem cells_int5 : Tryz.prog.cellsOf 3 = 1 := by kernel_rfl
end

def Room5 (ds : List D5) (most : Nat) : Prop := ds.length ≤ most ∧ ∀ d ∈ ds, d.key.length ≤ 100 ∧ d.b.length ≤ 600

def RoomPost5 (w : World) (ds : List D5) (most : Nat) (e : Ending) (w' : World) : Prop := ∃ b, e = .returned (.bool b) ∧ w = w' ∧ (b = true → Room5 ds most)

section
variable {P : Program} {ops : Array Oper} {Q : Exit → Act → World → Prop}
/-- A guarded one that is wanted. -/
theorem held_takeW {md : Region.Mode} {S : World → Prop} {i : Nat} {oi : Oper} {v : Value} {fuel : Nat} {listed : Array Bool} {a : Act} {w : World} (hi : ops.toList[i]? = some oi)
    (hs : Region.noSelect ops = true) (hf : Region.free md ops listed i = true) (hr : (Region.ready md ops listed).contains i = true)
    (hQ : ∀ c a w, Q (.panic c) (a.put oi.dst v) w → Q (.panic c) a w) (hw : Region.wanted oi (yielded ops a.tmps) = true) (hy : ∀ w, S w → (execOp a.eval oi).run P w = .ok (.value v) w) (hS : S w)
    (h : wpAnyH P md ops Q S fuel (listed.setIfInBounds i true) (a.put oi.dst v) w) : wpAnyH P md ops Q S (fuel + 1) listed a w :=
  wpAnyH_take (by simpa using hi) hs hf hr hQ (Or.inl ⟨hw, hy⟩) hS h
/-- A guarded one that is not wanted. -/
theorem held_skip {md : Region.Mode} {S : World → Prop} {i : Nat} {oi : Oper} {fuel : Nat} {listed : Array Bool} {a : Act} {w : World} (hi : ops.toList[i]? = some oi)
    (hs : Region.noSelect ops = true) (hf : Region.free md ops listed i = true) (hr : (Region.ready md ops listed).contains i = true)
    (hQ : ∀ c a w, Q (.panic c) (a.put oi.dst undef) w → Q (.panic c) a w) (hw : Region.wanted oi (yielded ops a.tmps) = false) (hS : S w)
    (h : wpAnyH P md ops Q S fuel (listed.setIfInBounds i true) (a.put oi.dst undef) w) : wpAnyH P md ops Q S (fuel + 1) listed a w :=
  wpAnyH_take (by simpa using hi) hs hf hr hQ (Or.inr ⟨hw, rfl⟩) hS h
/-- A guarded one that is wanted, and the one that may come up. -/
theorem held_doW {md : Region.Mode} {S : World → Prop} {i : Nat} {o : Oper} {fuel : Nat} {listed : Array Bool} {a : Act} {w : World} (hr : Region.ready md ops listed = [i]) (ho' : ops.toList[i]? = some o) (hw : Region.wanted o (yielded ops a.tmps) = true)
    (h : o.wp P a w (fun a' w' => S w' ∧ wpAnyH P md ops Q S fuel (listed.setIfInBounds i true) a' w') Q) : wpAnyH P md ops Q S (fuel + 1) listed a w := by
  have ho : ops[i]? = some o := by simpa using ho'
  refine wpAnyH_all hr (by simp) fun j hj => ?_
  obtain rfl : j = i := by simpa using hj
  unfold wpOp
  simp only [ho, hw, if_true]
  exact Or.inl h
end
end Go.Proofs.YtnhcfkiejldicaaGreat

/- Slots: what a deed of the laws does to slots of a living disk; five cells in a row. -/
namespace Go.Proofs.YtnhcfkiejldicaaGreat
open Go.RowKit Go.Shelf

theorem put_eff {s : DS} {hs : List Hd} {want : Nat → List Int} (R : Reads s 1 hs want) (k : Nat) (hk : k < hs.length) (key b : List Int) (hky : ∀ z ∈ key, 0 ≤ z ∧ z ≤ 255) (hby : ∀ z ∈ b, 0 ≤ z ∧ z ≤ 255) :
    (putE hs 1 s k key b = 0 ∧ hs[k].used = false ∧ Reads (putS hs 1 s k key b) 1 (putH hs 1 s k key b) (upd want k b) ∧ putH hs 1 s k key b = hs.set k ⟨true, b.length, key⟩) ∨
    (putE hs 1 s k key b ≠ 0 ∧ putH hs 1 s k key b = hs ∧ putS hs 1 s k key b = s) := by
  have hh : hasS hs k = true := by simp [hasS, hk]
  have hu : usedS hs k = hs[k].used := by rw [usedS, headS_at hk]
  by_cases hl : 40 < key.length ∨ 448 < b.length
  · right
    have eo : putOk hs k key b = false := by simp [putOk]; omega
    refine ⟨?_, by simp [putH, eo], by simp [putS, eo]⟩
    simp only [putE, hh, hl, if_true]
    simp
  · cases hus : hs[k].used with
    | true =>
      right
      have eo : putOk hs k key b = false := by simp [putOk, hu, hus]
      refine ⟨?_, by simp [putH, eo], by simp [putS, eo]⟩
      simp only [putE, hh, hl, hu, hus, if_true]
      simp
    | false =>
      left
      have ok : Hd.Ok ⟨true, b.length, key⟩ := ⟨by show key.length ≤ 40; omega, hky, by show b.length ≤ 448; omega, fun h => by cases h⟩
      have eo : putOk hs k key b = true := by simp [putOk, hu, hus, hh]; omega
      have RP := R.put k hk key b ok hby
      have al := RP.alive
      have e1 : putS hs 1 s k key b = putD s (1 + k * 8) key b := by simp only [putS, eo, if_true, Int.toNat_natCast]
      have e2 : putH hs 1 s k key b = hs.set k ⟨true, b.length, key⟩ := by
        simp only [putH, eo, Bool.true_and, Int.toNat_natCast, al.1, Bool.not_false, if_true]
      refine ⟨?_, rfl, by rw [e1, e2]; exact RP, e2⟩
      have : putE hs 1 s k key b = deadE (putD s (1 + k * 8) key b) := by simp only [putE, hh, hl, hu, hus, if_false, Int.toNat_natCast]; simp
      rw [this, al.deadE]

theorem clear_eff {s : DS} {hs : List Hd} {want : Nat → List Int} (R : Reads s 1 hs want) (k : Nat) (hk : k < hs.length) :
    (hs[k].used = true ∧ clearE hs 1 s k = 0 ∧ Reads (clearS hs 1 s k) 1 (clearH hs 1 s k) want ∧ clearH hs 1 s k = hs.set k hd0) ∨
    (hs[k].used = false ∧ clearE hs 1 s k = 6 ∧ clearH hs 1 s k = hs ∧ clearS hs 1 s k = s) := by
  have hh : hasS hs k = true := by simp [hasS, hk]
  have hu : usedS hs k = hs[k].used := by rw [usedS, headS_at hk]
  cases hus : hs[k].used with
  | true =>
    left
    have eo : clearOk hs k = true := by simp [clearOk, hh, hu, hus]
    have RC := R.clear k hk
    have al := RC.alive
    have et : takeE hs k = 0 := by simp [takeE, hh, hu, hus]
    have e1 : clearS hs 1 s k = markS s (1 + k * 8) hd0 := by simp only [clearS, eo, if_true, Int.toNat_natCast]
    have e2 : clearH hs 1 s k = hs.set k hd0 := by simp only [clearH, eo, Bool.true_and, Int.toNat_natCast, al.1, Bool.not_false, if_true]
    refine ⟨rfl, ?_, by rw [e1, e2]; exact RC, e2⟩
    simp only [clearE, et, if_true, Int.toNat_natCast]
    exact al.deadE
  | false =>
    right
    have eo : clearOk hs k = false := by simp [clearOk, hu, hus]
    have et : takeE hs k = 6 := by simp [takeE, hh, hu, hus]
    refine ⟨rfl, ?_, by simp [clearH, eo], by simp [clearS, eo]⟩
    simp only [clearE, et]
    simp

theorem putS_cnt (hs : List Hd) (f : Nat) (s : DS) (i : Int) (key b : List Int) : (putS hs f s i key b).cnt = s.cnt := by
  unfold putS
  split
  · exact putD_cnt _ _ _ _
  · rfl
theorem clearS_cnt (hs : List Hd) (f : Nat) (s : DS) (i : Int) : (clearS hs f s i).cnt = s.cnt := by
  unfold clearS
  split
  · exact markS_cnt _ _ _
  · rfl
/-- The least slot from 5 - m on that is not used. -/
def fd (hs : List Hd) : Nat → Int
  | 0 => -1
  | m + 1 => if (hs.getD (4 - m) hd0).used then fd hs m else ((4 - m : Nat) : Int)
theorem fd_free (hs : List Hd) (h : hs.length = 5) : fd hs 5 = freeS hs := by
  match hs, h with
  | [a, b, c, d, e], _ =>
    simp only [fd, freeS, idxS, List.findIdx?_cons, List.findIdx?_nil]
    cases ha : a.used <;> cases hb : b.used <;> cases hc : c.used <;> cases hdd : d.used <;> cases he : e.used <;> simp [ha, hb, hc, hdd, he]

def row5 (vs : Nat → Value) : List Value := (List.range 5).map vs
theorem row5_set (vs : Nat → Value) (i : Nat) (v : Value) : (row5 vs).toArray.setIfInBounds i v = (row5 (upd vs i v)).toArray := by
  rw [List.setIfInBounds_toArray]
  congr 1
  unfold row5
  apply List.ext_getElem?
  intro j
  by_cases e : j = i
  · subst e
    by_cases hj : j < 5
    · rw [List.getElem?_set_self (by simpa using hj)]; simp [hj]
    · rw [List.getElem?_eq_none (by simp; omega), List.getElem?_eq_none (by simp; omega)]
  · rw [List.getElem?_set_ne (fun h => e h.symm)]
    by_cases hj : j < 5
    · simp [hj, upd_ne _ _ e]
    · rw [List.getElem?_eq_none (by simp; omega), List.getElem?_eq_none (by simp; omega)]
theorem row5_at (vs : Nat → Value) (i : Nat) (h : i < 5) : (row5 vs).toArray[i]? = some (vs i) := by simp [row5, h]

theorem row5_congr {f g : Nat → Value} (h : ∀ k, k < 5 → f k = g k) : row5 f = row5 g := List.map_congr_left fun k hk => h k (List.mem_range.1 hk)
theorem getD_set {hs : List Hd} {k : Nat} (hk : k < hs.length) (x : Hd) (j : Nat) : (hs.set k x).getD j hd0 = if j = k then x else hs.getD j hd0 := by
  rw [List.getD_eq_getElem?_getD, List.getD_eq_getElem?_getD]
  by_cases e : j = k
  · subst e
    rw [List.getElem?_set_self hk, if_pos rfl]
    rfl
  · rw [List.getElem?_set_ne (fun h => e h.symm), if_neg e]
/-- Go's ((x % 5) + 5) % 5. -/
theorem mod5 (x : Int) : ∃ kk : Nat, kk < 5 ∧ (wrap64 (x.tmod 5 + 5)).tmod 5 = (kk : Int) := by
  have h1 : x.tmod 5 < 5 := Int.tmod_lt_of_pos x (by omega)
  have h2 : -5 < x.tmod 5 := Int.lt_tmod_of_pos x (by omega)
  have h3 : wrap64 (x.tmod 5 + 5) = x.tmod 5 + 5 := by unfold wrap64; omega
  rw [h3, Int.tmod_eq_emod_of_nonneg (by omega)]
  exact ⟨((x.tmod 5 + 5) % 5).toNat, by omega, by omega⟩

/-- The state of the law: its slots, what it wants of them, which are used. -/
structure Ap (W w : World) (q p g gw gu : Nat) (hs : List Hd) (s : DS) (F : List Nat) (K : Nat) (want : Nat → List Int) (wv : Nat → Value) : Prop where
  sl : SlNew W w q p g 1 hs s F K
  five : hs.length = 5
  cnt : s.cnt = 41
  rd : Reads s 1 hs want
  w5 : w.heap[gw]? = some (.cells (row5 wv).toArray 22 (0, 0))
  u5 : w.heap[gu]? = some (.cells (row5 fun k => .bool (hs.getD k hd0).used).toArray 4 (0, 0))
  row : ∀ k, k < 5 → (hs.getD k hd0).used = true → RowAt W (wv k) (want k)
  sli : ∀ k, k < 5 → ∃ a n c, wv k = .slice a n c
  new : W.heap.size ≤ gw ∧ W.heap.size ≤ gu ∧ gw ≠ gu
  off : ∀ b, b = gw ∨ b = gu → b ∉ F ∧ b ≠ q ∧ b ≠ g

section
variable {W w w' : World} {q p g gw gu : Nat} {hs : List Hd} {s : DS} {F : List Nat} {K : Nat} {want : Nat → List Int} {wv : Nat → Value}
theorem Ap.keep (h : Ap W w q p g gw gu hs s F K want wv) (k : Keeps [] w w') : Ap W w' q p g gw gu hs s F K want wv :=
  ⟨h.sl.keep k, h.five, h.cnt, h.rd, (k.block _ (lt_of_block h.w5) (by simp)).trans h.w5, (k.block _ (lt_of_block h.u5) (by simp)).trans h.u5, h.row, h.sli, h.new, h.off⟩
theorem Ap.cw (h : Ap W w q p g gw gu hs s F K want wv) (k : Nat) (hk : k < 5) : w.cell? ⟨gw, k, none⟩ = some (wv k) := by rw [cell_of_row _ _ k _ _ (0, 0) h.w5]; exact row5_at _ _ hk
theorem Ap.cu (h : Ap W w q p g gw gu hs s F K want wv) (k : Nat) (hk : k < 5) : w.cell? ⟨gu, k, none⟩ = some (.bool (hs.getD k hd0).used) := by rw [cell_of_row _ _ k _ _ (0, 0) h.u5]; exact row5_at _ _ hk
theorem Ap.fw (h : Ap W w q p g gw gu hs s F K want wv) (k : Nat) : w.frozen? ⟨gw, k, none⟩ = false := by simp [World.frozen?, h.w5]
theorem Ap.fu (h : Ap W w q p g gw gu hs s F K want wv) (k : Nat) : w.frozen? ⟨gu, k, none⟩ = false := by simp [World.frozen?, h.u5]
/-- A deed on the slots, the law's own rows not yet written. -/
theorem Ap.post {hs' : List Hd} {s' : DS} {K' : Nat} {er : Int} {e : Ending} (h : Ap W w q p g gw gu hs s F K want wv) (hp : SlPost w q p g 1 hs' s' F K' er e w') :
    e = .returned (.int .i64 er) ∧ ∃ F', SlNew W w' q p g 1 hs' s' F' K' ∧ w'.heap[gw]? = some (.cells (row5 wv).toArray 22 (0, 0)) ∧ w'.heap[gu]? = some (.cells (row5 fun k => .bool (hs.getD k hd0).used).toArray 4 (0, 0)) ∧
      (∀ b, b = gw ∨ b = gu → b ∉ F' ∧ b ≠ q ∧ b ≠ g) := by
  have hp2 := hp
  obtain ⟨_, F0, h1, h2, h3⟩ := hp2
  have hn : ∀ b, b = gw ∨ b = gu → b ∉ g :: F := fun b hb hm => by
    rcases List.mem_cons.1 hm with hm | hm
    · exact (h.off b hb).2.2 hm
    · exact (h.off b hb).1 hm
  have hlw := lt_of_block h.w5
  have hlu := lt_of_block h.u5
  obtain ⟨rfl, F', h1', h2', h3'⟩ := hp
  obtain ⟨n1, n2, n3⟩ := h.sl.new
  refine ⟨rfl, F', ⟨h1', ⟨n1, n2, fun b hb => ?_⟩, h.sl.kept.trans' h2' (fun i hi hm => ?_)⟩, (h2'.block _ hlw (hn _ (.inl rfl))).trans h.w5, (h2'.block _ hlu (hn _ (.inr rfl))).trans h.u5, fun b hb => ⟨fun hm => ?_, (h.off b hb).2⟩⟩
  · rcases h3' b hb with h4 | h4
    · exact n3 b h4
    · have := h.sl.kept.size; omega
  · simp only [List.mem_cons] at hm
    rcases hm with hm | hm
    · omega
    · have := n3 i hm; omega
  · rcases h3' b hm with h4 | h4
    · exact (h.off b hb).1 h4
    · rcases hb with rfl | rfl <;> omega
end
end Go.Proofs.YtnhcfkiejldicaaGreat
