/- Read, Sectors, Ops, Dead, New. -/
import Derived.Test.YtnhcfkiejldicaaGreatDkE
namespace Go.Proofs.YtnhcfkiejldicaaGreat
open Go.RowKit

section
variable {ops : Array Oper} {rest : List Oper} {o : Oper} {a : Act} {w : World} {Q : Exit → Act → World → Prop}
theorem wpList_storeRowNew (hgd : o.guard = none) (x y : Operand) (ho : o.op = .store 112 x y) (W : World) (p r : Row) (hw : w = W.alloc (.cells p.cells.toArray 112)) (N : Nat) (hx : a.eval x = .pointer (some ⟨N, 0, none⟩)) (hN : N = W.heap.size)
    (hy : a.eval y = rowV r)
    (h : wpList Tryz.prog ops Q rest (a.put o.dst undef) (W.alloc (.cells r.cells.toArray 112))) : wpList Tryz.prog ops Q (o :: rest) a w := by
  subst hN
  exact wpList_storeNew hgd 112 x y ho W _ _ hw hx hy (by rw [sRow]; simp) (by simp) (all_oneCell_toArray r.one) h
end

def readE (s : DS) (k : Int) : Int := if s.dead then 14 else if 0 ≤ k ∧ k < s.cnt then 0 else 1
def readB (s : DS) (k : Int) : List Int := if s.dead = false ∧ 0 ≤ k ∧ k < s.cnt then (s.now k.toNat).1 else []

/-- The value's block, if it has one, is new. -/
def NewV (w : World) (v : Value) : Prop := ∀ b, v.ownBlock = some b → w.heap.size ≤ b

theorem readRow (w : World) (r : Row) : RowAt (w.alloc (.cells r.cells.toArray 112)) (.slice (some ⟨w.heap.size, 0, none⟩) 64 64) r.1 := by
  refine ⟨_, 64, by rw [r.2.1], by rw [r.2.1]; omega, by unfold maxLen; omega, by simp, r.2.2, ?_⟩
  intro ad had j u hu
  injection had with had
  subst had
  rw [Addr.add_mid, ← rangeNew w r.cells 112 j u hu]

set_option maxRecDepth 100000 in
set_option maxHeartbeats 4000000 in
theorem read_any (w : World) (p m n : Nat) (lv : Value) (s : DS) (H : DiskIn w p m lv n s) (hc : 2 ≤ s.cnt) (hc2 : s.cnt ≤ 4160) (k : Int) :
    Calls Tryz.prog 70 #[.pointer (some ⟨p, 0, none⟩), .int .i64 k] w fun e w' => ∃ v, e = .returned (.tuple #[v, .int .i64 (readE s k)]) ∧ RowAt w' v (readB s k) ∧ NewV w v ∧ Keeps [] w w' := by
  have c0 := H.c0
  have c1 := H.c1
  have c5 := H.c5
  have HH := hid H
  clear H
  by_cases hd : s.dead = true
  · have e1 : readE s k = 14 := by simp [readE, hd]
    have e2 : readB s k = [] := by simp [readB, hd]
    rw [e1, e2]
    rw [hd] at c5
    go_enter Tryz.func70, Tryz.ntmps70
    go_wp2_with (first | (go_at_call 71; refine (well_any _ _ s.cnt (by omega) _ c0 c5).mono ?_; rintro e w' ⟨rfl, rfl⟩) | fail)
    go_ret2
    exact ⟨_, rfl, RowAt.nil _, (by intro b hb; cases hb), Keeps.refl _ _⟩
  · have hd' : s.dead = false := by simpa using hd
    rw [hd'] at c5
    by_cases hk : 0 ≤ k ∧ k < s.cnt
    · have e1 : readE s k = 0 := by simp [readE, hd', hk]
      have e2 : readB s k = (s.now k.toNat).1 := by simp [readB, hd', hk]
      rw [e1, e2]
      obtain ⟨i, rfl⟩ := Int.eq_ofNat_of_zero_le hk.1
      have hi : i < s.cnt := by omega
      have hh : (decide (0 ≤ (i : Int)) && decide ((i : Int) < s.cnt)) = true := by simp; omega
      clear hk hd hd' e1 e2
      have Hm := hid HH.out.map
      go_enter Tryz.func70, Tryz.ntmps70
      go_wp2_with (first | (go_at_call 71; refine (well_any _ _ s.cnt (by omega) _ c0 c5).mono ?_; rintro e w' ⟨rfl, rfl⟩) | (go_at_call 72; refine (has_any _ _ s.cnt _ c0).mono ?_; rw [hh]; rintro e w' ⟨rfl, rfl⟩) | (refine wpList_look rfl _ _ rfl m n s.cnt _ Hm.out rfl i (by omega) rfl ?_) | (refine wpList_fieldNow rfl _ rfl _ _ rfl ?_) | (refine wpList_allocRow rfl rfl ?_) | (refine wpList_storeRowNew rfl _ _ rfl _ _ _ rfl _ rfl (by simp) rfl ?_) | fail)
      go_ret2
      refine ⟨_, rfl, readRow _ _, ?_, (Keeps.refl _ _).alloc _⟩
      intro b hb
      injection hb with hb
      simp at hb
      omega
    · have e1 : readE s k = 1 := by simp only [readE, hd', hk]; rfl
      have e2 : readB s k = [] := by simp only [readB, hd', hk]; rfl
      rw [e1, e2]
      have hh : (decide (0 ≤ k) && decide (k < s.cnt)) = false := by simpa using hk
      clear hk
      go_enter Tryz.func70, Tryz.ntmps70
      go_wp2_with (first | (go_at_call 71; refine (well_any _ _ s.cnt (by omega) _ c0 c5).mono ?_; rintro e w' ⟨rfl, rfl⟩) | (go_at_call 72; refine (has_any _ _ s.cnt _ c0).mono ?_; rw [hh]; rintro e w' ⟨rfl, rfl⟩) | fail)
      go_ret2
      exact ⟨_, rfl, RowAt.nil _, (by intro b hb; cases hb), Keeps.refl _ _⟩

theorem sectors_any (w : World) (p m n : Nat) (lv : Value) (s : DS) (H : DiskIn w p m lv n s) (hc : 2 ≤ s.cnt) :
    Calls Tryz.prog 42 #[.pointer (some ⟨p, 0, none⟩)] w fun e w' => e = .returned (.int .i64 s.cnt) ∧ w = w' := by
  have c0 := H.c0
  go_enter Tryz.func42, Tryz.ntmps42
  go_wp2_with (first | (go_at_call 59; refine (made_any _ _ s.cnt (by omega) c0).mono ?_; rintro e w' ⟨rfl, rfl⟩) | fail)
  go_ret
  exact ⟨rfl, rfl⟩

theorem dead_any (w : World) (p m n : Nat) (lv : Value) (s : DS) (H : DiskIn w p m lv n s) (hc : 2 ≤ s.cnt) :
    Calls Tryz.prog 31 #[.pointer (some ⟨p, 0, none⟩)] w fun e w' => e = .returned (.bool s.dead) ∧ w = w' := by
  have c0 := H.c0
  have c5 := H.c5
  go_enter Tryz.func31, Tryz.ntmps31
  go_wp2_with (first | (go_at_call 59; refine (made_any _ _ s.cnt (by omega) c0).mono ?_; rintro e w' ⟨rfl, rfl⟩) | fail)
  go_ret
  exact ⟨rfl, rfl⟩

def blankS (c : Nat) : DS := ⟨c, fun _ => zrow, fun _ => zrow, [], -1, 0, false⟩

theorem new_any (c : Nat) (h1 : 2 ≤ c) (h2 : c ≤ 4160) (w : World) :
    Calls Tryz.prog 6 #[.int .i64 c] w fun e w' => ∃ p m, e = .returned (.tuple #[.pointer (some ⟨p, 0, none⟩), .int .i64 0]) ∧ DiskIn w' p m (.slice none 0 0) 0 (blankS c) ∧ Keeps [] w w' ∧ w.heap.size ≤ p ∧ w.heap.size ≤ m := by
  have t1 : ¬ (c : Int) < 2 := by omega
  have t2 : ¬ (c : Int) > 4160 := by omega
  go_enter Tryz.func6, Tryz.ntmps6
  go_wp2_with (first | (go_at_call 18; refine (blank_any _ _).mono ?_; rintro e w1 ⟨p, m, rfl, g1, g2, g3, g4⟩) | fail)
  go_ret2
  exact ⟨p, m, rfl, g1, g2, g3, g4⟩

theorem newBad_any (c : Int) (h : c < 2 ∨ 4160 < c) (w : World) :
    Calls Tryz.prog 6 #[.int .i64 c] w fun e w' => e = .returned (.tuple #[.pointer none, .int .i64 1]) ∧ w = w' := by
  by_cases h1 : c < 2
  · go_enter Tryz.func6, Tryz.ntmps6
    go_wp2_with fail
    go_ret2
    exact ⟨rfl, rfl⟩
  · have h2 : 4160 < c := by omega
    go_enter Tryz.func6, Tryz.ntmps6
    go_wp2_with fail
    go_ret2
    exact ⟨rfl, rfl⟩

end Go.Proofs.YtnhcfkiejldicaaGreat
