/- The walk of attempt, at its four instances. -/
import Derived.Test.YtjohikekhgcepaaEyeE
namespace Go.Proofs.Ytjohikekhgcepaa
open Go.RowKit

/-- What a reading call answers, what is left, and the error. -/
def after {α : Type} (zs : List Int) (bad : Int) (r : Except Int (α × List Int)) : Option α × List Int × Int :=
  if bad ≠ 0 then (none, zs, bad) else match r with
    | .error why => (none, zs, why)
    | .ok (x, rest) => (some x, rest, 0)

def EyePost {α : Type} (w : World) (B p : Nat) (v : Value) (st : Option α × List Int × Int) (zero : Value) (ret : α → World → Ending → Prop) (e : Ending) (w' : World) : Prop :=
  (∃ v2, EyeAt w' B p v2 st.2.1 st.2.2 ∧ SameBlk v v2) ∧ Keeps [p] w w' ∧ match st.1 with
    | none => e = .returned zero
    | some x => ret x w' e

theorem Keeps.cell {S : List Nat} {w w' : World} (k : Keeps S w w') {a : Addr} {v : Value} (h : w.cell? a = some v) (hs : a.block ∉ S) : w'.cell? a = some v := by
  rw [World.cell?_of_block (w := w) (k.block _ (World.block_lt_of_cell? _ _ h) hs)]
  exact h

theorem two_new (w : World) (x y : Value) (T U : TypeId) : ((w.alloc (.cells #[x] T)).alloc (.cells #[y] U)).cell? ⟨w.heap.size, 0, none⟩ = some x ∧
    ((w.alloc (.cells #[x] T)).alloc (.cells #[y] U)).cell? ⟨w.heap.size + 1, 0, none⟩ = some y := by
  have h1 := heap_alloc_new w (.cells #[x] T)
  have h2 := heap_alloc_new (w.alloc (.cells #[x] T)) (.cells #[y] U)
  have h3 := Below.heap_alloc (w.alloc (.cells #[x] T)) (.cells #[y] U) w.heap.size (by rw [World.size_alloc]; omega)
  have e : (w.alloc (.cells #[x] T)).heap.size = w.heap.size + 1 := by simp
  rw [e] at h2
  constructor
  · exact cell_of_one (h3.trans h1)
  · exact cell_of_one h2

/-- The eye as the deferred closure leaves it. -/
theorem EyeAt.back {w w3 : World} {B p : Nat} {v v2 : Value} {zs zs2 : List Int} {bad bad2 : Int} (h : EyeAt w B p v zs bad) (k : Keeps [p] w w3) (h3 : EyeAt w3 B p v2 zs2 bad2) (why : Int) :
    EyeAt ((w3.setCell ⟨p, 0, none⟩ v).setCell ⟨p, 1, none⟩ (.int .i64 why)) B p v zs why ∧ Keeps [p] w ((w3.setCell ⟨p, 0, none⟩ v).setCell ⟨p, 1, none⟩ (.int .i64 why)) := by
  have k' : Keeps [p] w ((w3.setCell ⟨p, 0, none⟩ v).setCell ⟨p, 1, none⟩ (.int .i64 why)) := (k.setCell (Or.inl (by simp)) _).setCell (Or.inl (by simp)) _
  exact ⟨⟨(heap_three (heap_three h3.blk _).1 _).2, h.row.keep k' h.off, h.off, h.lo, h.fits⟩, k'⟩

set_option maxHeartbeats 800000 in
theorem attInt_any (w : World) (B p be bn : Nat) (v : Value) (zs : List Int) (bad n : Int) (h : EyeAt w B p v zs bad)
    (he : w.cell? ⟨be, 0, none⟩ = some (.pointer (some ⟨p, 0, none⟩))) (hn : w.cell? ⟨bn, 0, none⟩ = some (.int .i64 n)) :
    Calls Try.prog 139 #[.pointer (some ⟨p, 0, none⟩), .func (.func 140) #[] #[.pointer (some ⟨be, 0, none⟩), .pointer (some ⟨bn, 0, none⟩)]] w
      (EyePost w B p v (after zs bad (rdNum n zs)) (.int .i64 0) retInt) := by
  have H := hid h
  have HE := hid he
  have HN := hid hn
  have hmf : ∀ (fn : Fn) (first cap : Array Value) (w : World), (Instr.makeFunc fn first cap).run Try.prog w = .ok (.func fn first cap) w := fun _ _ _ _ => rfl
  have K1 := (Keeps.refl [] w).alloc (.cells #[.pointer (some ⟨p, 0, none⟩)] 73)
  have H1 := hid (h.keep K1 (by simp) (by intro _ _ _ _ _; simp))
  have c0 := h.cell0
  obtain ⟨a, cap, rfl, _⟩ := h.row
  have hp := h.lt
  clear h he hn
  by_cases hb : bad = 0
  · subst hb
    go_enter_defers Try.func139, Try.ntmps139
    go_wp2_with fail
    refine (fail_any _ B p _ zs 0 H1.out).mono ?_
    rintro e w1 ⟨rfl, rfl⟩
    have c0' : (w.alloc (.cells #[.pointer (some ⟨p, 0, none⟩)] 73)).cell? ⟨p, 0, none⟩ = some (.slice a zs.length cap) := H1.out.cell0
    go_wp2_with fail
    have K2 : Keeps [] w ((w.alloc (.cells #[.pointer (some ⟨p, 0, none⟩)] 73)).alloc (.cells #[.slice a zs.length cap] 28)) := K1.alloc _
    refine (numC_any _ B p be bn _ zs 0 n (H.out.keep K2 (by simp) (by intro _ _ _ _ _; simp)) (K2.cell HE.out (by simp)) (K2.cell HN.out (by simp))).mono ?_
    have K2H := hid K2
    clear K1 K2 c0'
    rintro e w3 ⟨q1, q2⟩
    have q1' := hid q1
    have x0 : w3.cell? ⟨w.heap.size, 0, none⟩ = some (.pointer (some ⟨p, 0, none⟩)) := q1.cell (two_new _ _ _ _ _).1 (by simp; omega)
    have x1 : w3.cell? ⟨w.heap.size + 1, 0, none⟩ = some (.slice a zs.length cap) := q1.cell (two_new _ _ _ _ _).2 (by simp; omega)
    have X0 := hid x0
    have X1 := hid x1
    clear x0 x1 q1
    generalize hr : rdNum n zs = r at q2
    have HR := hid hr
    clear hr
    cases r with
    | error why =>
      obtain ⟨rfl, v2, zs2, q3⟩ := q2
      have Q3 := hid q3
      clear q3
      unfold gaveUp
      go_wp2_with fail
      refine leaves_cons (f := 187) (args := #[.pointer (some ⟨w.heap.size + 1, 0, none⟩), .pointer (some ⟨w.heap.size, 0, none⟩)]) (by simp) (by simp [go_sem]) ?_
      refine (catchInt_panicking p (w.heap.size + 1) w.heap.size _ _ _ why [] w3 Q3.out.blk ⟨_, _, _, rfl⟩ X1.out X0.out).mono ?_
      rintro e u' w4 ⟨rfl, rfl, rfl⟩
      have kk : Keeps [p] w w3 := (K2H.out.mono (by simp)).trans q1'.out
      have hb := H.out.back kk Q3.out why
      refine ⟨_, results_tmp rfl _ _ _, ⟨_, ?_, SameBlk.refl _⟩, hb.2, ?_⟩
      · have e1 : after zs 0 (Except.error why : Except Int (Int × List Int)) = (none, zs, why) := by simp [after]
        rw [e1]
        exact hb.1
      · simp [after]
    | ok x =>
      obtain ⟨x, rest⟩ := x
      obtain ⟨rfl, v2, q3, q4⟩ := q2
      have Q3 := hid q3
      have Q4 := hid q4
      clear q3 q4
      go_wp2_with fail
      refine leaves_cons (f := 187) (args := #[.pointer (some ⟨w.heap.size + 1, 0, none⟩), .pointer (some ⟨w.heap.size, 0, none⟩)]) (by simp) (by simp [go_sem]) ?_
      refine (catchInt_idle _ _ w3).mono ?_
      rintro e u' w4 ⟨rfl, rfl, rfl⟩
      have kk : Keeps [p] w w4 := (K2H.out.mono (by simp)).trans q1'.out
      rw [HR.out]
      refine ⟨_, results_tmp rfl _ _ _, ?_, kk, ?_⟩
      · have e1 : after zs 0 (Except.ok (x, rest) : Except Int (Int × List Int)) = (some x, rest, 0) := by simp [after]
        rw [e1]
        exact ⟨v2, Q3.out, Q4.out⟩
      · simp [after, retInt]
  · have hb1 : (bad == 0) = false := by simpa using hb
    have hb2 : (bad != 0) = true := by simpa using hb
    have HB := hid hb
    clear hb
    go_enter_defers Try.func139, Try.ntmps139
    go_wp2_with fail
    refine (fail_any _ B p _ zs bad H1.out).mono ?_
    rintro e w1 ⟨rfl, rfl⟩
    go_wp2_with fail
    refine ⟨_, results_tmp rfl _ _ _, ?_⟩
    have e1 : after zs bad (rdNum n zs) = (none, zs, bad) := by unfold after; rw [if_pos HB.out]
    rw [e1]
    exact ⟨⟨_, H1.out, SameBlk.refl _⟩, K1.mono (by simp), rfl⟩
set_option maxHeartbeats 800000 in
theorem attStr_any (w : World) (B p be bn : Nat) (v : Value) (zs : List Int) (bad n : Int) (h : EyeAt w B p v zs bad)
    (he : w.cell? ⟨be, 0, none⟩ = some (.pointer (some ⟨p, 0, none⟩))) (hn : w.cell? ⟨bn, 0, none⟩ = some (.int .i64 n)) :
    Calls Try.prog 198 #[.pointer (some ⟨p, 0, none⟩), .func (.func 199) #[] #[.pointer (some ⟨be, 0, none⟩), .pointer (some ⟨bn, 0, none⟩)]] w
      (EyePost w B p v (after zs bad (rdCount n zs)) (.string ⟨#[]⟩) retStr) := by
  have H := hid h
  have HE := hid he
  have HN := hid hn
  have hmf : ∀ (fn : Fn) (first cap : Array Value) (w : World), (Instr.makeFunc fn first cap).run Try.prog w = .ok (.func fn first cap) w := fun _ _ _ _ => rfl
  have K1 := (Keeps.refl [] w).alloc (.cells #[.pointer (some ⟨p, 0, none⟩)] 73)
  have H1 := hid (h.keep K1 (by simp) (by intro _ _ _ _ _; simp))
  have c0 := h.cell0
  obtain ⟨a, cap, rfl, _⟩ := h.row
  have hp := h.lt
  clear h he hn
  by_cases hb : bad = 0
  · subst hb
    go_enter_defers Try.func198, Try.ntmps198
    go_wp2_with fail
    refine (fail_any _ B p _ zs 0 H1.out).mono ?_
    rintro e w1 ⟨rfl, rfl⟩
    have c0' : (w.alloc (.cells #[.pointer (some ⟨p, 0, none⟩)] 73)).cell? ⟨p, 0, none⟩ = some (.slice a zs.length cap) := H1.out.cell0
    go_wp2_with fail
    have K2 : Keeps [] w ((w.alloc (.cells #[.pointer (some ⟨p, 0, none⟩)] 73)).alloc (.cells #[.slice a zs.length cap] 28)) := K1.alloc _
    refine (textC_any _ B p be bn _ zs 0 n (H.out.keep K2 (by simp) (by intro _ _ _ _ _; simp)) (K2.cell HE.out (by simp)) (K2.cell HN.out (by simp))).mono ?_
    have K2H := hid K2
    clear K1 K2 c0'
    rintro e w3 ⟨q1, q2⟩
    have q1' := hid q1
    have x0 : w3.cell? ⟨w.heap.size, 0, none⟩ = some (.pointer (some ⟨p, 0, none⟩)) := q1.cell (two_new _ _ _ _ _).1 (by simp; omega)
    have x1 : w3.cell? ⟨w.heap.size + 1, 0, none⟩ = some (.slice a zs.length cap) := q1.cell (two_new _ _ _ _ _).2 (by simp; omega)
    have X0 := hid x0
    have X1 := hid x1
    clear x0 x1 q1
    generalize hr : rdCount n zs = r at q2
    have HR := hid hr
    clear hr
    cases r with
    | error why =>
      obtain ⟨rfl, v2, zs2, q3⟩ := q2
      have Q3 := hid q3
      clear q3
      unfold gaveUp
      go_wp2_with fail
      refine leaves_cons (f := 218) (args := #[.pointer (some ⟨w.heap.size + 1, 0, none⟩), .pointer (some ⟨w.heap.size, 0, none⟩)]) (by simp) (by simp [go_sem]) ?_
      refine (catchStr_panicking p (w.heap.size + 1) w.heap.size _ _ _ why [] w3 Q3.out.blk ⟨_, _, _, rfl⟩ X1.out X0.out).mono ?_
      rintro e u' w4 ⟨rfl, rfl, rfl⟩
      have kk : Keeps [p] w w3 := (K2H.out.mono (by simp)).trans q1'.out
      have hb := H.out.back kk Q3.out why
      refine ⟨_, results_tmp rfl _ _ _, ⟨_, ?_, SameBlk.refl _⟩, hb.2, ?_⟩
      · have e1 : after zs 0 (Except.error why : Except Int (List Int × List Int)) = (none, zs, why) := by simp [after]
        rw [e1]
        exact hb.1
      · simp [after]
    | ok x =>
      obtain ⟨x, rest⟩ := x
      obtain ⟨rfl, v2, q3, q4⟩ := q2
      have Q3 := hid q3
      have Q4 := hid q4
      clear q3 q4
      go_wp2_with fail
      refine leaves_cons (f := 218) (args := #[.pointer (some ⟨w.heap.size + 1, 0, none⟩), .pointer (some ⟨w.heap.size, 0, none⟩)]) (by simp) (by simp [go_sem]) ?_
      refine (catchStr_idle _ _ w3).mono ?_
      rintro e u' w4 ⟨rfl, rfl, rfl⟩
      have kk : Keeps [p] w w4 := (K2H.out.mono (by simp)).trans q1'.out
      rw [HR.out]
      refine ⟨_, results_tmp rfl _ _ _, ?_, kk, ?_⟩
      · have e1 : after zs 0 (Except.ok (x, rest) : Except Int (List Int × List Int)) = (some x, rest, 0) := by simp [after]
        rw [e1]
        exact ⟨v2, Q3.out, Q4.out⟩
      · simp [after, retStr]
  · have hb1 : (bad == 0) = false := by simpa using hb
    have hb2 : (bad != 0) = true := by simpa using hb
    have HB := hid hb
    clear hb
    go_enter_defers Try.func198, Try.ntmps198
    go_wp2_with fail
    refine (fail_any _ B p _ zs bad H1.out).mono ?_
    rintro e w1 ⟨rfl, rfl⟩
    go_wp2_with fail
    refine ⟨_, results_tmp rfl _ _ _, ?_⟩
    have e1 : after zs bad (rdCount n zs) = (none, zs, bad) := by unfold after; rw [if_pos HB.out]
    rw [e1]
    exact ⟨⟨_, H1.out, SameBlk.refl _⟩, K1.mono (by simp), rfl⟩
set_option maxHeartbeats 800000 in
theorem attRaw_any (w : World) (B p be bn : Nat) (v : Value) (zs : List Int) (bad n : Int) (h : EyeAt w B p v zs bad)
    (he : w.cell? ⟨be, 0, none⟩ = some (.pointer (some ⟨p, 0, none⟩))) (hn : w.cell? ⟨bn, 0, none⟩ = some (.int .i64 n)) :
    Calls Try.prog 191 #[.pointer (some ⟨p, 0, none⟩), .func (.func 192) #[] #[.pointer (some ⟨be, 0, none⟩), .pointer (some ⟨bn, 0, none⟩)]] w
      (EyePost w B p v (after zs bad (rdCount n zs)) (.slice none 0 0) (retNew w)) := by
  have H := hid h
  have HE := hid he
  have HN := hid hn
  have hmf : ∀ (fn : Fn) (first cap : Array Value) (w : World), (Instr.makeFunc fn first cap).run Try.prog w = .ok (.func fn first cap) w := fun _ _ _ _ => rfl
  have K1 := (Keeps.refl [] w).alloc (.cells #[.pointer (some ⟨p, 0, none⟩)] 73)
  have H1 := hid (h.keep K1 (by simp) (by intro _ _ _ _ _; simp))
  have c0 := h.cell0
  obtain ⟨a, cap, rfl, _⟩ := h.row
  have hp := h.lt
  clear h he hn
  by_cases hb : bad = 0
  · subst hb
    go_enter_defers Try.func191, Try.ntmps191
    go_wp2_with fail
    refine (fail_any _ B p _ zs 0 H1.out).mono ?_
    rintro e w1 ⟨rfl, rfl⟩
    have c0' : (w.alloc (.cells #[.pointer (some ⟨p, 0, none⟩)] 73)).cell? ⟨p, 0, none⟩ = some (.slice a zs.length cap) := H1.out.cell0
    go_wp2_with fail
    have K2 : Keeps [] w ((w.alloc (.cells #[.pointer (some ⟨p, 0, none⟩)] 73)).alloc (.cells #[.slice a zs.length cap] 28)) := K1.alloc _
    refine (rawC_any _ B p be bn _ zs 0 n (H.out.keep K2 (by simp) (by intro _ _ _ _ _; simp)) (K2.cell HE.out (by simp)) (K2.cell HN.out (by simp))).mono ?_
    have K2H := hid K2
    clear K1 K2 c0'
    rintro e w3 ⟨q1, q2⟩
    have q1' := hid q1
    have x0 : w3.cell? ⟨w.heap.size, 0, none⟩ = some (.pointer (some ⟨p, 0, none⟩)) := q1.cell (two_new _ _ _ _ _).1 (by simp; omega)
    have x1 : w3.cell? ⟨w.heap.size + 1, 0, none⟩ = some (.slice a zs.length cap) := q1.cell (two_new _ _ _ _ _).2 (by simp; omega)
    have X0 := hid x0
    have X1 := hid x1
    clear x0 x1 q1
    generalize hr : rdCount n zs = r at q2
    have HR := hid hr
    clear hr
    cases r with
    | error why =>
      obtain ⟨rfl, v2, zs2, q3⟩ := q2
      have Q3 := hid q3
      clear q3
      unfold gaveUp
      go_wp2_with fail
      refine leaves_cons (f := 214) (args := #[.pointer (some ⟨w.heap.size + 1, 0, none⟩), .pointer (some ⟨w.heap.size, 0, none⟩)]) (by simp) (by simp [go_sem]) ?_
      refine (catchRaw_panicking p (w.heap.size + 1) w.heap.size _ _ _ why [] w3 Q3.out.blk ⟨_, _, _, rfl⟩ X1.out X0.out).mono ?_
      rintro e u' w4 ⟨rfl, rfl, rfl⟩
      have kk : Keeps [p] w w3 := (K2H.out.mono (by simp)).trans q1'.out
      have hb := H.out.back kk Q3.out why
      refine ⟨_, results_tmp rfl _ _ _, ⟨_, ?_, SameBlk.refl _⟩, hb.2, ?_⟩
      · have e1 : after zs 0 (Except.error why : Except Int (List Int × List Int)) = (none, zs, why) := by simp [after]
        rw [e1]
        exact hb.1
      · simp [after]
    | ok x =>
      obtain ⟨x, rest⟩ := x
      obtain ⟨⟨ra, rc, rfl, r1, r2⟩, v2, q3, q4⟩ := q2
      have R1 := hid r1
      have R2 := hid r2
      have Q3 := hid q3
      have Q4 := hid q4
      clear q3 q4 r1 r2
      go_wp2_with fail
      refine leaves_cons (f := 214) (args := #[.pointer (some ⟨w.heap.size + 1, 0, none⟩), .pointer (some ⟨w.heap.size, 0, none⟩)]) (by simp) (by simp [go_sem]) ?_
      refine (catchRaw_idle _ _ w3).mono ?_
      rintro e u' w4 ⟨rfl, rfl, rfl⟩
      have kk : Keeps [p] w w4 := (K2H.out.mono (by simp)).trans q1'.out
      rw [HR.out]
      refine ⟨_, results_tmp rfl _ _ _, ?_, kk, ?_⟩
      · have e1 : after zs 0 (Except.ok (x, rest) : Except Int (List Int × List Int)) = (some x, rest, 0) := by simp [after]
        rw [e1]
        exact ⟨v2, Q3.out, Q4.out⟩
      · exact ⟨ra, rc, rfl, R1.out, fun ad had => by have := R2.out ad had; simp at this; omega⟩
  · have hb1 : (bad == 0) = false := by simpa using hb
    have hb2 : (bad != 0) = true := by simpa using hb
    have HB := hid hb
    clear hb
    go_enter_defers Try.func191, Try.ntmps191
    go_wp2_with fail
    refine (fail_any _ B p _ zs bad H1.out).mono ?_
    rintro e w1 ⟨rfl, rfl⟩
    go_wp2_with fail
    refine ⟨_, results_tmp rfl _ _ _, ?_⟩
    have e1 : after zs bad (rdCount n zs) = (none, zs, bad) := by unfold after; rw [if_pos HB.out]
    rw [e1]
    exact ⟨⟨_, H1.out, SameBlk.refl _⟩, K1.mono (by simp), rfl⟩
set_option maxHeartbeats 800000 in
theorem attBool_any (w : World) (B p : Nat) (v : Value) (zs : List Int) (bad : Int) (h : EyeAt w B p v zs bad) :
    Calls Try.prog 189 #[.pointer (some ⟨p, 0, none⟩), .func (.func 190) #[.pointer (some ⟨p, 0, none⟩)] #[]] w
      (EyePost w B p v (after zs bad (rdBool zs)) (.bool false) retBool) := by
  have H := hid h
  have hmf : ∀ (fn : Fn) (first cap : Array Value) (w : World), (Instr.makeFunc fn first cap).run Try.prog w = .ok (.func fn first cap) w := fun _ _ _ _ => rfl
  have K1 := (Keeps.refl [] w).alloc (.cells #[.pointer (some ⟨p, 0, none⟩)] 73)
  have H1 := hid (h.keep K1 (by simp) (by intro _ _ _ _ _; simp))
  have c0 := h.cell0
  obtain ⟨a, cap, rfl, _⟩ := h.row
  have hp := h.lt
  clear h
  by_cases hb : bad = 0
  · subst hb
    go_enter_defers Try.func189, Try.ntmps189
    go_wp2_with fail
    refine (fail_any _ B p _ zs 0 H1.out).mono ?_
    rintro e w1 ⟨rfl, rfl⟩
    have c0' : (w.alloc (.cells #[.pointer (some ⟨p, 0, none⟩)] 73)).cell? ⟨p, 0, none⟩ = some (.slice a zs.length cap) := H1.out.cell0
    go_wp2_with fail
    have K2 : Keeps [] w ((w.alloc (.cells #[.pointer (some ⟨p, 0, none⟩)] 73)).alloc (.cells #[.slice a zs.length cap] 28)) := K1.alloc _
    refine (truth_any _ B p _ zs 0 (H.out.keep K2 (by simp) (by intro _ _ _ _ _; simp))).mono ?_
    have K2H := hid K2
    clear K1 K2 c0'
    rintro e w3 ⟨q1, q2⟩
    have q1' := hid q1
    have x0 : w3.cell? ⟨w.heap.size, 0, none⟩ = some (.pointer (some ⟨p, 0, none⟩)) := q1.cell (two_new _ _ _ _ _).1 (by simp; omega)
    have x1 : w3.cell? ⟨w.heap.size + 1, 0, none⟩ = some (.slice a zs.length cap) := q1.cell (two_new _ _ _ _ _).2 (by simp; omega)
    have X0 := hid x0
    have X1 := hid x1
    clear x0 x1 q1
    generalize hr : rdBool zs = r at q2
    have HR := hid hr
    clear hr
    cases r with
    | error why =>
      obtain ⟨rfl, v2, zs2, q3⟩ := q2
      have Q3 := hid q3
      clear q3
      unfold gaveUp
      go_wp2_with fail
      refine leaves_cons (f := 213) (args := #[.pointer (some ⟨w.heap.size + 1, 0, none⟩), .pointer (some ⟨w.heap.size, 0, none⟩)]) (by simp) (by simp [go_sem]) ?_
      refine (catchBool_panicking p (w.heap.size + 1) w.heap.size _ _ _ why [] w3 Q3.out.blk ⟨_, _, _, rfl⟩ X1.out X0.out).mono ?_
      rintro e u' w4 ⟨rfl, rfl, rfl⟩
      have kk : Keeps [p] w w3 := (K2H.out.mono (by simp)).trans q1'.out
      have hb := H.out.back kk Q3.out why
      refine ⟨_, results_tmp rfl _ _ _, ⟨_, ?_, SameBlk.refl _⟩, hb.2, ?_⟩
      · have e1 : after zs 0 (Except.error why : Except Int (Bool × List Int)) = (none, zs, why) := by simp [after]
        rw [e1]
        exact hb.1
      · simp [after]
    | ok x =>
      obtain ⟨x, rest⟩ := x
      obtain ⟨rfl, v2, q3, q4⟩ := q2
      have Q3 := hid q3
      have Q4 := hid q4
      clear q3 q4
      go_wp2_with fail
      refine leaves_cons (f := 213) (args := #[.pointer (some ⟨w.heap.size + 1, 0, none⟩), .pointer (some ⟨w.heap.size, 0, none⟩)]) (by simp) (by simp [go_sem]) ?_
      refine (catchBool_idle _ _ w3).mono ?_
      rintro e u' w4 ⟨rfl, rfl, rfl⟩
      have kk : Keeps [p] w w4 := (K2H.out.mono (by simp)).trans q1'.out
      rw [HR.out]
      refine ⟨_, results_tmp rfl _ _ _, ?_, kk, ?_⟩
      · have e1 : after zs 0 (Except.ok (x, rest) : Except Int (Bool × List Int)) = (some x, rest, 0) := by simp [after]
        rw [e1]
        exact ⟨v2, Q3.out, Q4.out⟩
      · simp [after, retBool]
  · have hb1 : (bad == 0) = false := by simpa using hb
    have hb2 : (bad != 0) = true := by simpa using hb
    have HB := hid hb
    clear hb
    go_enter_defers Try.func189, Try.ntmps189
    go_wp2_with fail
    refine (fail_any _ B p _ zs bad H1.out).mono ?_
    rintro e w1 ⟨rfl, rfl⟩
    go_wp2_with fail
    refine ⟨_, results_tmp rfl _ _ _, ?_⟩
    have e1 : after zs bad (rdBool zs) = (none, zs, bad) := by unfold after; rw [if_pos HB.out]
    rw [e1]
    exact ⟨⟨_, H1.out, SameBlk.refl _⟩, K1.mono (by simp), rfl⟩
end Go.Proofs.Ytjohikekhgcepaa
