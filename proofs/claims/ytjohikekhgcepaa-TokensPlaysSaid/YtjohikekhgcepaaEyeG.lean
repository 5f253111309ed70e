/- Walks of the eye: NewEye, Num, Text, Raw, Bool. -/
import Derived.Test.YtjohikekhgcepaaEyeF
namespace Go.Proofs.Ytjohikekhgcepaa
open Go.RowKit

set_option maxHeartbeats 400000 in
theorem eyeNum_any (w : World) (B p : Nat) (v : Value) (zs : List Int) (bad n : Int) (h : EyeAt w B p v zs bad) :
    Calls Try.prog 84 #[.pointer (some ⟨p, 0, none⟩), .int .i64 n] w (EyePost w B p v (after zs bad (rdNum n zs)) (.int .i64 0) retInt) := by
  have hmf : ∀ (fn : Fn) (first cap : Array Value) (w : World), (Instr.makeFunc fn first cap).run Try.prog w = .ok (.func fn first cap) w := fun _ _ _ _ => rfl
  have K := hid (((Keeps.refl [] w).alloc (.cells #[.pointer (some ⟨p, 0, none⟩)] 73)).alloc (.cells #[.int .i64 n] 3))
  have H := hid (h.keep K.out (by simp) (by intro _ _ _ _ _; simp))
  have hc := two_new w (.pointer (some ⟨p, 0, none⟩)) (.int .i64 n) 73 3
  have HC := hid hc
  clear h hc
  go_enter Try.func84, Try.ntmps84
  go_wp2_with fail
  refine (attInt_any _ B p w.heap.size (w.heap.size + 1) v zs bad n H.out HC.out.1 HC.out.2).mono ?_
  rintro e w1 ⟨q1, q2, q3⟩
  have Q1 := hid q1
  have Q2 := hid q2
  clear q1 q2
  generalize hst : after zs bad (rdNum n zs) = st at *
  obtain ⟨o, rest⟩ := st
  cases o with
  | none =>
    obtain rfl := q3
    clear hst
    go_wp2_with fail
    go_ret
    exact ⟨Q1.out, (K.out.mono (by simp)).trans Q2.out, rfl⟩
  | some x =>
    obtain rfl := q3
    clear hst
    go_wp2_with fail
    go_ret
    exact ⟨Q1.out, (K.out.mono (by simp)).trans Q2.out, rfl⟩

set_option maxHeartbeats 400000 in
theorem eyeText_any (w : World) (B p : Nat) (v : Value) (zs : List Int) (bad n : Int) (h : EyeAt w B p v zs bad) :
    Calls Try.prog 164 #[.pointer (some ⟨p, 0, none⟩), .int .i64 n] w (EyePost w B p v (after zs bad (rdCount n zs)) (.string ⟨#[]⟩) retStr) := by
  have hmf : ∀ (fn : Fn) (first cap : Array Value) (w : World), (Instr.makeFunc fn first cap).run Try.prog w = .ok (.func fn first cap) w := fun _ _ _ _ => rfl
  have K := hid (((Keeps.refl [] w).alloc (.cells #[.pointer (some ⟨p, 0, none⟩)] 73)).alloc (.cells #[.int .i64 n] 3))
  have H := hid (h.keep K.out (by simp) (by intro _ _ _ _ _; simp))
  have hc := two_new w (.pointer (some ⟨p, 0, none⟩)) (.int .i64 n) 73 3
  have HC := hid hc
  clear h hc
  go_enter Try.func164, Try.ntmps164
  go_wp2_with fail
  refine (attStr_any _ B p w.heap.size (w.heap.size + 1) v zs bad n H.out HC.out.1 HC.out.2).mono ?_
  rintro e w1 ⟨q1, q2, q3⟩
  have Q1 := hid q1
  have Q2 := hid q2
  clear q1 q2
  generalize hst : after zs bad (rdCount n zs) = st at *
  obtain ⟨o, rest⟩ := st
  cases o with
  | none =>
    obtain rfl := q3
    clear hst
    go_wp2_with fail
    go_ret
    exact ⟨Q1.out, (K.out.mono (by simp)).trans Q2.out, rfl⟩
  | some x =>
    obtain rfl := q3
    clear hst
    go_wp2_with fail
    go_ret
    exact ⟨Q1.out, (K.out.mono (by simp)).trans Q2.out, rfl⟩

set_option maxHeartbeats 400000 in
theorem eyeRaw_any (w : World) (B p : Nat) (v : Value) (zs : List Int) (bad n : Int) (h : EyeAt w B p v zs bad) :
    Calls Try.prog 152 #[.pointer (some ⟨p, 0, none⟩), .int .i64 n] w (EyePost w B p v (after zs bad (rdCount n zs)) (.slice none 0 0) (retNew w)) := by
  have hmf : ∀ (fn : Fn) (first cap : Array Value) (w : World), (Instr.makeFunc fn first cap).run Try.prog w = .ok (.func fn first cap) w := fun _ _ _ _ => rfl
  have K := hid (((Keeps.refl [] w).alloc (.cells #[.pointer (some ⟨p, 0, none⟩)] 73)).alloc (.cells #[.int .i64 n] 3))
  have H := hid (h.keep K.out (by simp) (by intro _ _ _ _ _; simp))
  have hc := two_new w (.pointer (some ⟨p, 0, none⟩)) (.int .i64 n) 73 3
  have HC := hid hc
  clear h hc
  go_enter Try.func152, Try.ntmps152
  go_wp2_with fail
  refine (attRaw_any _ B p w.heap.size (w.heap.size + 1) v zs bad n H.out HC.out.1 HC.out.2).mono ?_
  rintro e w1 ⟨q1, q2, q3⟩
  have Q1 := hid q1
  have Q2 := hid q2
  clear q1 q2
  generalize hst : after zs bad (rdCount n zs) = st at *
  obtain ⟨o, rest⟩ := st
  cases o with
  | none =>
    obtain rfl := q3
    clear hst
    go_wp2_with fail
    go_ret
    exact ⟨Q1.out, (K.out.mono (by simp)).trans Q2.out, rfl⟩
  | some x =>
    obtain ⟨ra, rc, rfl, r1, r2⟩ := q3
    have R1 := hid r1
    have R2 := hid r2
    clear hst r1 r2
    go_wp2_with fail
    go_ret
    exact ⟨Q1.out, (K.out.mono (by simp)).trans Q2.out, ra, rc, rfl, R1.out, fun ad had => by have := R2.out ad had; simp at this; omega⟩

set_option maxHeartbeats 400000 in
theorem eyeBool_any (w : World) (B p : Nat) (v : Value) (zs : List Int) (bad : Int) (h : EyeAt w B p v zs bad) :
    Calls Try.prog 142 #[.pointer (some ⟨p, 0, none⟩)] w (EyePost w B p v (after zs bad (rdBool zs)) (.bool false) retBool) := by
  have hmf : ∀ (fn : Fn) (first cap : Array Value) (w : World), (Instr.makeFunc fn first cap).run Try.prog w = .ok (.func fn first cap) w := fun _ _ _ _ => rfl
  have H := hid h
  clear h
  go_enter Try.func142, Try.ntmps142
  go_wp2_with fail
  refine (attBool_any _ B p v zs bad H.out).mono ?_
  rintro e w1 ⟨q1, q2, q3⟩
  have Q1 := hid q1
  have Q2 := hid q2
  clear q1 q2
  generalize hst : after zs bad (rdBool zs) = st at *
  obtain ⟨o, rest⟩ := st
  cases o with
  | none =>
    obtain rfl := q3
    clear hst
    go_wp2_with fail
    go_ret
    exact ⟨Q1.out, Q2.out, rfl⟩
  | some x =>
    obtain rfl := q3
    clear hst
    go_wp2_with fail
    go_ret
    exact ⟨Q1.out, Q2.out, rfl⟩

/-- What NewEye leaves. -/
def NewEyePost (w : World) (B : Nat) (zs : List Int) (e : Ending) (w' : World) : Prop :=
  ∃ q v, e = .returned (.pointer (some ⟨q, 0, none⟩)) ∧ w.heap.size ≤ q ∧ EyeAt w' B q v zs 0 ∧ Keeps [] w w' ∧ ∀ ad n c, v = .slice (some ad) n c → w.heap.size ≤ ad.block

set_option maxHeartbeats 400000 in
theorem newEye_any (w : World) (B : Nat) (u : Value) (zs : List Int) (h : RowAt w u zs) (hB : B ≤ w.heap.size) (hl : zs.length ≤ 35184372088832) :
    Calls Try.prog 35 #[u] w (NewEyePost w B zs) := by
  go_enter Try.func35, Try.ntmps35
  go_wp2_with fail
  refine (clone_any _ u zs h hl).mono ?_
  rintro e w1 ⟨a, c, rfl, q1, q2, q3⟩
  have Q1 := hid q1
  have Q2 := hid q2
  have Q3 := hid q3
  clear q1 q2 q3 h
  go_wp2_with fail
  go_ret
  have hs := Q3.out.size
  have K : Keeps [] w1 (w1.alloc (.cells #[.slice a zs.length c, .int .i64 0, .bool true] 155)) := (Keeps.refl [] w1).alloc _
  refine ⟨w1.heap.size, .slice a zs.length c, rfl, hs, ⟨heap_alloc_new _ _, Q1.out.keep K (by intro _ _ _ _ _; simp), ?_, by omega, hl⟩, Q3.out.alloc _, ?_⟩
  · intro ad n' c' e hne hm
    simp at hm
    have hpos : 0 < zs.length := by cases zs with
      | nil => exact absurd rfl hne
      | cons _ _ => simp
    obtain ⟨g, off, cap, hv, _, hc⟩ := Q1.out.open hpos
    rw [hv] at e
    injection e with e1 _ _
    obtain rfl := Option.some.inj e1
    have := World.block_lt_of_cell? _ _ (hc 0 hpos)
    simp at this hm
    omega
  · intro ad n' c' e
    injection e with e1 _ _
    exact Q2.out ad e1

end Go.Proofs.Ytjohikekhgcepaa
