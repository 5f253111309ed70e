/- The walk of the law NameKnown. -/
import Derived.Test.YtjahfnebnnkgfaaNaI
namespace Go.Proofs.Ytjahfnebnnkgfaa
open Go.RowKit

theorem parent_is (s : ByteArray) (a b : List UInt8) (n : Int) (h : parentN s.data.toList = (a, b, n)) (w : World) (hs : s.size ≤ 140737488351232) :
    Calls Try.prog 10 #[.string s] w fun e w' => e = .returned (.tuple #[.string ⟨a.toArray⟩, .string ⟨b.toArray⟩, .int .i64 n]) ∧ Keeps [] w w' :=
  (parent_any s w hs).mono fun e w' q => by
    obtain ⟨q1, q2⟩ := q
    rw [h] at q1
    exact ⟨q1, q2⟩
theorem within_is (s t : ByteArray) (b : Bool) (h : withinN s.data.toList t.data.toList = b) (w : World) (hs : s.size ≤ 140737488351232) (ht : t.size ≤ 140737488351232) :
    Calls Try.prog 11 #[.string s, .string t] w fun e w' => e = .returned (.bool b) ∧ Keeps [] w w' :=
  (within_any s t w hs ht).mono fun e w' q => by
    obtain ⟨q1, q2⟩ := q
    rw [h] at q1
    exact ⟨q1, q2⟩
theorem split_no (s : ByteArray) (h : splitN s.data.toList = none) (w : World) (hs : s.size ≤ 140737488351232) :
    Calls Try.prog 9 #[.string s] w fun e w' => e = .returned (.tuple #[.slice none 0 0, .int .i64 12]) ∧ Keeps [] w w' :=
  (split_any s w hs).mono fun _ _ q => q.none h
theorem split_yes (s : ByteArray) (l : List (List UInt8)) (h : splitN s.data.toList = some l) (w : World) (hs : s.size ≤ 140737488351232) :
    Calls Try.prog 9 #[.string s] w fun e w' => ∃ a c, e = .returned (.tuple #[.slice a l.length c, .int .i64 0]) ∧ SAt w' (.slice a l.length c) l ∧ Keeps [] w w' :=
  (split_any s w hs).mono fun _ _ q => by
    obtain ⟨v, q1, q2, q3⟩ := q.some h
    obtain ⟨a, c, rfl, _⟩ := id q2
    exact ⟨a, c, q1, q2, q3⟩

set_option maxHeartbeats 4000000 in
set_option maxRecDepth 100000 in
theorem k9Known_any (w : World) : Calls Try.prog 3 #[] w fun e w' => e = .returned (.bool true) ∧ Keeps [] w w' := by
  have S1 := hid (fun W => split_yes ⟨#[47]⟩ [] (by decide) W (by decide))
  have S2 := hid (fun W => split_no ⟨#[97]⟩ (by decide) W (by decide))
  have S3 := hid (fun W => split_no ⟨#[47, 97, 47]⟩ (by decide) W (by decide))
  have P1 := hid (fun W => parent_is ⟨#[47, 97, 47, 98]⟩ [47, 97] [98] 0 (by decide) W (by decide))
  have P2 := hid (fun W => parent_is ⟨#[47]⟩ [] [] 1 (by decide) W (by decide))
  have W1 := hid (fun W => within_is ⟨#[47, 97, 47, 98]⟩ ⟨#[47, 97]⟩ true (by decide) W (by decide) (by decide))
  have W2 := hid (fun W => within_is ⟨#[47, 97, 98]⟩ ⟨#[47, 97]⟩ false (by decide) W (by decide) (by decide))
  go_enter Try.func3, Try.ntmps3
  go_wp2_with (go_at_call 8; refine (awake9_any w).mono ?_; rintro e w1 ⟨rfl, k1⟩)
  have K1 := hid k1
  clear k1
  go_wp2_with (go_at_call_of 9 (Value.string ⟨#[47]⟩); refine (S1.out _).mono ?_)
  rintro e w2 ⟨a, c, rfl, _, k2⟩
  have K2 := hid (K1.out.trans k2)
  clear k2
  simp only [List.length_nil]
  go_wp2_with (go_at_call_of 9 (Value.string ⟨#[97]⟩); refine (S2.out _).mono ?_)
  rintro e w3 ⟨rfl, k3⟩
  have K3 := hid (K2.out.trans k3)
  clear k3
  go_wp2_with (go_at_call_of 9 (Value.string ⟨#[47, 97, 47]⟩); refine (S3.out _).mono ?_)
  rintro e w4 ⟨rfl, k4⟩
  have K4 := hid (K3.out.trans k4)
  clear k4
  go_wp2_with (go_at_call_of 10 (Value.string ⟨#[47, 97, 47, 98]⟩); refine (P1.out _).mono ?_)
  rintro e w5 ⟨rfl, k5⟩
  have K5 := hid (K4.out.trans k5)
  clear k5
  go_wp2_with (go_at_call_of 10 (Value.string ⟨#[47]⟩); refine (P2.out _).mono ?_)
  rintro e w6 ⟨rfl, k6⟩
  have K6 := hid (K5.out.trans k6)
  clear k6
  go_wp2_with (go_at_call_of 11 (Value.string ⟨#[47, 97, 47, 98]⟩); refine (W1.out _).mono ?_)
  rintro e w7 ⟨rfl, k7⟩
  have K7 := hid (K6.out.trans k7)
  clear k7
  go_wp2_with (go_at_call_of 11 (Value.string ⟨#[47, 97, 98]⟩); refine (W2.out _).mono ?_)
  rintro e w8 ⟨rfl, k8⟩
  have K8 := hid (K7.out.trans k8)
  clear k8
  go_wp2_with fail
  go_ret
  exact ⟨rfl, K8.out⟩
end Go.Proofs.Ytjahfnebnnkgfaa
