/- The walk of the law NamePaths. -/
import Derived.Test.YtjahfnebnnkgfaaNaI
namespace Go.Proofs.Ytjahfnebnnkgfaa
open Go.RowKit

def splL (p : List UInt8) : List (List UInt8) := (splitN p).getD []
def splE (p : List UInt8) : Int := if (splitN p).isSome then 0 else 12

theorem SplitPost.any {p : List UInt8} {w w' : World} {e : Ending} (h : SplitPost p w e w') :
    ∃ a c, e = .returned (.tuple #[.slice a (splL p).length c, .int .i64 (splE p)]) ∧ SAt w' (.slice a (splL p).length c) (splL p) ∧ Keeps [] w w' := by
  cases hs : splitN p with
  | none =>
    obtain ⟨h1, h2⟩ := h.none hs
    unfold splL splE
    rw [hs]
    exact ⟨Option.none, 0, h1, SAt.nil _, h2⟩
  | some l =>
    obtain ⟨v, h1, h2, h3⟩ := h.some hs
    obtain ⟨a, c, rfl, _⟩ := id h2
    unfold splL splE
    rw [hs]
    exact ⟨a, c, h1, h2, h3⟩

theorem texts_same (w : World) (u v : Value) (L : List (List UInt8)) (hx : SAt w u L) (hy : SAt w v L) :
    Calls Try.prog 16 #[u, v] w fun e w' => e = .returned (.bool true) ∧ ∃ n, w' = w.drewN n := by
  have h := texts_any w u v L L hx hy
  rw [decide_eq_true rfl] at h
  exact h

set_option maxHeartbeats 4000000 in
set_option maxRecDepth 100000 in
theorem k9Paths_any (w : World) (s t : ByteArray) (hs : s.size ≤ maxLen) (ht : t.size ≤ maxLen) : Calls Try.prog 4 #[.string s, .string t] w fun e w' => e = .returned (.bool true) ∧ Keeps [] w w' := by
  unfold maxLen at hs ht
  by_cases h500 : s.size ≤ 500 ∧ t.size ≤ 500
  · obtain ⟨h1, h2⟩ := h500
    have A1 := hid (fun W => split_any s W (by omega))
    have A2 := hid (fun W => rsplit_any s W (by omega))
    have A3 := hid (fun W => parent_any s W (by omega))
    have A4 := hid (fun W => rparent_any s W (by omega))
    have A5 := hid (fun W => may_any s W (by unfold maxLen; omega))
    have A6 := hid (fun W => rmay_any s W (by unfold maxLen; omega))
    have A7 := hid (fun W => within_any s t W (by omega) (by omega))
    have A8 := hid (fun W => rwithin_any s t W (by omega) (by omega))
    go_enter Try.func4, Try.ntmps4
    go_wp2_with (go_at_call 8; refine (awake9_any w).mono ?_; rintro e w1 ⟨rfl, k1⟩)
    have K1 := hid k1
    clear k1
    go_wp2_with (go_at_call 9; refine (A1.out _).mono ?_)
    intro e w2 q
    obtain ⟨a1, c1, rfl, v1, k2⟩ := q.any
    have V1 := hid v1
    have K2 := hid (K1.out.trans k2)
    clear v1 k2 q
    go_wp2_with (go_at_call 12; refine (A2.out _).mono ?_)
    intro e w3 q
    obtain ⟨a2, c2, rfl, v2, k3⟩ := q.any
    have V2 := hid v2
    have V1' := hid (V1.out.keep k3)
    have K3 := hid (K2.out.trans k3)
    clear v2 k3 q
    go_wp2_with (go_at_call 10; refine (A3.out _).mono ?_)
    rintro e w4 ⟨rfl, k4⟩
    have V2' := hid (V2.out.keep k4)
    have V1'' := hid (V1'.out.keep k4)
    have K4 := hid (K3.out.trans k4)
    clear k4
    go_wp2_with (go_at_call 13; refine (A4.out _).mono ?_)
    rintro e w5 ⟨rfl, k5⟩
    have V2c := hid (V2'.out.keep k5)
    have V1c := hid (V1''.out.keep k5)
    have K5 := hid (K4.out.trans k5)
    clear k5
    unfold WithinPost at A7 A8
    obtain ⟨pa, hpa⟩ : ∃ x : ByteArray, bstr (parentN s.data.toList).1 = .string x := ⟨_, rfl⟩
    obtain ⟨pb, hpb⟩ : ∃ x : ByteArray, bstr (parentN s.data.toList).2.1 = .string x := ⟨_, rfl⟩
    rw [hpa, hpb]
    clear hpa hpb
    generalize (parentN s.data.toList).2.2 = pn
    generalize withinN s.data.toList t.data.toList = wb at A7 A8
    generalize mayN s.data.toList = mb at A5 A6
    have HT := hid (texts_same w5 _ _ _ V1c.out V2c.out)
    go_wp2_with (first | (go_at_call 14; refine (A5.out _).mono ?_; rintro e w' ⟨rfl, rfl⟩) | (go_at_call 15; refine (A6.out _).mono ?_; rintro e w' ⟨rfl, rfl⟩))
    go_wp2_with (go_at_call 16; refine HT.out.mono ?_)
    rintro e w6 ⟨rfl, n, hw6⟩
    have K6 := hid (keeps_drewN K5.out hw6)
    clear hw6
    go_wp2_with (go_at_call 11; refine (A7.out _).mono ?_)
    rintro e w7 ⟨rfl, k7⟩
    have K7 := hid (K6.out.trans k7)
    clear k7
    go_wp2_with (go_at_call 17; refine (A8.out _).mono ?_)
    rintro e w8 ⟨rfl, k8⟩
    have K8 := hid (K7.out.trans k8)
    clear k8
    go_wp2_with fail
    go_ret
    exact ⟨rfl, K8.out⟩
  · by_cases h1 : s.size ≤ 500
    · have h2 : 500 < t.size := by omega
      go_enter Try.func4, Try.ntmps4
      go_wp2_with (go_at_call 8; refine (awake9_any w).mono ?_; rintro e w1 ⟨rfl, k1⟩)
      go_ret
      exact ⟨rfl, k1⟩
    · have h1' : 500 < s.size := by omega
      go_enter Try.func4, Try.ntmps4
      go_wp2_with (go_at_call 8; refine (awake9_any w).mono ?_; rintro e w1 ⟨rfl, k1⟩)
      go_ret
      exact ⟨rfl, k1⟩
end Go.Proofs.Ytjahfnebnnkgfaa
