/- name: slices.Equal on texts; Within, of the code and of the reference. -/
import Derived.Test.YtnmiffkflnlanaaNaG
namespace Go.Proofs.Ytnmiffkflnlanaa
open Go.RowKit
set_option maxRecDepth 100000

def toB (L : List (List UInt8)) : List ByteArray := L.map fun b => ⟨b.toArray⟩
theorem toB_inj {L M : List (List UInt8)} (h : toB L = toB M) : L = M := by
  have e : ∀ K : List (List UInt8), (toB K).map (fun s => s.data.toList) = K := fun K => by
    unfold toB
    rw [List.map_map]
    conv => rhs; rw [← List.map_id K]
    exact List.map_congr_left fun x _ => by simp
  rw [← e L, ← e M, h]
theorem toB_at (L : List (List UInt8)) (j : Nat) (h : j < L.length) : bstr L[j] = .string ((toB L).getD j ByteArray.empty) := by
  rw [List.getD_eq_getElem?_getD, toB, List.getElem?_map, List.getElem?_eq_getElem h]
  rfl

theorem equalS_any (w : World) (u v : Value) (L M : List (List UInt8)) (hx : SAt w u L) (hy : SAt w v M) :
    Calls Try.prog 54 #[u, v] w fun e w' => e = .returned (.bool (decide (L = M))) ∧ ∃ n, w' = w.drewN n := by
  obtain ⟨a1, k1, rfl, z1, z2, z3, z4⟩ := id hx
  obtain ⟨a2, k2, rfl, y1, y2, y3, y4⟩ := id hy
  unfold maxLen at z2 y2
  by_cases hl : L.length = M.length
  · by_cases h0 : L.length = 0
    · have e1 : L = [] := List.eq_nil_of_length_eq_zero h0
      have e2 : M = [] := List.eq_nil_of_length_eq_zero (by omega)
      subst e1; subst e2
      exact (Try.slices_Equal_string_empty a1 a2 k1 0 k2 w (by omega)).mono fun e w' h => ⟨h.1, 0, h.2⟩
    · obtain ⟨g1, o1, c1, e1, _, hc1⟩ := hx.open (by omega)
      obtain ⟨g2, o2, c2, e2, _, hc2⟩ := hy.open (by omega)
      injection e1 with e1 _ _
      injection e2 with e2 _ _
      subst e1; subst e2
      have q1 : (toB L).length = L.length := by simp [toB]
      have q2 : (toB M).length = M.length := by simp [toB]
      refine (Try.slices_Equal_string g1 o1 L.length k1 g2 o2 M.length k2 (toB L) (toB M) w (by omega) (by omega) (by omega) (by omega)
        (fun j hj => by rw [hc1 j (by omega), toB_at]) (fun j hj => by rw [hc2 j (by omega), toB_at])).mono fun e w' h => ⟨?_, h.2⟩
      rw [h.1, List.take_of_length_le (by omega), List.take_of_length_le (by omega)]
      refine ret_bool ?_
      rw [Bool.eq_iff_iff]
      simp only [decide_eq_true_eq]
      exact ⟨toB_inj, fun h => by rw [h]⟩
  · refine (Try.slices_Equal_string_lens a1 a2 L.length k1 M.length k2 w hl).mono fun e w' h => ⟨?_, 0, h.2⟩
    have : L ≠ M := fun e => hl (by rw [e])
    rw [h.1]
    simp [this]

def WithinPost (a b : List UInt8) (w : World) (e : Ending) (w' : World) : Prop := e = .returned (.bool (withinN a b)) ∧ Keeps [] w w'

theorem withinN_no {a b : List UInt8} (h : splitN a = Option.none ∨ splitN b = Option.none) : withinN a b = false := by
  unfold withinN
  rcases h with h | h
  · rw [h]
  · cases ha : splitN a <;> rw [h]
theorem withinN_some {a b : List UInt8} {x y : List (List UInt8)} (h : splitN a = Option.some x) (k : splitN b = Option.some y) : withinN a b = (decide (y.length ≤ x.length) && decide (x.take y.length = y)) := by
  unfold withinN
  rw [h, k]
theorem keeps_drewN {w w1 : World} (h : Keeps [] w w1) {n : Nat} {w2 : World} (e : w2 = w1.drewN n) : Keeps [] w w2 := by rw [e]; exact h.drewN n

set_option maxHeartbeats 2000000 in
set_option maxRecDepth 100000 in
theorem within_any (s t : ByteArray) (w : World) (hs : s.size ≤ 140737488351232) (ht : t.size ≤ 140737488351232) :
    Calls Try.prog 33 #[.string s, .string t] w (WithinPost s.data.toList t.data.toList w) := by
  cases h1 : splitN s.data.toList with
  | none =>
    have hp := hid (withinN_no (b := t.data.toList) (Or.inl h1))
    have n1 := hid h1
    clear h1
    cases h2 : splitN t.data.toList with
    | none =>
      have n2 := hid h2
      clear h2
      go_enter Try.func33, Try.ntmps33
      go_wp2_with (go_at_call_of 53 (Value.string s); refine (split_any s _ hs).mono ?_)
      intro e w1 hq
      obtain ⟨rfl, hk⟩ := hq.none n1.out
      have K1 := hid hk
      clear hk hq
      go_wp2_with (go_at_call 53; refine (split_any t _ ht).mono ?_)
      intro e w2 hq
      obtain ⟨rfl, hk⟩ := hq.none n2.out
      have K2 := hid (K1.out.trans hk)
      clear hk hq
      go_wp2_with fail
      go_ret
      exact ⟨by rw [hp.out]; rfl, K2.out⟩
    | some y =>
      have n2 := hid h2
      clear h2
      go_enter Try.func33, Try.ntmps33
      go_wp2_with (go_at_call_of 53 (Value.string s); refine (split_any s _ hs).mono ?_)
      intro e w1 hq
      obtain ⟨rfl, hk⟩ := hq.none n1.out
      have K1 := hid hk
      clear hk hq
      go_wp2_with (go_at_call 53; refine (split_any t _ ht).mono ?_)
      intro e w2 hq
      obtain ⟨v, rfl, hv, hk⟩ := hq.some n2.out
      have K2 := hid (K1.out.trans hk)
      obtain ⟨a, c, rfl, hv'⟩ := id hv
      clear hk hq hv hv'
      go_wp2_with fail
      go_ret
      exact ⟨by rw [hp.out]; rfl, K2.out⟩
  | some x =>
    have x8 := (splitN_some h1).2.1
    have n1 := hid h1
    cases h2 : splitN t.data.toList with
    | none =>
      have hp := hid (withinN_no (a := s.data.toList) (Or.inr h2))
      have n2 := hid h2
      clear h1 h2
      go_enter Try.func33, Try.ntmps33
      go_wp2_with (go_at_call_of 53 (Value.string s); refine (split_any s _ hs).mono ?_)
      intro e w1 hq
      obtain ⟨v, rfl, hv, hk⟩ := hq.some n1.out
      have K1 := hid hk
      obtain ⟨a, c, rfl, hv'⟩ := id hv
      clear hk hq hv hv'
      go_wp2_with (go_at_call 53; refine (split_any t _ ht).mono ?_)
      intro e w2 hq
      obtain ⟨rfl, hk⟩ := hq.none n2.out
      have K2 := hid (K1.out.trans hk)
      clear hk hq
      go_wp2_with fail
      go_ret
      exact ⟨by rw [hp.out]; rfl, K2.out⟩
    | some y =>
      have y8 := (splitN_some h2).2.1
      have n2 := hid h2
      have hp := hid (withinN_some h1 h2)
      clear h1 h2
      go_enter Try.func33, Try.ntmps33
      go_wp2_with (go_at_call_of 53 (Value.string s); refine (split_any s _ hs).mono ?_)
      intro e w1 hq
      obtain ⟨v1, rfl, hv1, hk1⟩ := hq.some n1.out
      have K1 := hid hk1
      have V1 := hid hv1
      obtain ⟨a1, c1, rfl, hv', _⟩ := id hv1
      clear hk1 hq hv1
      go_wp2_with (go_at_call 53; refine (split_any t _ ht).mono ?_)
      intro e w2 hq
      obtain ⟨v2, rfl, hv2, hk2⟩ := hq.some n2.out
      have K2 := hid (K1.out.trans hk2)
      have V2 := hid hv2
      have V3 := hid (V1.out.keep hk2)
      obtain ⟨a2, c2, rfl, _, _⟩ := id hv2
      clear hk2 hq hv2
      by_cases hlt : x.length < y.length
      · go_wp2_with fail
        go_ret
        refine ⟨?_, K2.out⟩
        rw [hp.out, decide_eq_false (by omega)]
        rfl
      · have hle : y.length ≤ x.length := by omega
        have cut : ∀ W, (Instr.slice 58 (.slice a1 x.length c1) none (some (.int .i64 (y.length : Int))) none).run Try.prog W = .ok (.slice a1 y.length c1) W := fun W => run_strs_take W _ _ c1 y.length (by omega)
        have tk := hid (show SAt w2 (.slice a1 y.length c1) (x.take y.length) from V3.out.take _ hle)
        have HE := hid (equalS_any w2 _ _ _ _ tk.out V2.out)
        go_wp2_with (go_at_call 54; refine HE.out.mono ?_)
        rintro e w3 ⟨rfl, n, hd⟩
        have K3 := hid (keeps_drewN K2.out hd)
        clear hd
        go_wp2_with fail
        go_ret
        refine ⟨?_, K3.out⟩
        rw [hp.out, decide_eq_true hle]
        rfl

set_option maxHeartbeats 2000000 in
set_option maxRecDepth 100000 in
theorem rwithin_any (s t : ByteArray) (w : World) (hs : s.size ≤ 140737488351232) (ht : t.size ≤ 140737488351232) :
    Calls Try.prog 24 #[.string s, .string t] w (WithinPost s.data.toList t.data.toList w) := by
  cases h1 : splitN s.data.toList with
  | none =>
    have hp := hid (withinN_no (b := t.data.toList) (Or.inl h1))
    have n1 := hid h1
    clear h1
    cases h2 : splitN t.data.toList with
    | none =>
      have n2 := hid h2
      clear h2
      go_enter Try.func24, Try.ntmps24
      go_wp2_with (go_at_call_of 50 (Value.string s); refine (rsplit_any s _ hs).mono ?_)
      intro e w1 hq
      obtain ⟨rfl, hk⟩ := hq.none n1.out
      have K1 := hid hk
      clear hk hq
      go_wp2_with (go_at_call 50; refine (rsplit_any t _ ht).mono ?_)
      intro e w2 hq
      obtain ⟨rfl, hk⟩ := hq.none n2.out
      have K2 := hid (K1.out.trans hk)
      clear hk hq
      go_wp2_with fail
      go_ret
      exact ⟨by rw [hp.out]; rfl, K2.out⟩
    | some y =>
      have n2 := hid h2
      clear h2
      go_enter Try.func24, Try.ntmps24
      go_wp2_with (go_at_call_of 50 (Value.string s); refine (rsplit_any s _ hs).mono ?_)
      intro e w1 hq
      obtain ⟨rfl, hk⟩ := hq.none n1.out
      have K1 := hid hk
      clear hk hq
      go_wp2_with (go_at_call 50; refine (rsplit_any t _ ht).mono ?_)
      intro e w2 hq
      obtain ⟨v, rfl, hv, hk⟩ := hq.some n2.out
      have K2 := hid (K1.out.trans hk)
      obtain ⟨a, c, rfl, hv'⟩ := id hv
      clear hk hq hv hv'
      go_wp2_with fail
      go_ret
      exact ⟨by rw [hp.out]; rfl, K2.out⟩
  | some x =>
    have x8 := (splitN_some h1).2.1
    have n1 := hid h1
    cases h2 : splitN t.data.toList with
    | none =>
      have hp := hid (withinN_no (a := s.data.toList) (Or.inr h2))
      have n2 := hid h2
      clear h1 h2
      go_enter Try.func24, Try.ntmps24
      go_wp2_with (go_at_call_of 50 (Value.string s); refine (rsplit_any s _ hs).mono ?_)
      intro e w1 hq
      obtain ⟨v, rfl, hv, hk⟩ := hq.some n1.out
      have K1 := hid hk
      obtain ⟨a, c, rfl, hv'⟩ := id hv
      clear hk hq hv hv'
      go_wp2_with (go_at_call 50; refine (rsplit_any t _ ht).mono ?_)
      intro e w2 hq
      obtain ⟨rfl, hk⟩ := hq.none n2.out
      have K2 := hid (K1.out.trans hk)
      clear hk hq
      go_wp2_with fail
      go_ret
      exact ⟨by rw [hp.out]; rfl, K2.out⟩
    | some y =>
      have y8 := (splitN_some h2).2.1
      have n2 := hid h2
      have hp := hid (withinN_some h1 h2)
      clear h1 h2
      go_enter Try.func24, Try.ntmps24
      go_wp2_with (go_at_call_of 50 (Value.string s); refine (rsplit_any s _ hs).mono ?_)
      intro e w1 hq
      obtain ⟨v1, rfl, hv1, hk1⟩ := hq.some n1.out
      have K1 := hid hk1
      have V1 := hid hv1
      obtain ⟨a1, c1, rfl, hv', _⟩ := id hv1
      clear hk1 hq hv1
      go_wp2_with (go_at_call 50; refine (rsplit_any t _ ht).mono ?_)
      intro e w2 hq
      obtain ⟨v2, rfl, hv2, hk2⟩ := hq.some n2.out
      have K2 := hid (K1.out.trans hk2)
      have V2 := hid hv2
      have V3 := hid (V1.out.keep hk2)
      obtain ⟨a2, c2, rfl, _, _⟩ := id hv2
      clear hk2 hq hv2
      by_cases hlt : x.length < y.length
      · go_wp2_with fail
        go_ret
        refine ⟨?_, K2.out⟩
        rw [hp.out, decide_eq_false (by omega)]
        rfl
      · have hle : y.length ≤ x.length := by omega
        by_cases h0 : y.length = 0
        · obtain rfl : y = [] := List.eq_nil_of_length_eq_zero h0
          simp only [List.length_nil] at hlt hle y8
          have HP2 := hid (show withinN s.data.toList t.data.toList = true by rw [hp.out]; simp)
          clear h0
          simp only [List.length_nil]
          go_wp2_with fail
          refine wp_loop_rounds 1 ?_
          rw [rounds_succ]
          go_wp2_with fail
          go_ret
          exact ⟨by rw [HP2.out]; rfl, K2.out⟩
        · obtain ⟨g1, o1, k1, e1, _, hc1⟩ := V3.out.open (by omega)
          obtain ⟨g2, o2, k2, e2, _, hc2⟩ := V2.out.open (by omega)
          injection e1 with e1 _ _
          injection e2 with e2 _ _
          subst e1; subst e2
          have HC1 := hid hc1
          have HC2 := hid hc2
          clear hc1 hc2
          go_wp2_with fail
          go_loopw [9] (fun i wr => ∃ k n : Nat, k ≤ y.length ∧ i = .int .i64 k ∧ wr = w2.drewN n ∧ Hid (x.take k = y.take k)) (fun i _ => y.length - (intOf i).toNat)
          case atStart => exact ⟨0, 0, Nat.zero_le _, rfl, rfl, rfl⟩
          case round =>
            obtain ⟨k, n, hk, rfl, rfl, HT⟩ := hrel
            by_cases hky : k < y.length
            · have hkx : k < x.length := by omega
              have d1 := HC1.out k hkx
              have d2 := HC2.out k hky
              have HE := hid (show x[k] = y[k] ↔ x.take (k + 1) = y.take (k + 1) by
                rw [take_snocS x k hkx, take_snocS y k hky, HT.out]
                exact ⟨fun h => by rw [h], fun h => List.singleton_inj.1 (List.append_cancel_left h)⟩)
              obtain ⟨s1, e1, f1⟩ := bstr_of x[k]
              obtain ⟨s2, e2, f2⟩ := bstr_of y[k]
              rw [e1] at d1
              rw [e2] at d2
              rw [← f1, ← f2, ← Lib.toList_data, ← Lib.toList_data] at HE
              clear e1 e2 f1 f2
              by_cases hb : s1.toList = s2.toList
              · have hb' : (s1.toList == s2.toList) = true := by simpa using hb
                have HB := hid hb
                clear hb
                go_wp2_with fail
                go_quiet (fail)
                go_wp2_with fail
                go_roundw
                case rel => exact ⟨k + 1, n + nq, by omega, by go_num, rfl, HE.out.1 HB.out⟩
                case measure => simp [intOf]; omega
              · have hb' : (s1.toList == s2.toList) = false := by simpa using hb
                have HB := hid hb
                clear hb
                go_wp2_with fail
                go_quiet (fail)
                go_wp2_with fail
                go_ret
                refine ⟨?_, (K2.out.drewN _).drewN _⟩
                have hxy : x.take y.length ≠ y := fun e => HB.out (HE.out.2 (by
                  have h2 := congrArg (List.take (k + 1)) e
                  rwa [List.take_take, Nat.min_eq_left (by omega)] at h2))
                rw [hp.out, decide_eq_false hxy, Bool.and_false]
                rfl
            · have hke : k = y.length := by omega
              subst hke
              go_wp2_with fail
              go_ret
              refine ⟨?_, K2.out.drewN _⟩
              have hxy := HT.out
              rw [List.take_length] at hxy
              rw [hp.out, decide_eq_true hle, decide_eq_true hxy]
              rfl
end Go.Proofs.Ytnmiffkflnlanaa
