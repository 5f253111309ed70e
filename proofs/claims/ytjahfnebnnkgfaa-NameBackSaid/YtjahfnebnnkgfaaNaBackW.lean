/- The walk of the law NameBack. -/
import Derived.Test.YtjahfnebnnkgfaaNaPathsW
import Derived.Test.YtjahfnebnnkgfaaNaKnownW
namespace Go.Proofs.Ytjahfnebnnkgfaa
open Go.RowKit

theorem rmay_bytes (b : List UInt8) (w : World) (h : b.length ≤ maxLen) : Calls Try.prog 15 #[bstr b] w fun e w' => e = .returned (.bool (mayN b)) ∧ w' = w := by
  have := rmay_any ⟨b.toArray⟩ w (by
    rw [← size_list]
    simpa using h)
  rw [show (⟨b.toArray⟩ : ByteArray).data.toList = b by simp] at this
  exact this

/-- What the law says of names that may be. -/
structure BackL (L : List (List UInt8)) : Prop where
  short : (⟨(joinN L).toArray⟩ : ByteArray).size ≤ 1000
  split : splitN (joinN L) = some L
  self : withinN (joinN L) (joinN L) = true
  root : withinN (joinN L) [47] = true
  jr : (joinR L).length ≤ 104
theorem joinN_le {L : List (List UInt8)} (h : (joinR L).length ≤ 104) : (joinN L).length ≤ 104 := by
  unfold joinN
  split
  · simp
  · exact h
theorem backL {L : List (List UInt8)} (h : ∀ x ∈ L, mayN x = true) (h8 : L.length ≤ 8) : BackL L := by
  have hj := join_short h h8
  have hs := split_join h h8
  refine ⟨?_, hs, ?_, ?_, hj⟩
  · rw [← size_list]
    have := joinN_le hj
    simp; omega
  · rw [withinN_refl, hs]; rfl
  · rw [withinN_some hs splitN_root]; simp
theorem backP {L : List (List UInt8)} (h : ∀ x ∈ L, mayN x = true) (h8 : L.length ≤ 8) (h0 : L ≠ []) :
    parentN (joinN L) = (joinN L.dropLast, L.getLastD [], 0) ∧ withinN (joinN L) (joinN L.dropLast) = true ∧ withinN (joinN L.dropLast) (joinN L) = false ∧ (joinN L.dropLast).length ≤ 104 := by
  have hs := split_join h h8
  have hd : ∀ x ∈ L.dropLast, mayN x = true := fun x hx => h x (List.dropLast_subset _ hx)
  have hl : L.dropLast.length = L.length - 1 := List.length_dropLast
  have h1 : 1 ≤ L.length := List.length_pos_iff.2 h0
  have hp := split_join hd (by omega)
  refine ⟨parentN_some hs h0, ?_, ?_, joinN_le (join_short hd (by omega))⟩
  · rw [withinN_some hs hp, hl]
    simp [List.dropLast_eq_take]
  · rw [withinN_some hp hs, decide_eq_false (by omega)]
    rfl

theorem join_calls (w : World) (v : Value) (L : List (List UInt8)) (hx : SAt w v L) (ht : (joinR L).length ≤ 104) :
    Calls Try.prog 18 #[v] w fun e w' => e = .returned (.string ⟨(joinN L).toArray⟩) ∧ Keeps [] w w' := join_any w v L hx (by omega)

set_option maxHeartbeats 8000000 in
set_option maxRecDepth 100000 in
theorem k9Back_any (w : World) (v : Value) (L : List (List UInt8)) (hx : SAt w v L) (hlen : ∀ x ∈ L, x.length ≤ maxLen) : Calls Try.prog 5 #[v] w fun e w' => e = .returned (.bool true) ∧ Keeps [] w w' := by
  obtain ⟨a, c, rfl, z1, z2, z3⟩ := id hx
  unfold maxLen at z2
  have hl : L.length ≤ 9223372036854775807 := by omega
  clear z1 z2 z3
  have HX := hid hx
  have HLN := hid hlen
  clear hx hlen
  by_cases h8 : L.length ≤ 8
  · by_cases h0 : L.length = 0
    · have e0 : L = [] := List.eq_nil_of_length_eq_zero h0
      subst e0
      clear h0 h8 hl HLN
      have B := hid (backL (L := []) (by simp) (by simp))
      simp only [List.length_nil] at HX ⊢
      have HJ := hid (fun W k => join_calls W (.slice a 0 c) [] (HX.out.keep k) (by simp [joinR]))
      have AS := hid (fun W => split_any ⟨#[47]⟩ W (by decide))
      have W1 := hid (fun W => within_any ⟨#[47]⟩ ⟨#[47]⟩ W (by decide) (by decide))
      unfold WithinPost at W1
      have e1 : withinN (⟨#[47]⟩ : ByteArray).data.toList (⟨#[47]⟩ : ByteArray).data.toList = true := by decide
      rw [e1] at W1
      clear e1
      go_enter Try.func5, Try.ntmps5
      go_wp2_with (go_at_call 8; refine (awake9_any w).mono ?_; rintro e w1 ⟨rfl, k1⟩)
      have K1 := hid k1
      clear k1
      refine wp_loop_rounds 1 ?_
      rw [rounds_succ]
      go_wp2_with (go_at_call 18; refine (HJ.out _ K1.out).mono ?_)
      rintro e w2 ⟨rfl, k2⟩
      have K2 := hid (K1.out.trans k2)
      clear k2
      rw [show (⟨(joinN []).toArray⟩ : ByteArray) = ⟨#[47]⟩ from rfl]
      go_wp2_with (go_at_call 9; refine (AS.out _).mono ?_)
      intro e w3 q
      obtain ⟨a1, c1, rfl, v1, k3⟩ := q.any
      have V1 := hid v1
      have K3 := hid (K2.out.trans k3)
      clear k3 q v1
      rw [show splL (⟨#[47]⟩ : ByteArray).data.toList = [] from rfl] at V1 ⊢
      rw [show splE (⟨#[47]⟩ : ByteArray).data.toList = 0 from rfl]
      simp only [List.length_nil] at V1 ⊢
      have HT := hid (texts_same w3 _ _ [] (HX.out.keep K3.out) V1.out)
      go_wp2_with (go_at_call 16; refine HT.out.mono ?_)
      rintro e w4 ⟨rfl, n, hw⟩
      have K4 := hid (keeps_drewN K3.out hw)
      clear hw
      go_wp2_with (go_at_call 11; refine (W1.out _).mono ?_)
      rintro e w5 ⟨rfl, k5⟩
      have K5 := hid (K4.out.trans k5)
      clear k5
      go_wp2_with (go_at_call 11; refine (W1.out _).mono ?_)
      rintro e w6 ⟨rfl, k6⟩
      have K6 := hid (K5.out.trans k6)
      clear k6
      go_wp2_with fail
      go_ret
      exact ⟨rfl, K6.out⟩
    · obtain ⟨g1, o1, c1, e1, hlc, hc1⟩ := HX.out.open (by omega)
      injection e1 with e1 _ e2
      subst e1; subst e2
      have HC1 := hid hc1
      clear hc1
      have b1 : (1 : Int) ≤ L.length := by omega
      have b4 : (L.length : Int) ≤ 8 := by omega
      go_enter Try.func5, Try.ntmps5
      go_wp2_with (go_at_call 8; refine (awake9_any w).mono ?_; rintro e w1 ⟨rfl, k1⟩)
      have K1 := hid k1
      clear k1
      go_loop [3] (fun i => ∃ k : Nat, k ≤ L.length ∧ i = .int .i64 k ∧ Hid (∀ x ∈ L.take k, mayN x = true)) (fun i => L.length - (intOf i).toNat)
      case atStart => exact ⟨0, Nat.zero_le _, rfl, by simp [Hid]⟩
      case round =>
        obtain ⟨k, hk, rfl, HA⟩ := hrel
        by_cases hlt : k < L.length
        · have d1 : w1.cell? ⟨g1, o1 + k, none⟩ = some (bstr L[k]) := K1.out.toCell (HC1.out k hlt)
          have HM := hid (rmay_bytes L[k] w1 (HLN.out _ (List.getElem_mem hlt)))
          have HE := hid (show mayN L[k] = true → ∀ x ∈ L.take (k + 1), mayN x = true from fun h x hx => by
            rw [take_snocS L k hlt] at hx
            rcases List.mem_append.1 hx with hx | hx
            · exact HA.out x hx
            · simp at hx; subst hx; exact h)
          obtain ⟨s1, e1, f1⟩ := bstr_of L[k]
          rw [e1] at d1 HM
          clear e1 f1
          cases hm : mayN L[k] with
          | true =>
            rw [hm] at HM HE
            clear hm
            go_wp2_with (go_at_call 15; refine HM.out.mono ?_; rintro e w' ⟨rfl, rfl⟩)
            go_round
            case rel => exact ⟨k + 1, by omega, by go_num, HE.out trivial⟩
            case measure => simp [intOf]; omega
          | false =>
            rw [hm] at HM
            clear hm HE
            go_wp2_with (go_at_call 15; refine HM.out.mono ?_; rintro e w' ⟨rfl, rfl⟩)
            go_ret
            exact ⟨rfl, K1.out⟩
        · have hk' : k = L.length := by omega
          subst hk'
          rw [List.take_length] at HA
          have h0 : L ≠ [] := fun e => by rw [e] at b1; simp at b1
          obtain ⟨p1, p2, p3, p4⟩ := backP HA.out h8 h0
          obtain ⟨q1, q2, q3, q4, q5⟩ := backL HA.out h8
          obtain ⟨S, hS⟩ : ∃ S : ByteArray, S = ⟨(joinN L).toArray⟩ := ⟨_, rfl⟩
          obtain ⟨P, hP⟩ : ∃ P : ByteArray, P = ⟨(joinN L.dropLast).toArray⟩ := ⟨_, rfl⟩
          have dS : S.data.toList = joinN L := by rw [hS]
          have dP : P.data.toList = joinN L.dropLast := by rw [hP]
          have zS : S.size ≤ 140737488351232 := by rw [hS]; omega
          have zP : P.size ≤ 140737488351232 := by rw [← size_list, dP]; omega
          obtain ⟨t, ht, ft⟩ := bstr_of (L[L.length - 1]'(by omega))
          have lt : L.getLastD [] = L[L.length - 1]'(by omega) := by
            rw [List.getLastD_eq_getLast?, List.getLast?_eq_getElem?, List.getElem?_eq_getElem (by omega)]; rfl
          have d1 : w1.cell? ⟨g1, o1 + (L.length - 1), none⟩ = some (.string t) := by rw [← ht]; exact K1.out.toCell (HC1.out (L.length - 1) (by omega))
          have tt : (⟨(L.getLastD []).toArray⟩ : ByteArray) = t := by rw [lt, ← ft, bytes_list]
          have CJ := hid (fun W k => join_calls W _ L (HX.out.keep k) q5)
          have SP := hid (fun W => split_yes S L (by rw [dS]; exact q2) W zS)
          have WS := hid (fun W => within_is S S true (by rw [dS]; exact q3) W zS zS)
          have WR := hid (fun W => within_is S ⟨#[47]⟩ true (by rw [dS]; exact q4) W zS (by decide))
          have PA := hid (fun W => parent_is S (joinN L.dropLast) (L.getLastD []) 0 (by rw [dS]; exact p1) W zS)
          have WP := hid (fun W => within_is S P true (by rw [dS, dP]; exact p2) W zS zP)
          have PS := hid (fun W => within_is P S false (by rw [dS, dP]; exact p3) W zP zS)
          have CP := hid (fun W k => join_calls W (.slice (some ⟨g1, o1, none⟩) (L.length - 1) c) (L.take (L.length - 1)) ((HX.out.keep k).take (L.length - 1) (by omega)) (by have := joinR_le L (L.length - 1); omega))
          rw [← List.dropLast_eq_take, ← hP] at CP
          rw [← hS] at CJ
          rw [← hP, tt] at PA
          have cut : ∀ W, (Instr.slice 23 (.slice (some ⟨g1, o1, none⟩) L.length c) none (some (.int .i64 ((L.length : Int) - 1))) none).run Try.prog W = .ok (.slice (some ⟨g1, o1, none⟩) (L.length - 1) c) W := fun W => by
            rw [show ((L.length : Int) - 1) = ((L.length - 1 : Nat) : Int) by omega]
            exact run_strs_take W _ L.length c (L.length - 1) (by omega)
          have b2 : (0 : Int) ≤ (L.length : Int) - 1 := by omega
          have b3 : (L.length : Int) - 1 < L.length := by omega
          have D1 := hid d1
          clear h0 p1 p2 p3 p4 q1 q2 q3 q4 q5 hS hP dS dP zS zP ht ft lt tt d1 HA HLN hk hlt h8 hl
          go_wp2_with (go_at_call 18; refine (CJ.out _ K1.out).mono ?_)
          intro e w2 hq k2
          subst hq
          have K2 := hid (K1.out.trans k2)
          have D2 := hid (k2.toCell D1.out)
          clear k2
          go_wp2_with (go_at_call 9; refine (SP.out _).mono ?_)
          rintro e w3 ⟨a3, c3, rfl, v3, k3⟩
          have K3 := hid (K2.out.trans k3)
          have D3 := hid (k3.toCell D2.out)
          have HT := hid (texts_same w3 _ _ L (HX.out.keep K3.out) v3)
          clear k3 v3
          go_wp2_with (go_at_call 16; refine HT.out.mono ?_)
          rintro e w4 ⟨rfl, n4, hw⟩
          have K4 := hid (keeps_drewN K3.out hw)
          have D4 := hid ((keeps_drewN (Keeps.refl [] w3) hw).toCell D3.out)
          clear hw
          go_wp2_with (go_at_call 11; refine (WS.out _).mono ?_)
          rintro e w5 ⟨rfl, k5⟩
          have K5 := hid (K4.out.trans k5)
          have D5 := hid (k5.toCell D4.out)
          clear k5
          go_wp2_with (go_at_call 11; refine (WR.out _).mono ?_)
          rintro e w6 ⟨rfl, k6⟩
          have K6 := hid (K5.out.trans k6)
          have D6 := hid (k6.toCell D5.out)
          clear k6
          go_wp2_with (go_at_call 10; refine (PA.out _).mono ?_)
          rintro e w7 ⟨rfl, k7⟩
          have K7 := hid (K6.out.trans k7)
          have d7 := k7.toCell D6.out
          clear k7
          go_wp2_with (go_at_call 18; refine (CP.out _ K7.out).mono ?_)
          rintro e w8 ⟨rfl, k8⟩
          have K8 := hid (K7.out.trans k8)
          clear k8
          go_wp2_with (go_at_call 11; refine (WP.out _).mono ?_)
          rintro e w9 ⟨rfl, k9⟩
          have K9 := hid (K8.out.trans k9)
          clear k9
          go_wp2_with (go_at_call 11; refine (PS.out _).mono ?_)
          rintro e wx ⟨rfl, kx⟩
          have KX := hid (K9.out.trans kx)
          clear kx
          go_wp2_with fail
          go_ret
          exact ⟨rfl, KX.out⟩
  · have b1 : (8 : Int) < L.length := by omega
    go_enter Try.func5, Try.ntmps5
    go_wp2_with (go_at_call 8; refine (awake9_any w).mono ?_; rintro e w1 ⟨rfl, k1⟩)
    go_ret
    exact ⟨rfl, k1⟩
end Go.Proofs.Ytjahfnebnnkgfaa
