/- The walk of the law NameCounts. -/
import Derived.Test.YtjahfnebnnkgfaaNaM
import Derived.Test.YtjahfnebnnkgfaaNaKnownW
import Derived.Test.YtjahfnebnnkgfaaNaPathsW
namespace Go.Proofs.Ytjahfnebnnkgfaa
open Go.RowKit

theorem rep_snoc (t : ByteArray) (j : Nat) (h : t.data.toList = List.replicate j 110) : (t ++ ⟨#[110]⟩ : ByteArray).data.toList = List.replicate (j + 1) 110 := by
  simp [ByteArray.data_append, h, List.replicate_succ']

set_option maxHeartbeats 8000000 in
set_option maxRecDepth 100000 in
theorem k9Counts_any (w : World) (d z : Int) (hd : 0 ≤ d ∧ d ≤ 255) (hz : 0 ≤ z ∧ z ≤ 255) : Calls Try.prog 7 #[.int .u8 d, .int .u8 z] w fun e w' => e = .returned (.bool true) ∧ Keeps [] w w' := by
  obtain ⟨i0, hi, hz0, hz1, hz2⟩ := info_parts infoStr
  obtain ⟨hd0, hd1⟩ := hd
  obtain ⟨hq0, hq1⟩ := hz
  obtain ⟨n, hn⟩ : ∃ n : Nat, d % 12 = n := ⟨(d % 12).toNat, by omega⟩
  have hn11 : (n : Int) ≤ 11 := by omega
  go_enter Try.func7, Try.ntmps7
  go_wp2_with (go_at_call 8; refine (awake9_any w).mono ?_; rintro e w1 ⟨rfl, k1⟩)
  have K1 := hid k1
  clear k1
  rw [hn]
  clear hn
  go_loopg [6, 7, 8] n (fun g s6 s7 s8 wx => ∃ (i : Nat) (b : Bool), i + g = n ∧ s8 = .int .i64 i ∧ s7 = .bool b ∧ Hid (b = true ↔ ∃ j, j < i ∧ 12 < 1 + ((z + j) % 14).toNat) ∧ Hid (wx.ownsRow w.heap.size 9 1 s6 (nms z i).length ((nms z i).map bstr)) ∧ Hid (Keeps [] w wx))
  case atStart => exact ⟨0, false, by omega, rfl, rfl, by simp [Hid], World.ownsRow_nil _ _ _ _, K1.out⟩
  case round =>
    obtain ⟨i, b, hig, rfl, rfl, HB, hown, hkp⟩ := hrel
    rw [nms_length] at hown
    obtain ⟨a6, c6, rfl⟩ := ownsRow_slice hown.out
    by_cases hlt : i < n
    · have hlt' : (i : Int) < n := by omega
      obtain ⟨m, hm⟩ : ∃ m : Nat, (z + i) % 14 = m := ⟨((z + i) % 14).toNat, by omega⟩
      have hm13 : (m : Int) ≤ 13 := by omega
      have HM := hid hm
      go_wp2_with fail
      rw [hm]
      clear hm
      go_loopg [10, 11] (m + 1) (fun g s10 s11 wx => ∃ (j : Nat) (t : ByteArray), j + g = m + 1 ∧ s11 = .int .i64 j ∧ s10 = .string t ∧ wx = wr ∧ Hid (t.data.toList = List.replicate j 110))
      case atStart => exact ⟨0, ⟨#[]⟩, by omega, rfl, rfl, rfl, rfl⟩
      case round =>
        obtain ⟨j, t, hjg, rfl, rfl, rfl, ht⟩ := hrel
        have htz : t.size = j := by rw [← size_list, ht.out, List.length_replicate]
        have HTZ := hid htz
        have htb : t.size ≤ 14 := by omega
        by_cases hj : j < m + 1
        · have hj' : (j : Int) < 1 + m := by omega
          clear htz
          go_wp2_with fail
          go_roundg (m - j)
          case measure => omega
          case rel => exact ⟨j + 1, _, by omega, by go_num, rfl, rfl, rep_snoc t j ht.out⟩
        · have hj' : j = m + 1 := by omega
          have HJ := hid hj'
          have hnj : (1 : Int) + m ≤ j := by omega
          have eN := hid (show bstr (nm z i) = .string t by
            rw [← bstr_data, ht.out, HJ.out, nm, HM.out]
            simp [Nat.add_comm])
          clear htz hj' ht
          cases b with
          | true =>
            go_wp2_with (at_builtin; refine wpList_append_own _ rfl _ _ 23 rfl w.heap.size 9 i0 (.string ⟨#[]⟩) 1 16 Try.underlying23 hi hz0 hz1 hz2 rfl (by decide) _ _ _ rfl (hown.out.alloc _) ⟨_, 0, none⟩ 1 1 [.string t] rfl rfl ?c1 ?c2 ?c3 ?c4 ?c5 ?_)
            case c2 => first | rfl | (intro u hu; simp at hu; subst hu; rfl)
            case c3 => unfold maxLen; omega
            case c4 => omega
            case c5 => have := hkp.out.size; first | omega | (simp; omega)
            intro v' w2 hown' hg _
            have HO2 := hid (show w2.ownsRow w.heap.size 9 1 v' (nms z (i + 1)).length ((nms z (i + 1)).map bstr) by
              rw [nms_length, nms_succ, List.map_append, List.map_singleton, eN.out]
              exact hown')
            have HK2 := hid (keeps_own (hkp.out.alloc _) (hown.out.alloc _) (Nat.le_refl _) hg)
            clear hown' hg
            obtain ⟨av, cv, rfl⟩ := ownsRow_slice HO2.out
            go_wp2_with fail
            go_roundg (n - (i + 1))
            case measure => omega
            case rel => exact ⟨i + 1, true, by omega, by go_num, by first | rfl | (congr 1; simp; omega), by
                have := HB.out.1 (by trivial)
                obtain ⟨x, h1, h2⟩ := this
                exact ⟨fun _ => ⟨x, by omega, h2⟩, fun _ => rfl⟩, HO2, HK2⟩
          | false =>
            have HF := hid (show ¬ ∃ j, j < i ∧ 12 < 1 + ((z + j) % 14).toNat from fun h => (by have := HB.out.2 h; cases this))
            by_cases h12 : (12 : Int) < 1 + m
            · have HP := hid (show ∃ j, j < i + 1 ∧ 12 < 1 + ((z + j) % 14).toNat from ⟨i, by omega, by rw [HM.out]; omega⟩)
              go_wp2_with (at_builtin; refine wpList_append_own _ rfl _ _ 23 rfl w.heap.size 9 i0 (.string ⟨#[]⟩) 1 16 Try.underlying23 hi hz0 hz1 hz2 rfl (by decide) _ _ _ rfl (hown.out.alloc _) ⟨_, 0, none⟩ 1 1 [.string t] rfl rfl ?c1 ?c2 ?c3 ?c4 ?c5 ?_)
              case c2 => first | rfl | (intro u hu; simp at hu; subst hu; rfl)
              case c3 => unfold maxLen; omega
              case c4 => omega
              case c5 => have := hkp.out.size; first | omega | (simp; omega)
              intro v' w2 hown' hg _
              have HO2 := hid (show w2.ownsRow w.heap.size 9 1 v' (nms z (i + 1)).length ((nms z (i + 1)).map bstr) by
                rw [nms_length, nms_succ, List.map_append, List.map_singleton, eN.out]
                exact hown')
              have HK2 := hid (keeps_own (hkp.out.alloc _) (hown.out.alloc _) (Nat.le_refl _) hg)
              clear hown' hg
              obtain ⟨av, cv, rfl⟩ := ownsRow_slice HO2.out
              go_wp2_with fail
              go_roundg (n - (i + 1))
              case measure => omega
              case rel => exact ⟨i + 1, true, by omega, by go_num, by first | rfl | (congr 1; simp; omega), ⟨fun _ => HP.out, fun _ => rfl⟩, HO2, HK2⟩
            · have h12' : 1 + (m : Int) ≤ 12 := by omega
              have HP := hid (show ¬ ∃ j, j < i + 1 ∧ 12 < 1 + ((z + j) % 14).toNat from fun ⟨x, hx1, hx2⟩ => by
                by_cases hxi : x = i
                · subst hxi; rw [HM.out] at hx2; omega
                · exact HF.out ⟨x, by omega, hx2⟩)
              clear h12
              go_wp2_with (at_builtin; refine wpList_append_own _ rfl _ _ 23 rfl w.heap.size 9 i0 (.string ⟨#[]⟩) 1 16 Try.underlying23 hi hz0 hz1 hz2 rfl (by decide) _ _ _ rfl (hown.out.alloc _) ⟨_, 0, none⟩ 1 1 [.string t] rfl rfl ?c1 ?c2 ?c3 ?c4 ?c5 ?_)
              case c2 => first | rfl | (intro u hu; simp at hu; subst hu; rfl)
              case c3 => unfold maxLen; omega
              case c4 => omega
              case c5 => have := hkp.out.size; first | omega | (simp; omega)
              intro v' w2 hown' hg _
              have HO2 := hid (show w2.ownsRow w.heap.size 9 1 v' (nms z (i + 1)).length ((nms z (i + 1)).map bstr) by
                rw [nms_length, nms_succ, List.map_append, List.map_singleton, eN.out]
                exact hown')
              have HK2 := hid (keeps_own (hkp.out.alloc _) (hown.out.alloc _) (Nat.le_refl _) hg)
              clear hown' hg
              obtain ⟨av, cv, rfl⟩ := ownsRow_slice HO2.out
              go_wp2_with fail
              go_roundg (n - (i + 1))
              case measure => omega
              case rel => exact ⟨i + 1, false, by omega, by go_num, by first | rfl | (congr 1; simp; omega), ⟨fun h => (by cases h), fun h => absurd h HP.out⟩, HO2, HK2⟩
    · have hin : i = n := by omega
      subst hin
      have HJL := hid (joinR_len (nms z i) 14 (nms_len z i))
      rw [nms_length] at HJL
      have hv := SAt.of_own (L := nms z i) (by rw [nms_length]; exact hown.out)
      have CJ := hid (join_any wr _ _ hv (by have := HJL.out; omega))
      unfold JoinPost at CJ
      have HSP := hid (nms_split z i)
      have HMY := hid (nms_may z i)
      obtain ⟨S, hS⟩ : ∃ S : ByteArray, bstr (joinN (nms z i)) = .string S ∧ S.data.toList = joinN (nms z i) := bstr_of _
      have dS := hS.2
      have zS : S.size ≤ 1000 := by
        rw [← size_list, dS]
        have := HJL.out
        unfold joinN
        split
        · simp
        · omega
      rw [hS.1] at CJ
      have d1 : (S ++ ⟨#[47]⟩ : ByteArray).data.toList = joinN (nms z i) ++ [47] := by simp [ByteArray.data_append, dS]
      have d2 : ((⟨#[120]⟩ : ByteArray) ++ S).data.toList = 120 :: joinN (nms z i) := by simp [ByteArray.data_append, dS]
      have y1 : (S ++ ⟨#[47]⟩ : ByteArray).size ≤ 140737488351232 := by rw [ByteArray.size_append]; show S.size + 1 ≤ _; omega
      have y2 : ((⟨#[120]⟩ : ByteArray) ++ S).size ≤ 140737488351232 := by rw [ByteArray.size_append]; show 1 + S.size ≤ _; omega
      have SX := hid (fun W => split_no ((⟨#[120]⟩ : ByteArray) ++ S) (by rw [d2]; exact split_x _) W y2)
      have SA := hid (fun W => split_any (S ++ ⟨#[47]⟩ : ByteArray) W y1)
      have SZ := hid (fun (h : i ≠ 0) W => split_no (S ++ ⟨#[47]⟩ : ByteArray) (by rw [d1]; exact nms_slash z i h) W y1)
      have SN := hid (fun (h : splitN (joinN (nms z i)) = none) W => split_no S (by rw [dS]; exact h) W (by omega))
      have SY := hid (fun (h : splitN (joinN (nms z i)) = some (nms z i)) W => split_yes S _ (by rw [dS]; exact h) W (by omega))
      clear hv hS dS d1 d2 y1 y2
      cases b with
      | true =>
        have SN' := hid (SN.out (by rw [HSP.out, if_neg (fun g => HMY.out.1 g.1 (HB.out.1 (by trivial)))]))
        go_wp2_with (go_at_call 18; refine CJ.out.mono ?_; rintro e w2 ⟨rfl, k2⟩)
        have K2 := hid (hkp.out.trans k2)
        clear k2
        go_wp2_with (go_at_call 9; refine (SN'.out _).mono ?_)
        rintro e w3 ⟨rfl, k3⟩
        have K3 := hid (K2.out.trans k3)
        clear k3
        go_wp2_with fail
        go_ret
        exact ⟨rfl, K3.out⟩
      | false =>
        have HMA := hid (HMY.out.2 (fun h => (by have := HB.out.2 h; cases this)))
        by_cases h8 : i ≤ 8
        · have h8' : (i : Int) ≤ 8 := by omega
          have SY' := hid (SY.out (by rw [HSP.out, if_pos ⟨HMA.out, h8⟩]))
          by_cases h0 : i = 0
          · have h0' : ((i : Int) == 0) = true := by simp [h0]
            have H0 := hid h0
            clear h0
            go_wp2_with (go_at_call 18; refine CJ.out.mono ?_; rintro e w2 ⟨rfl, k2⟩)
            have K2 := hid (hkp.out.trans k2)
            clear k2
            go_wp2_with (go_at_call 9; refine (SY'.out _).mono ?_)
            rintro e w3 ⟨a3, c3, rfl, _, k3⟩
            have K3 := hid (K2.out.trans k3)
            clear k3
            rw [nms_length]
            go_wp2_with (go_at_call 9; refine (SA.out _).mono ?_)
            intro e w4 q
            obtain ⟨a4, c4, rfl, _, k4⟩ := q.any
            have K4 := hid (K3.out.trans k4)
            clear k4 q
            go_wp2_with (go_at_call 9; refine (SX.out _).mono ?_)
            rintro e w5 ⟨rfl, k5⟩
            have K5 := hid (K4.out.trans k5)
            clear k5
            go_wp2_with fail
            go_ret
            exact ⟨rfl, K5.out⟩
          · have h0' : ((i : Int) == 0) = false := by simpa using h0
            have SZ' := hid (SZ.out h0)
            clear h0
            go_wp2_with (go_at_call 18; refine CJ.out.mono ?_; rintro e w2 ⟨rfl, k2⟩)
            have K2 := hid (hkp.out.trans k2)
            clear k2
            go_wp2_with (go_at_call 9; refine (SY'.out _).mono ?_)
            rintro e w3 ⟨a3, c3, rfl, _, k3⟩
            have K3 := hid (K2.out.trans k3)
            clear k3
            rw [nms_length]
            go_wp2_with (go_at_call 9; refine (SZ'.out _).mono ?_)
            rintro e w4 ⟨rfl, k4⟩
            have K4 := hid (K3.out.trans k4)
            clear k4
            go_wp2_with (go_at_call 9; refine (SX.out _).mono ?_)
            rintro e w5 ⟨rfl, k5⟩
            have K5 := hid (K4.out.trans k5)
            clear k5
            go_wp2_with fail
            go_ret
            exact ⟨rfl, K5.out⟩
        · have h8' : (8 : Int) < i := by omega
          have SN' := hid (SN.out (by rw [HSP.out, if_neg (fun g => h8 g.2)]))
          go_wp2_with (go_at_call 18; refine CJ.out.mono ?_; rintro e w2 ⟨rfl, k2⟩)
          have K2 := hid (hkp.out.trans k2)
          clear k2
          go_wp2_with (go_at_call 9; refine (SN'.out _).mono ?_)
          rintro e w3 ⟨rfl, k3⟩
          have K3 := hid (K2.out.trans k3)
          clear k3
          go_wp2_with fail
          go_ret
          exact ⟨rfl, K3.out⟩
end Go.Proofs.Ytjahfnebnnkgfaa
