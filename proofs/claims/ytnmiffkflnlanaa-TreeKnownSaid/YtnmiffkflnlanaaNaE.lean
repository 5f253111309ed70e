/- name: the reference's Split. -/
import Derived.Test.YtnmiffkflnlanaaNaD
namespace Go.Proofs.Ytnmiffkflnlanaa
open Go.RowKit

set_option maxHeartbeats 4000000 in
set_option maxRecDepth 100000 in
theorem rsplit_any (s : ByteArray) (w : World) (hs : s.size ≤ 140737488351232) :
    Calls Try.prog 50 #[.string s] w (SplitPost s.data.toList w) := by
  obtain ⟨i0, hi, hz0, hz1, hz2⟩ := info_parts infoStr
  have HL := hid (size_list s)
  by_cases hr : s.toList = [47]
  · have hp := hid (show splitN s.data.toList = some [] by rw [← Lib.toList_data, hr]; rfl)
    go_enter Try.func50, Try.ntmps50
    go_wp2_with fail
    go_ret2
    exact SplitPost.yes hp.out (Keeps.refl _ _) (SAt.nil _)
  · have hr' : (s.toList == [47]) = false := by simpa using hr
    by_cases h0 : s.size = 0
    · have hl : s.data.toList = [] := List.eq_nil_of_length_eq_zero (by rw [size_list]; exact h0)
      have hn := hid (splitN_none (Or.inl hl))
      have h0' : ((s.size : Int) == 0) = true := by simp [h0]
      have H0 := hid h0
      clear h0 hl
      go_enter Try.func50, Try.ntmps50
      go_wp2_with fail
      go_ret2
      exact SplitPost.no hn.out (Keeps.refl _ _)
    · have h0' : ((s.size : Int) == 0) = false := by simpa using h0
      have hpos : 0 < s.size := by omega
      have hhd : s.data.toList.head? = some s[0] := by
        rw [List.head?_eq_getElem?, List.getElem?_eq_getElem (by rw [size_list]; exact hpos), data_at s 0 hpos]
      by_cases h1 : s[0] = 47
      · have h1' : ((s[0].toNat : Int) != 47) = false := by rw [h1]; rfl
        have HS := hid (show scanN (s.data.toList.drop 1) [] [] = splitN s.data.toList from (splitN_scan (by rw [← Lib.toList_data]; exact hr) (by rw [hhd, h1])).symm)
        clear hhd h1
        go_enter Try.func50, Try.ntmps50
        go_wp2_with fail
        go_loopg [4, 5, 6] s.size (fun g s4 s5 s6 wx => ∃ (e f : Nat) (acc : List (List UInt8)), e + g = s.size + 1 ∧ 1 ≤ f ∧ (e ≤ s.size → f ≤ e) ∧ s6 = .int .i64 e ∧ s5 = .int .i64 f ∧ acc.length ≤ 8 ∧
          Hid (wx.ownsRow w.heap.size 9 1 s4 acc.length (acc.map bstr)) ∧ Hid (Keeps [] w wx) ∧ Hid ((e ≤ s.size → scanN (s.data.toList.drop e) (seg s.data.toList f e) acc = splitN s.data.toList) ∧ (e = s.size + 1 → splitN s.data.toList = some acc)))
        case atStart => exact ⟨1, 1, [], by omega, by omega, by omega, rfl, rfl, by simp, World.ownsRow_nil _ _ _ _, Keeps.refl _ _, ⟨fun _ => by rw [seg_nil]; exact HS.out, by omega⟩⟩
        case round =>
          obtain ⟨e, f, acc, heg, hf1, hfe, rfl, rfl, hacc, hown, hkp, hse⟩ := hrel
          obtain ⟨a4, c4, rfl⟩ := ownsRow_slice hown.out
          by_cases hend : e = s.size + 1
          · have hn := hid (hse.out.2 hend)
            have hd : decide ((e : Int) ≤ s.size) = false := by simp; omega
            have hgt : (s.size : Int) < e := by omega
            have HF := hid hfe
            clear hend hfe
            go_wp2_with fail
            go_ret2
            exact SplitPost.yes hn.out hkp.out (SAt.of_own hown.out)
          · have hle : (e : Int) ≤ s.size := by omega
            have hfe' := hfe (by omega)
            have hse' := hid (hse.out.1 (by omega))
            clear hfe hse
            have cm := fun W => rmay_any (s.extract f e) W (extract_le s f e hs)
            rw [extract_seg] at cm
            by_cases hcut : e = s.size ∨ ∃ h : e < s.size, s[e] = 47
            · have HE := hid (show (if mayN (seg s.data.toList f e) = true ∧ acc.length < 8 then (if e = s.size then some (acc ++ [seg s.data.toList f e]) else scanN (s.data.toList.drop (e + 1)) [] (acc ++ [seg s.data.toList f e])) else none) = splitN s.data.toList by
                rw [← hse'.out]
                rcases hcut with rfl | ⟨h, h47⟩
                · have := scan_last s.data.toList f acc
                  rw [size_list] at this
                  rw [this]; simp
                · rw [scan_end _ f e acc (by rw [size_list]; exact h) h47, if_neg (show ¬ e = s.size by omega)])
              have hb : e = s.size ∨ ∃ h : e < s.size, ((s[e].toNat : Int) != 47) = false := by
                rcases hcut with h | ⟨h, h47⟩
                · exact Or.inl h
                · exact Or.inr ⟨h, by rw [h47]; rfl⟩
              clear hcut
              by_cases hm : mayN (seg s.data.toList f e) = true ∧ acc.length < 8
              · have HM := hid hm
                have hm1 : decide (acc.length < 8) = true := by simpa using hm.2
                have hl8 : ((acc.length : Int) == 8) = false := by have := hm.2; simp; omega
                rw [hm.1] at cm
                clear hm
                rcases hb with hb | ⟨hlt, hb⟩
                · have hge : (s.size : Int) ≤ e := by omega
                  have HB := hid hb
                  clear hb
                  go_wp2_with (first | (go_at_call 71; refine (cm _).mono ?_; rintro e w' ⟨rfl, rfl⟩) | (at_builtin; refine wpList_append_own _ rfl _ _ 58 rfl w.heap.size 9 i0 (.string ⟨#[]⟩) 1 16 Try.underlying58 hi hz0 hz1 hz2 rfl (by decide) _ _ _ rfl (hown.out.alloc _) ⟨_, 0, none⟩ 1 1 [.string (s.extract f e)] rfl rfl ?c1 ?c2 ?c3 ?c4 ?c5 ?_))
                  case c1 =>
                    intro j u hj
                    cases j with
                    | zero => simp at hj; subst hj; simp [Addr.add]
                    | succ j => simp at hj
                  case c2 => intro u hu; simp at hu; subst hu; rfl
                  case c3 => unfold maxLen; omega
                  case c4 => omega
                  case c5 => have := hkp.out.size; simp; omega
                  intro v' w2 hown' hg _
                  have HO2 := hid (own_seg hown')
                  have HK2 := hid (keeps_own (hkp.out.alloc _) (hown.out.alloc _) (Nat.le_refl _) hg)
                  clear hown' hg
                  rw [extract_seg] at HO2
                  obtain ⟨av, cv, rfl⟩ := ownsRow_slice HO2.out
                  go_wp2_with fail
                  go_roundg (s.size - e)
                  case measure => omega
                  case rel => exact ⟨e + 1, e + 1, acc ++ [seg s.data.toList f e], by omega, by omega, by omega, by go_num, by go_num, by have := HM.out.2; simp; omega, HO2, HK2, ⟨by omega, fun _ => by rw [← HE.out, if_pos HM.out, if_pos HB.out]⟩⟩
                · go_wp2_with (first | (go_at_call 71; refine (cm _).mono ?_; rintro e w' ⟨rfl, rfl⟩) | (at_builtin; refine wpList_append_own _ rfl _ _ 58 rfl w.heap.size 9 i0 (.string ⟨#[]⟩) 1 16 Try.underlying58 hi hz0 hz1 hz2 rfl (by decide) _ _ _ rfl (hown.out.alloc _) ⟨_, 0, none⟩ 1 1 [.string (s.extract f e)] rfl rfl ?c1 ?c2 ?c3 ?c4 ?c5 ?_))
                  case c1 =>
                    intro j u hj
                    cases j with
                    | zero => simp at hj; subst hj; simp [Addr.add]
                    | succ j => simp at hj
                  case c2 => intro u hu; simp at hu; subst hu; rfl
                  case c3 => unfold maxLen; omega
                  case c4 => omega
                  case c5 => have := hkp.out.size; simp; omega
                  intro v' w2 hown' hg _
                  have HO2 := hid (own_seg hown')
                  have HK2 := hid (keeps_own (hkp.out.alloc _) (hown.out.alloc _) (Nat.le_refl _) hg)
                  clear hown' hg
                  rw [extract_seg] at HO2
                  obtain ⟨av, cv, rfl⟩ := ownsRow_slice HO2.out
                  go_wp2_with fail
                  go_roundg (s.size - e)
                  case measure => omega
                  case rel => exact ⟨e + 1, e + 1, acc ++ [seg s.data.toList f e], by omega, by omega, by omega, by go_num, by go_num, by have := HM.out.2; simp; omega, HO2, HK2, ⟨fun _ => by rw [seg_nil, ← HE.out, if_pos HM.out, if_neg (by omega)], by omega⟩⟩
              · have hn := hid (show splitN s.data.toList = none by rw [← HE.out, if_neg hm])
                by_cases hm1 : mayN (seg s.data.toList f e) = true
                · have hl8 : ((acc.length : Int) == 8) = true := by
                    have : ¬ acc.length < 8 := fun h => hm ⟨hm1, h⟩
                    simp; omega
                  rw [hm1] at cm
                  have HM := hid hm
                  clear hm hm1
                  rcases hb with hb | ⟨hlt, hb⟩
                  · have hge : (s.size : Int) ≤ e := by omega
                    have HB := hid hb
                    clear hb
                    go_wp2_with (go_at_call 71; refine (cm _).mono ?_; rintro e w' ⟨rfl, rfl⟩)
                    go_ret2
                    exact SplitPost.no hn.out hkp.out
                  · go_wp2_with (go_at_call 71; refine (cm _).mono ?_; rintro e w' ⟨rfl, rfl⟩)
                    go_ret2
                    exact SplitPost.no hn.out hkp.out
                · have hm' : mayN (seg s.data.toList f e) = false := by simpa using hm1
                  rw [hm'] at cm
                  have HM := hid hm
                  clear hm hm1 hm'
                  rcases hb with hb | ⟨hlt, hb⟩
                  · have hge : (s.size : Int) ≤ e := by omega
                    have HB := hid hb
                    clear hb
                    go_wp2_with (go_at_call 71; refine (cm _).mono ?_; rintro e w' ⟨rfl, rfl⟩)
                    go_ret2
                    exact SplitPost.no hn.out hkp.out
                  · go_wp2_with (go_at_call 71; refine (cm _).mono ?_; rintro e w' ⟨rfl, rfl⟩)
                    go_ret2
                    exact SplitPost.no hn.out hkp.out
            · have hlt : e < s.size := by
                rcases Nat.lt_or_ge e s.size with h | h
                · exact h
                · exact absurd (Or.inl (by omega)) hcut
              have h47 : ¬ s[e] = 47 := fun h => hcut (Or.inr ⟨hlt, h⟩)
              have hb : ((s[e].toNat : Int) != 47) = true := by
                simp only [bne_iff_ne, ne_eq]
                exact fun x => h47 (byte_nat (c := 47) (by show s[e].toNat = 47; omega))
              have HE := hid (show scanN (s.data.toList.drop (e + 1)) (seg s.data.toList f (e + 1)) acc = splitN s.data.toList by
                rw [← hse'.out, scan_step _ f e acc hfe' (by rw [size_list]; exact hlt) h47])
              have HC := hid hcut
              clear h47 hcut
              go_wp2_with fail
              go_roundg (s.size - e)
              case measure => omega
              case rel => exact ⟨e + 1, f, acc, by omega, hf1, by omega, by go_num, rfl, hacc, hown, hkp, ⟨fun _ => HE.out, by omega⟩⟩
      · have h1' : ((s[0].toNat : Int) != 47) = true := by
          simp only [bne_iff_ne, ne_eq]
          exact fun e => h1 (byte_nat (c := 47) (by show s[0].toNat = 47; omega))
        have HN := hid (show s.data.toList.head? ≠ some 47 by rw [hhd]; exact fun e => h1 (Option.some.inj e))
        clear hhd h1
        go_enter Try.func50, Try.ntmps50
        go_wp2_with fail
        go_ret2
        exact SplitPost.no (splitN_none (Or.inr HN.out)) (Keeps.refl _ _)
end Go.Proofs.Ytnmiffkflnlanaa
