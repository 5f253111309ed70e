/- name: Split. -/
import Derived.Test.YtnmiffkflnlanaaNaB
import Derived.Test.YtnmiffkflnlanaaNaC
import Derived.Test.YtnmiffkflnlanaaApp
import Derived.Deep.LoopGhost
namespace Go.Proofs.Ytnmiffkflnlanaa
open Go.RowKit

set_option maxHeartbeats 400000 in
theorem clones_any (s : ByteArray) (w : World) (hl : s.size ≤ 281474976710656) :
    Calls Try.prog 74 #[.string s] w fun e w' => e = .returned (.string s) ∧ Below w.heap.size w w' := by
  go_enter Try.func74, Try.ntmps74
  go_wp2_with (go_at_call 94; refine (Try.stringslite_Clone s _ hl).mono ?_; rintro e w' ⟨rfl, hb⟩)
  go_ret
  exact ⟨rfl, hb⟩

theorem own_below {w w1 : World} {B : Nat} {e : TypeId} {v : Value} {n : Nat} {xs : List Value} (h : w.ownsRow B e 1 v n xs) (hb : Below w.heap.size w w1) : w1.ownsRow B e 1 v n xs :=
  h.kept (row := none) ⟨hb.os, hb.tape, hb.output, hb.size, fun k hk _ => hb.block k hk⟩ (by cases hv : v.ownBlock <;> simp)
theorem keeps_below {w a b : World} (h : Keeps [] w a) (hb : Below a.heap.size a b) : Keeps [] w b :=
  h.trans' (S' := []) ⟨hb.os, hb.tape, hb.output, hb.size, fun k hk _ => hb.block k hk⟩ (by simp)
theorem keeps_own {w a b : World} {v : Value} {B : Nat} {e : TypeId} {n : Nat} {xs : List Value} (h : Keeps [] w a) (ho : a.ownsRow B e 1 v n xs) (hB : w.heap.size ≤ B) (hg : a.grownBy b v.ownBlock) : Keeps [] w b :=
  h.grown hg (fun k hk => Or.inr (by have := (ho.lt k hk).1; omega))
theorem extract_le (s : ByteArray) (f e : Nat) (h : s.size ≤ 140737488351232) : (s.extract f e).size ≤ maxLen := by
  have : (s.extract f e).size ≤ s.size := by rw [ByteArray.size_extract]; omega
  unfold maxLen; omega

theorem own_seg {w2 : World} {B : Nat} {v : Value} {acc : List (List UInt8)} {s : ByteArray} {f e : Nat} (h : w2.ownsRow B 9 1 v (acc.length + 1) (acc.map bstr ++ [Value.string (s.extract f e)])) :
    w2.ownsRow B 9 1 v (acc ++ [(s.extract f e).data.toList]).length ((acc ++ [(s.extract f e).data.toList]).map bstr) := by
  rw [List.map_append, List.map_singleton, bstr_data, List.length_append]
  exact h

def SplitPost (p : List UInt8) (w : World) (e : Ending) (w' : World) : Prop :=
  Keeps [] w w' ∧ match splitN p with
  | some l => ∃ v, e = .returned (.tuple #[v, .int .i64 0]) ∧ SAt w' v l
  | none => e = .returned (.tuple #[.slice none 0 0, .int .i64 12])

theorem SplitPost.no {p : List UInt8} {w w' : World} (h : splitN p = none) (k : Keeps [] w w') : SplitPost p w (.returned (.tuple #[.slice none 0 0, .int .i64 12])) w' := by
  unfold SplitPost
  rw [h]
  exact ⟨k, rfl⟩
theorem SplitPost.yes {p : List UInt8} {w w' : World} {l : List (List UInt8)} {v : Value} (h : splitN p = some l) (k : Keeps [] w w') (hv : SAt w' v l) : SplitPost p w (.returned (.tuple #[v, .int .i64 0])) w' := by
  unfold SplitPost
  rw [h]
  exact ⟨k, v, rfl, hv⟩

/-- The bytes from f to e. -/
def seg (p : List UInt8) (f e : Nat) : List UInt8 := (p.drop f).take (e - f)
theorem seg_nil (p : List UInt8) (f : Nat) : seg p f f = [] := by simp [seg]
theorem seg_snoc (p : List UInt8) (f e : Nat) (hf : f ≤ e) (h : e < p.length) : seg p f (e + 1) = seg p f e ++ [p[e]] := by
  unfold seg
  rw [show e + 1 - f = (e - f) + 1 by omega, List.take_succ_eq_append_getElem (by simp; omega)]
  congr 2
  rw [List.getElem_drop]
  congr 1
  omega

theorem scan_step (p : List UInt8) (f e : Nat) (acc : List (List UInt8)) (hf : f ≤ e) (h : e < p.length) (hne : p[e] ≠ 47) : scanN (p.drop e) (seg p f e) acc = scanN (p.drop (e + 1)) (seg p f (e + 1)) acc := by
  rw [← List.getElem_cons_drop h, scanN, if_neg hne, seg_snoc p f e hf h]
theorem scan_end (p : List UInt8) (f e : Nat) (acc : List (List UInt8)) (h : e < p.length) (he : p[e] = 47) : scanN (p.drop e) (seg p f e) acc = if mayN (seg p f e) = true ∧ acc.length < 8 then scanN (p.drop (e + 1)) [] (acc ++ [seg p f e]) else none := by
  rw [← List.getElem_cons_drop h, scanN, if_pos he]
theorem scan_last (p : List UInt8) (f : Nat) (acc : List (List UInt8)) : scanN (p.drop p.length) (seg p f p.length) acc = if mayN (seg p f p.length) = true ∧ acc.length < 8 then some (acc ++ [seg p f p.length]) else none := by
  rw [List.drop_length, scanN]

theorem splitN_root : splitN [47] = some [] := rfl
theorem splitN_none {p : List UInt8} (h : p = [] ∨ p.head? ≠ some 47) : splitN p = none := by
  unfold splitN
  split
  · rename_i e
    rcases h with h | h
    · rw [h] at e; cases e
    · rw [e] at h; simp at h
  · split
    · rename_i c r hne
      rcases h with h | h
      · cases h
      · simp at h; rw [if_neg h]
    · rfl
theorem splitN_scan {p : List UInt8} (h : p ≠ [47]) (h1 : p.head? = some 47) : splitN p = scanN (p.drop 1) [] [] := by
  unfold splitN
  rw [if_neg h]
  cases p with
  | nil => simp at h1
  | cons c r =>
    simp at h1
    simp [h1]

theorem data_at (s : ByteArray) (e : Nat) (h : e < s.size) : s.data.toList[e]'(by rw [size_list]; exact h) = s[e] := rfl
theorem extract_seg (s : ByteArray) (f e : Nat) : (s.extract f e).data.toList = seg s.data.toList f e := Lib.extract_data s f e

set_option maxHeartbeats 4000000 in
set_option maxRecDepth 100000 in
theorem split_any (s : ByteArray) (w : World) (hs : s.size ≤ 140737488351232) :
    Calls Try.prog 53 #[.string s] w (SplitPost s.data.toList w) := by
  obtain ⟨i0, hi, hz0, hz1, hz2⟩ := info_parts infoStr
  have HL := hid (size_list s)
  by_cases hr : s.toList = [47]
  · have hp := hid (show splitN s.data.toList = some [] by rw [← Lib.toList_data, hr]; rfl)
    go_enter Try.func53, Try.ntmps53
    go_wp2_with fail
    go_step3
    go_wp2_with fail
    rw [Exit.noGoto_ret]
    go_ret2
    exact SplitPost.yes hp.out (Keeps.refl _ _) (SAt.nil _)
  · have hr' : (s.toList == [47]) = false := by simpa using hr
    by_cases h0 : s.toList = []
    · go_enter Try.func53, Try.ntmps53
      go_wp2_with fail
      go_step3
      go_wp2_with fail
      rw [Exit.noGoto_ret]
      go_ret2
      exact SplitPost.no (splitN_none (Or.inl (by rw [← Lib.toList_data]; exact h0))) (Keeps.refl _ _)
    · have h0' : s.toList.isEmpty = false := by simpa using h0
      have hpos : 0 < s.size := by
        rcases Nat.eq_zero_or_pos s.size with h | h
        · exact absurd (List.eq_nil_of_length_eq_zero (by rw [Lib.toList_data, size_list, h])) h0
        · exact h
      have hhd : s.data.toList.head? = some s[0] := by
        rw [List.head?_eq_getElem?, List.getElem?_eq_getElem (by rw [size_list]; exact hpos), data_at s 0 hpos]
      by_cases h1 : s[0] = 47
      · have h1' : ((s[0].toNat : Int) != 47) = false := by rw [h1]; rfl
        have HS := hid (show scanN (s.data.toList.drop 1) [] [] = splitN s.data.toList from (splitN_scan (by rw [← Lib.toList_data]; exact hr) (by rw [hhd, h1])).symm)
        clear hhd h1
        go_enter Try.func53, Try.ntmps53
        go_wp2_with fail
        go_step3
        go_wp2_with fail
        go_step3
        go_wp2_with fail
        go_loopg [4, 5] (s.size - 1) (fun g s4 s5 wx => ∃ (f : Nat) (acc : List (List UInt8)), f + g = s.size ∧ 1 ≤ f ∧ s5 = .int .i64 f ∧ acc.length ≤ 8 ∧
          Hid (wx.ownsRow w.heap.size 9 1 s4 acc.length (acc.map bstr)) ∧ Hid (Keeps [] w wx) ∧ Hid (scanN (s.data.toList.drop f) [] acc = splitN s.data.toList))
        case atStart => exact ⟨1, [], by omega, by omega, rfl, by simp, World.ownsRow_nil _ _ _ _, Keeps.refl _ _, HS.out⟩
        case round =>
          obtain ⟨f, acc, hfg, hf1, rfl, hacc, hown, hkp, hsc⟩ := hrel
          obtain ⟨a4, c4, rfl⟩ := ownsRow_slice hown.out
          by_cases h8 : acc.length = 8
          · have hn := hid (show splitN s.data.toList = none by rw [← hsc.out]; exact scanN_full _ _ _ (by omega))
            have h8' : decide ((acc.length : Int) < 8) = false := by simp [h8]
            have H8 := hid h8
            clear h8
            go_wp2_with fail
            rw [Exit.noGoto_ret]
            go_ret2
            exact SplitPost.no hn.out hkp.out
          · have h8' : decide ((acc.length : Int) < 8) = true := by simp; omega
            have H0 := hid (show scanN (s.data.toList.drop f) (seg s.data.toList f f) acc = splitN s.data.toList by rw [seg_nil]; exact hsc.out)
            go_wp2_with fail
            go_loopg [4, 5, 6] (s.size - f) (fun g6 s4 s5 s6 wx => ∃ e : Nat, e + g6 = s.size ∧ f ≤ e ∧ s6 = .int .i64 e ∧ wx = wr ∧ s4 = .slice a4 acc.length c4 ∧ s5 = .int .i64 f ∧ Hid (scanN (s.data.toList.drop e) (seg s.data.toList f e) acc = splitN s.data.toList))
            case atStart => exact ⟨f, by omega, Nat.le_refl _, rfl, rfl, rfl, rfl, H0⟩
            case round =>
              obtain ⟨e, heg, hfe, rfl, rfl, rfl, rfl, hse⟩ := hrel
              have cm := fun W => may_any (s.extract f e) W (extract_le s f e hs)
              have cc := fun W => clones_any (s.extract f e) W (by have := extract_le s f e hs; rw [ByteArray.size_extract]; omega)
              rw [extract_seg] at cm
              have hle : (e : Int) ≤ s.size := by omega
              by_cases hlt : e < s.size
              · by_cases h47 : s[e] = 47
                · have hb : ((s[e].toNat : Int) != 47) = false := by rw [h47]; rfl
                  have HE := hid (show (if mayN (seg s.data.toList f e) = true ∧ acc.length < 8 then scanN (s.data.toList.drop (e + 1)) [] (acc ++ [seg s.data.toList f e]) else none) = splitN s.data.toList by
                    rw [← hse.out, scan_end _ f e acc (by rw [size_list]; exact hlt) h47])
                  have hee : ((e : Int) == s.size) = false := by simp; omega
                  clear h47
                  by_cases hm : mayN (seg s.data.toList f e) = true
                  · rw [hm] at cm
                    have HM := hid hm
                    clear hm
                    go_wp2_with (first | (go_at_call 73; refine (cm _).mono ?_; rintro e w' ⟨rfl, rfl⟩) | (go_at_call 74; refine (cc _).mono ?_; rintro e w1 ⟨rfl, hbw⟩) | (at_builtin; refine wpList_append_own _ rfl _ _ 58 rfl w.heap.size 9 i0 (.string ⟨#[]⟩) 1 16 Try.underlying58 hi hz0 hz1 hz2 rfl (by decide) _ _ _ rfl ((own_below hown.out hbw).alloc _) ⟨_, 0, none⟩ 1 1 [.string (s.extract f e)] rfl rfl ?c1 ?c2 ?c3 ?c4 ?c5 ?_))
                    case c1 =>
                      intro j u hj
                      cases j with
                      | zero => simp at hj; subst hj; simp [Addr.add]
                      | succ j => simp at hj
                    case c2 => intro u hu; simp at hu; subst hu; rfl
                    case c3 => unfold maxLen; omega
                    case c4 => omega
                    case c5 => have := hkp.out.size; have := hbw.size; simp; omega
                    intro v' w2 hown' hg _
                    have HO2 := hid (own_seg hown')
                    have HK2 := hid (keeps_own ((keeps_below hkp.out hbw).alloc _) ((own_below hown.out hbw).alloc _) (Nat.le_refl _) hg)
                    clear hown' hg
                    rw [extract_seg] at HO2
                    obtain ⟨av, cv, rfl⟩ := ownsRow_slice HO2.out
                    clear hbw
                    have HE2 := hid (show scanN (s.data.toList.drop (e + 1)) [] (acc ++ [seg s.data.toList f e]) = splitN s.data.toList by rw [← HE.out, if_pos ⟨HM.out, by omega⟩])
                    go_wp2_with fail
                    go_roundg (s.size - (e + 1))
                    case measure => omega
                    case rel => exact ⟨e + 1, acc ++ [seg s.data.toList f e], by omega, by omega, by go_num, by simp; omega, HO2, HK2, HE2⟩
                  · have hm' : mayN (seg s.data.toList f e) = false := by simpa using hm
                    rw [hm'] at cm
                    have hn := hid (show splitN s.data.toList = none by rw [← HE.out, if_neg (fun h => hm h.1)])
                    clear hm hm'
                    go_wp2_with (go_at_call 73; refine (cm _).mono ?_; rintro e w' ⟨rfl, rfl⟩)
                    rw [Exit.noGoto_ret]
                    go_ret2
                    exact SplitPost.no hn.out hkp.out
                · have hb : ((s[e].toNat : Int) != 47) = true := by
                    simp only [bne_iff_ne, ne_eq]
                    exact fun x => h47 (byte_nat (c := 47) (by show s[e].toNat = 47; omega))
                  have HE := hid (show scanN (s.data.toList.drop (e + 1)) (seg s.data.toList f (e + 1)) acc = splitN s.data.toList by
                    rw [← hse.out, scan_step _ f e acc hfe (by rw [size_list]; exact hlt) h47])
                  clear h47
                  go_wp2_with fail
                  go_roundg (s.size - (e + 1))
                  case measure => omega
                  case rel => exact ⟨e + 1, by omega, by omega, by go_num, rfl, rfl, rfl, HE⟩
              · obtain rfl : e = s.size := by omega
                have HE := hid (show (if mayN (seg s.data.toList f s.size) = true ∧ acc.length < 8 then some (acc ++ [seg s.data.toList f s.size]) else none) = splitN s.data.toList by
                  rw [← hse.out]
                  have := scan_last s.data.toList f acc
                  rw [size_list] at this
                  exact this.symm)
                by_cases hm : mayN (seg s.data.toList f s.size) = true
                · rw [hm] at cm
                  have HM := hid hm
                  clear hm
                  go_wp2_with (first | (go_at_call 73; refine (cm _).mono ?_; rintro e w' ⟨rfl, rfl⟩) | (go_at_call 74; refine (cc _).mono ?_; rintro e w1 ⟨rfl, hbw⟩) | (at_builtin; refine wpList_append_own _ rfl _ _ 58 rfl w.heap.size 9 i0 (.string ⟨#[]⟩) 1 16 Try.underlying58 hi hz0 hz1 hz2 rfl (by decide) _ _ _ rfl ((own_below hown.out hbw).alloc _) ⟨_, 0, none⟩ 1 1 [.string (s.extract f s.size)] rfl rfl ?c1 ?c2 ?c3 ?c4 ?c5 ?_))
                  case c1 =>
                    intro j u hj
                    cases j with
                    | zero => simp at hj; subst hj; simp [Addr.add]
                    | succ j => simp at hj
                  case c2 => intro u hu; simp at hu; subst hu; rfl
                  case c3 => unfold maxLen; omega
                  case c4 => omega
                  case c5 => have := hkp.out.size; have := hbw.size; simp; omega
                  intro v' w2 hown' hg _
                  have HO2 := hid (own_seg hown')
                  have HK2 := hid (keeps_own ((keeps_below hkp.out hbw).alloc _) ((own_below hown.out hbw).alloc _) (Nat.le_refl _) hg)
                  clear hown' hg
                  rw [extract_seg] at HO2
                  obtain ⟨av, cv, rfl⟩ := ownsRow_slice HO2.out
                  have HE2 := hid (show splitN s.data.toList = some (acc ++ [seg s.data.toList f s.size]) by rw [← HE.out, if_pos ⟨HM.out, by omega⟩])
                  clear hbw
                  go_wp2_with fail
                  rw [Exit.noGoto_ret]
                  go_ret2
                  exact SplitPost.yes HE2.out HK2.out (SAt.of_own HO2.out)
                · have hm' : mayN (seg s.data.toList f s.size) = false := by simpa using hm
                  rw [hm'] at cm
                  have hn := hid (show splitN s.data.toList = none by rw [← HE.out, if_neg (fun h => hm h.1)])
                  clear hm hm'
                  go_wp2_with (go_at_call 73; refine (cm _).mono ?_; rintro e w' ⟨rfl, rfl⟩)
                  rw [Exit.noGoto_ret]
                  go_ret2
                  exact SplitPost.no hn.out hkp.out
      · have h1' : ((s[0].toNat : Int) != 47) = true := by
          simp only [bne_iff_ne, ne_eq]
          exact fun e => h1 (byte_nat (c := 47) (by show s[0].toNat = 47; omega))
        have HN := hid (show s.data.toList.head? ≠ some 47 by rw [hhd]; exact fun e => h1 (Option.some.inj e))
        clear hhd h1
        go_enter Try.func53, Try.ntmps53
        go_wp2_with fail
        go_step3
        go_wp2_with fail
        rw [Exit.noGoto_ret]
        go_ret2
        exact SplitPost.no (splitN_none (Or.inr HN.out)) (Keeps.refl _ _)
end Go.Proofs.Ytnmiffkflnlanaa
