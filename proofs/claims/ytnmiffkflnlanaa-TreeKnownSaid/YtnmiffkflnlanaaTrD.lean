/- The code's tree: find, Look. -/
import Derived.Test.YtnmiffkflnlanaaTrC
namespace Go.Proofs.Ytnmiffkflnlanaa
open Go.RowKit
set_option maxRecDepth 100000

theorem one_has (T : TL) : hasT T 1 = true := by simp [hasT]
theorem findR_none {T : TL} {p : List UInt8} (h : splitN p = none) : findR T p = (0, 12) := by simp [findR, h]
theorem findR_some {T : TL} {p : List UInt8} {l : List (List UInt8)} (h : splitN p = some l) : findR T p = walkT T 1 l := by simp [findR, h]
theorem TreeIn.made {w : World} {q c : Nat} {T : TL} {G : Nat → Nat} (TI : TreeIn w q T G c) :
    Calls Try.prog 46 #[.pointer (some ⟨q, 0, none⟩)] w fun e w' => e = .returned (.bool true) ∧ w = w' := made_any10 w q c _ _ _ TI.2 (one_has T)
theorem TreeIn.keep0 {w w' : World} {q c : Nat} {T : TL} {G : Nat → Nat} (TI : TreeIn w q T G c) (k : Keeps [] w w') : TreeIn w' q T G c := ⟨TI.1, TI.2.keep k (by simp)⟩
theorem TreeIn.ld {w : World} {q c : Nat} {T : TL} {G : Nat → Nat} (TI : TreeIn w q T G c) (n : Nat) (h : hasT T n = true) : w.rangeAt q (n * 4) (tgC (xT T n) (G n)) := TI.2.cells n (by have := (hasT_le TI.1 h).2; omega)
theorem drop_cons' {α : Type} (l : List α) (k : Nat) (h : k < l.length) : l.drop k = l[k] :: l.drop (k + 1) := List.drop_eq_getElem_cons h

set_option maxHeartbeats 3200000 in
theorem find_any10 (w : World) (q c : Nat) (T : TL) (G : Nat → Nat) (TI : TreeIn w q T G c) (s : ByteArray) (hs : s.size ≤ 140737488351232) :
    Calls Try.prog 32 #[.pointer (some ⟨q, 0, none⟩), .string s] w fun e w' => e = .returned (.tuple #[numN (findR T s.data.toList).1, .int .i64 (findR T s.data.toList).2]) ∧ Keeps [] w w' := by
  have HI := hid TI
  clear TI
  obtain ⟨r, hr⟩ : ∃ r, r = findR T s.data.toList := ⟨_, rfl⟩
  rw [← hr]
  have HR := hid hr
  clear hr
  go_enter Try.func32, Try.ntmps32
  go_wp2_with fail
  refine HI.out.made.mono ?_
  rintro e w' ⟨rfl, rfl⟩
  go_wp2_with fail
  refine (split_any s w hs).mono ?_
  rintro e w1 hp
  unfold SplitPost at hp
  cases hq : splitN s.data.toList with
  | none =>
    rw [hq] at hp
    obtain ⟨k1, rfl⟩ := hp
    have HF := hid (findR_none (T := T) hq)
    clear hq
    go_wp2_with fail
    go_ret2
    refine ⟨?_, k1⟩
    rw [HR.out, HF.out]
    rfl
  | some l =>
    rw [hq] at hp
    obtain ⟨k1, v, rfl, hv⟩ := hp
    have HF := hid (findR_some (T := T) hq)
    have HM := hid (splitN_some hq).1
    have hl8 : l.length ≤ 8 := (splitN_some hq).2.1
    clear hq
    have HI1 := hid (HI.out.keep0 k1)
    have K1 := hid k1
    clear k1
    by_cases h0 : l.length = 0
    · have e0 : l = [] := List.eq_nil_of_length_eq_zero h0
      subst e0
      obtain ⟨a, cap, rfl, z1, z2, z3⟩ := hv
      clear z1 z2 z3 h0
      simp only [List.length_nil]
      go_wp2_with fail
      refine wp_loop_rounds 1 ?_
      rw [rounds_succ]
      go_wp2_with fail
      go_ret2
      refine ⟨?_, K1.out⟩
      rw [HR.out, HF.out]
      rfl
    · obtain ⟨gl, ol, cl, rfl, _, hcl⟩ := hv.open (by omega)
      have HC := hid hcl
      clear hcl hv
      go_wp2_with fail
      go_loopw [8, 26] (fun iv kv wr => ∃ k n : Nat, k ≤ l.length ∧ kv = .int .i64 k ∧ iv = numN n ∧ hasT T n = true ∧ walkT T n (l.drop k) = walkT T 1 l ∧ Keeps [] w1 wr) (fun _ kv _ => l.length - (intOf kv).toNat)
      case atStart => exact ⟨0, 1, by omega, rfl, rfl, one_has T, rfl, Keeps.refl _ _⟩
      case round =>
        obtain ⟨k, n, hk, rfl, rfl, hn, hw, kr⟩ := hrel
        have HW := hid hw
        have HN := hid hn
        have KR := hid kr
        have hn2 := (hasT_le HI.out.1 hn).2
        clear hw hn kr
        by_cases hlt : k < l.length
        · have cl1 := KR.out.cell' (HC.out k hlt) (by simp)
          have HK := hid (drop_cons' l k hlt)
          have hm12 := (mayN_len (HM.out _ (List.getElem_mem hlt))).2
          generalize l[k] = u at cl1 HK hm12
          have HIr := hid (HI1.out.keep0 KR.out)
          have hld := HIr.out.ld n HN.out
          have hni : ((n : Int) < 129) := by omega
          have hni0 : (0 : Int) ≤ n := by omega
          have HL := hid hld
          have HM12 := hid hm12
          clear hld hm12
          go_wp2_with (first | (refine wpList_loadTg rfl _ rfl q (n * 4) rfl (xT T n) (G n) HL.out ?_) | fail)
          refine (isDir_any10 _ (xT T n) (G n)).mono ?_
          rintro e w2 ⟨rfl, k2⟩
          have K2 := hid (KR.out.trans k2)
          have HI2 := hid (HIr.out.keep0 k2)
          clear k2
          cases hd : (xT T n).dir with
          | false =>
            have hd' : isDirT T n = false := hd
            have HD := hid hd'
            clear hd hd'
            go_wp2_with fail
            go_ret2
            refine ⟨?_, K1.out.trans K2.out⟩
            rw [HR.out, HF.out, ← HW.out, HK.out, walkT, HD.out]
            rfl
          | true =>
            have hd' : isDirT T n = true := hd
            have HD := hid hd'
            have cm := HI2.out.2.c3 n (by omega)
            rw [hd] at cm
            simp only [if_true] at cm
            have HMp := hid (HI2.out.2.map n (by omega) hd)
            clear hd hd'
            by_cases hz : kidT T n u = 0
            · have hz' : (kidT T n u != 0) = false := by simp [hz]
              have HZ := hid hz
              clear hz
              go_wp2_with (first | (refine wpList_lookT rfl _ _ rfl (G n) c (kidT T n) HMp.out rfl u (Nat.le_trans HM12.out (by decide)) rfl ?_) | fail)
              go_ret2
              refine ⟨?_, K1.out.trans K2.out⟩
              rw [HR.out, HF.out, ← HW.out, HK.out, walkT, if_pos HD.out, if_pos HZ.out]
              rfl
            · have hz' : (kidT T n u != 0) = true := by simp [hz]
              have HZ := hid hz
              have HH := hid (kidT_has HI.out.1 hz)
              clear hz
              go_wp2_with (first | (refine wpList_lookT rfl _ _ rfl (G n) c (kidT T n) HMp.out rfl u (Nat.le_trans HM12.out (by decide)) rfl ?_) | fail)
              go_roundw
              case rel =>
                refine ⟨k + 1, kidT T n u, by omega, by go_num, rfl, HH.out, ?_, K2.out⟩
                rw [← HW.out, HK.out, walkT, if_pos HD.out, if_neg HZ.out]
              case measure => simp [intOf]; omega
        · have : k = l.length := by omega
          subst this
          go_wp2_with fail
          go_ret2
          refine ⟨?_, K1.out.trans KR.out⟩
          rw [HR.out, HF.out, ← HW.out, List.drop_length]
          rfl
end Go.Proofs.Ytnmiffkflnlanaa
