/- pack: what may be; Trim, of both. -/
import Derived.Test.YtcfmonlgpccndaaDoorPkM
import Derived.Test.YtcfmonlgpccndaaDoorPkG18
import Derived.Test.YtcfmonlgpccndaaDoorPkG06
import Derived.Test.YtcfmonlgpccndaaDoorKitD
namespace Go.Proofs.YtcfmonlgpccndaaDoor
open Go.RowKit Go.Shelf
set_option maxRecDepth 100000
set_option linter.unusedSimpArgs false
set_option linter.unusedVariables false

theorem pwithin_as (w : World) (x lo hi : Int) (b : Bool) (h : btw x lo hi = b) : Calls Tryd.prog 40 #[.int .i64 x, .int .i64 lo, .int .i64 hi] w fun e w' => e = .returned (.bool b) ∧ w = w' := by
  subst h
  unfold btw
  by_cases h0 : lo ≤ x
  · by_cases h1 : x ≤ hi
    · go_enter Tryd.func40, Tryd.ntmps40
      go_wp2_with fail
      go_ret
      exact ⟨by simp [h0, h1], rfl⟩
    · go_enter Tryd.func40, Tryd.ntmps40
      go_wp2_with fail
      go_ret
      exact ⟨by simp [h1], rfl⟩
  · go_enter Tryd.func40, Tryd.ntmps40
    go_wp2_with fail
    go_ret
    exact ⟨by simp; omega, rfl⟩
theorem pMost_any (w : World) (n : Int) (h : -1000 ≤ n ∧ n ≤ 1000) : Calls Tryd.prog 42 #[.int .i64 n] w fun e w' => e = .returned (.int .i64 (mostI n)) ∧ w = w' := by
  go_enter Tryd.func42, Tryd.ntmps42
  go_wp2_with fail
  go_ret
  exact ⟨rfl, rfl⟩
theorem pMayBe_any (w : World) (ino size : Int) : Calls Tryd.prog 25 #[.int .i64 ino, .int .i64 size] w fun e w' => e = .returned (.bool (btw ino 2 128 && btw size 0 4096)) ∧ w = w' := by
  cases h0 : btw ino 2 128 with
  | false =>
    have H0 := hid h0
    clear h0
    go_enter Tryd.func25, Tryd.ntmps25
    go_wp2_with fail
    refine (pwithin_as _ ino 2 128 _ H0.out).mono ?_
    rintro e _ ⟨rfl, rfl⟩
    go_wp2_with fail
    go_ret
    exact ⟨rfl, rfl⟩
  | true =>
    cases h1 : btw size 0 4096 with
    | false =>
      have H0 := hid h0
      have H1 := hid h1
      clear h0 h1
      go_enter Tryd.func25, Tryd.ntmps25
      go_wp2_with fail
      refine (pwithin_as _ ino 2 128 _ H0.out).mono ?_
      rintro e _ ⟨rfl, rfl⟩
      go_wp2_with fail
      refine (pwithin_as _ size 0 4096 _ H1.out).mono ?_
      rintro e _ ⟨rfl, rfl⟩
      go_wp2_with fail
      go_ret
      exact ⟨rfl, rfl⟩
    | true =>
      have H0 := hid h0
      have H1 := hid h1
      clear h0 h1
      go_enter Tryd.func25, Tryd.ntmps25
      go_wp2_with fail
      refine (pwithin_as _ ino 2 128 _ H0.out).mono ?_
      rintro e _ ⟨rfl, rfl⟩
      go_wp2_with fail
      refine (pwithin_as _ size 0 4096 _ H1.out).mono ?_
      rintro e _ ⟨rfl, rfl⟩
      go_wp2_with fail
      go_ret
      exact ⟨rfl, rfl⟩
theorem cut_nil_ok (s : Spe) (n : Int) (h : maySv n = true ∧ mayE s = true) : (cutL s [] n).2 = 0 := by
  unfold cutL
  have h3 := (maySv_is.1 h.1).1
  rw [if_pos h, if_neg (by simp; omega)]
theorem cut_nil_no (s : Spe) (n : Int) (h : ¬(maySv n = true ∧ mayE s = true)) : (cutL s [] n).2 = 1 := by
  unfold cutL
  rw [if_neg h]
set_option maxHeartbeats 1600000 in
theorem pMayKeep_any (w : World) (s : Spe) (n : Int) : Calls Tryd.prog 24 #[.agg #[.int .i64 s.c, .int .i64 s.l, .int .i64 s.n], .int .i64 n] w fun e w' => e = .returned (.bool (maySv n && mayE s)) ∧ Keeps [] w w' := by
  obtain ⟨w1, hw1⟩ : ∃ x, x = w.alloc (.cells #[.int .i64 s.c, .int .i64 s.l, .int .i64 s.n] 29) := ⟨_, rfl⟩
  have HW1 := hid hw1
  have K1 := hid (show Keeps [] w w1 by rw [hw1]; exact (Keeps.refl [] w).alloc _)
  have R1 := hid (show w1.rangeAt w.heap.size 0 s.cells by rw [hw1]; exact range_cells (heap_alloc_new w _))
  have HC := hid (lCut_any w1 s (.slice none 0 0) [] n (RowAt.nil w1) (by simp))
  clear hw1
  by_cases hc : maySv n = true ∧ mayE s = true
  · have HE := hid (cut_nil_ok s n hc)
    have HB := hid (show (maySv n && mayE s) = true by rw [hc.1, hc.2]; rfl)
    clear hc
    go_enter Tryd.func24, Tryd.ntmps24
    go_wp2_with (first | (refine wpList_isW rfl _ _ (exec_load _ _ _ _ rfl rfl (loadSpe _ w.heap.size 0 s (by rw [← HW1.out]; exact R1.out))) ?_) | fail)
    rw [← HW1.out]
    refine HC.out.mono ?_
    rintro e w2 ⟨k2, h2⟩
    rw [HE.out] at h2
    rcases h2 with ⟨h2, _⟩ | ⟨_, g, vs, rfl, _⟩
    · exact absurd rfl h2
    · have K2 := hid (K1.out.trans k2)
      clear k2
      go_wp2_with fail
      go_ret
      exact ⟨by rw [HB.out]; rfl, K2.out⟩
  · have HE := hid (cut_nil_no s n hc)
    have HB := hid (show (maySv n && mayE s) = false by
      cases h1 : maySv n <;> cases h2 : mayE s <;> simp [h1, h2] at hc ⊢)
    clear hc
    go_enter Tryd.func24, Tryd.ntmps24
    go_wp2_with (first | (refine wpList_isW rfl _ _ (exec_load _ _ _ _ rfl rfl (loadSpe _ w.heap.size 0 s (by rw [← HW1.out]; exact R1.out))) ?_) | fail)
    rw [← HW1.out]
    refine HC.out.mono ?_
    rintro e w2 ⟨k2, h2⟩
    rw [HE.out] at h2
    rcases h2 with ⟨_, _, rfl⟩ | ⟨h2, _⟩
    · have K2 := hid (K1.out.trans k2)
      clear k2
      go_wp2_with fail
      go_ret
      exact ⟨by rw [HB.out]; rfl, K2.out⟩
    · exact absurd h2 (by decide)

/-- What a part of a row leaves that is cut off at its end. -/
def CutOff (w : World) (d : List Int) (e : Ending) (w' : World) : Prop :=
  ∃ a c, e = .returned (.slice a (trimL d).length c) ∧ RowAt w' (.slice a (trimL d).length c) (trimL d) ∧ Keeps [] w w'
set_option maxHeartbeats 3200000 in
theorem trimB_any (w : World) (v : Value) (d : List Int) (h : RowAt w v d) (hl : d.length ≤ 140737488351232) : Calls Tryd.prog 43 #[v, .int .u8 0] w (CutOff w d) := by
  obtain ⟨a, cap, rfl, _⟩ := id h
  have HR := hid h
  clear h
  go_enter Tryd.func43, Tryd.ntmps43
  go_wp2_with fail
  go_loopw [0] (fun sv wr => ∃ (a1 : Option Addr) (k : Nat), sv = .slice a1 k cap ∧ k ≤ d.length ∧ Hid (tN d k = tN d d.length) ∧ Hid (RowAt wr (.slice a1 k cap) (d.take k)) ∧ Hid (Keeps [] w wr)) (fun sv _ => match sv with | .slice _ k _ => k | _ => 0)
  case atStart => exact ⟨a, d.length, rfl, Nat.le_refl _, hid rfl, hid (by rw [List.take_length]; exact HR.out), hid (Keeps.refl _ _)⟩
  case round =>
    obtain ⟨a1, k, rfl, hk, HT, HA, HK⟩ := hrel
    rcases Nat.eq_zero_or_pos k with rfl | hp
    · go_wp2_with fail
      go_ret
      have e0 : (trimL d).length = 0 := by rw [trim_len, ← HT.out]; rfl
      have e1 : trimL d = [] := List.eq_nil_of_length_eq_zero e0
      refine ⟨a1, cap, by rw [e0]; rfl, ?_, HK.out⟩
      rw [e1]
      have := HA.out
      rw [List.take_zero] at this
      exact this
    · obtain ⟨j, rfl⟩ : ∃ j, k = j + 1 := ⟨k - 1, by omega⟩
      have ej : ((j + 1 : Nat) : Int) - 1 = (j : Int) := by omega
      obtain ⟨a1', c1', hv1, hc1, hc2, hc3, hc4, hc5⟩ := id HA.out
      rw [List.length_take, Nat.min_eq_left hk] at hv1 hc1
      injection hv1 with e1 _ e3
      subst e1; subst e3
      cases a1 with
      | none => have := hc3 rfl; omega
      | some ad =>
        have hce := hc5 ad rfl j (.int .u8 (d.getD j 0)) (by rw [List.getElem?_map, List.getElem?_take, if_pos (by omega), List.getD_eq_getElem?_getD, List.getElem?_eq_getElem (by omega)]; rfl)
        obtain ⟨g, off, sp⟩ := ad
        have hsp : sp = none := by
          have hs := World.cell?_spot (hc5 _ rfl 0 (.int .u8 (d.getD 0 0)) (by rw [List.getElem?_map, List.getElem?_take, if_pos (by omega), List.getD_eq_getElem?_getD, List.getElem?_eq_getElem (by omega)]; rfl))
          simpa [Addr.add] using hs
        subst hsp
        rw [Addr.add_lit] at hce
        clear hc1 hc2 hc3 hc4 hc5
        obtain ⟨x, hx⟩ : ∃ x, x = d.getD j 0 := ⟨_, rfl⟩
        rw [← hx] at hce
        have HX := hid hx
        clear hx
        by_cases h0 : x = 0
        · subst h0
          obtain ⟨a2, _, t2, t3, _⟩ := row_take HA.out j (by rw [List.length_take, Nat.min_eq_left hk]; omega)
          have T3 := hid (t3 _ HA.out)
          clear t3
          go_wp2_with fail
          go_roundw
          case rel => exact ⟨a2, j, rfl, by omega, hid ((tN_yes HX.out.symm).symm.trans HT.out), hid (by have := T3.out; rwa [List.take_take, Nat.min_eq_left (by omega)] at this), HK⟩
          case measure => simp
        · have hb : (x == (0 : Int)) = false := by simpa using h0
          have HN := hid h0
          clear h0
          go_wp2_with fail
          go_ret
          have e0 : (trimL d).length = j + 1 := by rw [trim_len, ← HT.out]; exact tN_no (by rw [← HX.out]; exact HN.out)
          have e1 : trimL d = d.take (j + 1) := by unfold trimL; rw [← trim_len, e0]
          refine ⟨some ⟨g, off, none⟩, cap, by rw [e0]; rfl, ?_, HK.out⟩
          rw [e0, e1]
          exact HA.out
theorem trimR_any (w : World) (v : Value) (d : List Int) (h : RowAt w v d) (hl : d.length ≤ 140737488351232) : Calls Tryd.prog 30 #[v, .string ⟨#[0]⟩] w (CutOff w d) := by
  obtain ⟨a, cap, rfl, hc, _⟩ := id h
  have HR := hid h
  clear h
  by_cases h0 : d.length = 0
  · obtain rfl : d = [] := List.eq_nil_of_length_eq_zero h0
    simp only [List.length_nil] at *
    go_enter Tryd.func30, Tryd.ntmps30
    go_wp2_with fail
    go_ret
    exact ⟨a, cap, rfl, HR.out, Keeps.refl _ _⟩
  · have hb : ((d.length : Int) == 0) = false := by simpa using h0
    have H0 := hid h0
    clear h0
    go_enter Tryd.func30, Tryd.ntmps30
    go_wp2_with fail
    refine (trimB_any _ _ d HR.out hl).mono ?_
    rintro e w2 ⟨a2, c2, rfl, r2, k2⟩
    have R2 := hid r2
    have K2 := hid k2
    clear r2 k2
    go_wp2_with fail
    go_ret
    exact ⟨a2, c2, rfl, R2.out, K2.out⟩
theorem pTrim_any (w : World) (v : Value) (d : List Int) (h : RowAt w v d) (hl : d.length ≤ 35184372088832) : Calls Tryd.prog 11 #[v] w (NewPostK w (trimL d)) := by
  have HT := hid (trimR_any w v d h (by omega))
  have hl2 := trim_le d
  clear h
  go_enter Tryd.func11, Tryd.ntmps11
  go_wp2_with fail
  refine HT.out.mono ?_
  rintro e w2 ⟨a2, c2, rfl, r2, k2⟩
  have R2 := hid r2
  have K2 := hid k2
  clear r2 k2
  go_wp2_with fail
  refine (cloneK_any w2 _ (trimL d) R2.out (by omega)).mono ?_
  rintro e w3 ⟨a3, c3, rfl, r3, n3, k3⟩
  have R3 := hid r3
  have N3 := hid n3
  have K3 := hid k3
  clear r3 n3 k3
  go_wp2_with fail
  go_ret
  exact ⟨a3, c3, rfl, R3.out, fun ad had => Nat.le_trans K2.out.size (N3.out ad had), K2.out.trans K3.out⟩
end Go.Proofs.YtcfmonlgpccndaaDoor
