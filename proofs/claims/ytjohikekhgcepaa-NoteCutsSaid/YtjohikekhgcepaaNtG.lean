/- note: many of one kind are read by the code (getAll, which gives up). -/
import Derived.Test.YtjohikekhgcepaaNtF
namespace Go.Proofs.Ytjohikekhgcepaa
open Go.RowKit Go.Shelf
set_option maxRecDepth 100000
set_option linter.unusedSimpArgs false
set_option linter.unusedVariables false

theorem bldDl (w : World) (x : Dl) : (Instr.buildSlice 86 1 #[(0, KDl.v x)]).run Try.prog w = .ok (.slice (some ⟨w.heap.size, 0, none⟩) 1 1) (w.alloc (.cells (KDl.cells x).toArray 169)) := by
  obtain ⟨ie, hie, hz, hs, _⟩ := info_parts iDelta3
  refine run_buildSlice w _ _ 1 _ _ ie _ Try.underlying86 hie hz (by rw [hs]; decide) (by rw [hs]; decide) ?_
  rw [hs]
  have e : (Array.range (1 * 14)) = #[0, 1, 2, 3, 4, 5, 6, 7, 8, 9, 10, 11, 12, 13] := rfl
  have e2 : (dlV dZ).cells = dlA dZ := rfl
  have e3 : (KDl.v x).cells = dlA x := rfl
  have e4 : (KDl.cells x).toArray = dlA x := dlA_is x
  rw [e4]
  simp only [Instr.fill, e, e2, e3, dlA]
  simp
theorem oneDl : ∀ x, ∀ u ∈ KDl.cells x, u.oneCell' = true := by
  intro x u hu
  have := dcells_one x
  rw [Array.all_eq_true_iff_forall_mem] at this
  have hu2 : u ∈ x.cells := hu
  exact this u (by simpa using hu2)
theorem cDl : KDl.Ty 169 86 112 := ⟨fun _ => rfl, oneDl, by decide, by decide, by kernel_rfl, by kernel_rfl, by kernel_rfl, Try.underlying86, ⟨_, Try.underlying169, rfl⟩, bldDl⟩
/-- What a reader of many answers: they, or it gave up. -/
def GetL {α : Type} (K : Kn α) (T : TypeId) (g : PSt → α × PSt) (w0 w : World) (B p : Nat) (v : Value) (st : PSt) (e : Ending) (w' : World) : Prop :=
  Keeps [p] w w' ∧ ((∃ a cp, e = .returned (.slice a (lsG g st).1.length cp) ∧ OwnT K T w' w.heap.size (.slice a (lsG g st).1.length cp) (lsG g st).1 ∧ EyL w0 w' B p v (lsG g st).2) ∨ ((lsG g st).2.2 ≠ 0 ∧ e = gaveUp (lsG g st).2.2))
theorem cnt_le2 {st : PSt} (hb : Byt st.1) : (numE 2 st).1 ≤ 65535 := by
  by_cases h : st.2 = 0
  · obtain ⟨zs, b⟩ := st
    simp only at h hb
    subst h
    rcases Nat.lt_or_ge zs.length 2 with h2 | h2
    · rw [numE_short (n := 2) 2 rfl (by decide) (by decide) h2]; exact (by decide : (0 : Int) ≤ 65535)
    · have hz : (numE 2 (zs, 0)).2.2 = 0 := by
        unfold numE after rdNum
        rw [if_neg (by simp), if_neg (by decide), if_neg (by show ¬ zs.length < 2; omega)]
      have := (numE_ok (n := 2) 2 rfl (by decide) (by decide) hb hz).2.2.2.2
      have h5 : (numE 2 (zs, 0)).1 < 65536 := this
      omega
  · rw [numE_stay 2 h]; exact (by decide : (0 : Int) ≤ 65535)

set_option maxHeartbeats 12800000 in
theorem ntGetS_any {w0 : World} (w : World) (B p : Nat) (v : Value) (st : PSt) (h : EyL w0 w B p v st) (hw0 : w0.heap.size ≤ w.heap.size) :
    Calls Try.prog 165 #[.pointer (some ⟨p, 0, none⟩), .func (.func 166) #[] #[]] w (GetL KSz 164 szC.g w0 w B p v st) := by
  have HW0 := hid hw0
  have HP := hid h.lt
  have hb : Byt st.1 := h.bytes
  have hlo := numE_lowB (st := st) hb 2
  have hhi := cnt_le2 hb
  have H := hid h
  obtain ⟨R, hR⟩ : ∃ R, R = lsG szC.g st := ⟨_, rfl⟩
  unfold GetL
  rw [← hR]
  unfold lsG at hR
  obtain ⟨x1, s1, e1⟩ : ∃ x s, numE 2 st = (x, s) := ⟨_, _, rfl⟩
  rw [e1] at hR hlo hhi
  simp only at hR hlo hhi
  obtain ⟨c, rfl⟩ := Int.eq_ofNat_of_zero_le hlo
  rw [Int.toNat_natCast] at hR
  have N1 := hid e1
  have HR := hid hR
  clear h hw0 hb hlo hR e1
  go_enter Try.func165, Try.ntmps165
  go_wp2_with fail
  have A := H.out.num 2
  rw [N1.out] at A
  refine A.mono ?_
  rintro e w2 ⟨rfl, h2, k2⟩
  have E2 := hid h2
  have K2 := hid k2
  clear A h2 k2
  by_cases hbig : (4000 : Int) < (c : Int)
  · have HBG := hid hbig
    have d1 : decide ((c : Int) ≤ 4000) = false := by simp; omega
    clear hbig
    go_wp2_with fail
    refine (ntMust_any _ false 3).mono ?_
    rintro e _ ⟨rfl, ⟨h, _⟩ | ⟨h, rfl⟩⟩
    · exact absurd h (by decide)
    · clear h
      unfold gaveUp
      go_wp2_with fail
      have e0 : R.2.2 = 3 := by rw [HR.out, if_pos HBG.out]
      refine ⟨rfl, K2.out, Or.inr ?_⟩
      rw [e0]
      exact ⟨by decide, rfl⟩
  have HC := hid (show c ≤ 4000 by omega)
  have d1 : decide ((c : Int) ≤ 4000) = true := by simp; omega
  have HR2 := hid (show R = itG szC.g s1 c by rw [HR.out, if_neg (by have := HC.out; omega)])
  clear hbig
  go_wp2_with fail
  refine (ntMust_any _ true 3).mono ?_
  rintro e _ ⟨rfl, ⟨_, rfl⟩ | ⟨h, _⟩⟩
  case inr => exact absurd rfl h
  clear d1
  go_wp2_with fail
  go_loopw [6, 15] (fun lv iv wr => ∃ (k : Nat) (a : Option Addr) (cp : Nat), k ≤ c ∧ iv = .int .i64 k ∧ lv = .slice a (itG szC.g s1 k).1.length cp ∧ Hid (OwnT KSz 164 wr w.heap.size (.slice a (itG szC.g s1 k).1.length cp) (itG szC.g s1 k).1) ∧ Hid (EyL w0 wr B p v (itG szC.g s1 k).2) ∧ Hid (Keeps [p] w wr)) (fun _ iv _ => c - (intOf iv).toNat)
  case atStart => exact ⟨0, none, 0, Nat.zero_le _, rfl, rfl, hid (OwnT.nil _ _ _ _), E2, K2⟩
  case round =>
    obtain ⟨k, a, cp, hk, rfl, rfl, OW, HE, KE⟩ := hrel
    have HLK := hid (itG_len szC.g s1 k)
    obtain ⟨l, hl⟩ : ∃ z, z = (itG szC.g s1 k).1 := ⟨_, rfl⟩
    obtain ⟨st2, hst2⟩ : ∃ z, z = (itG szC.g s1 k).2 := ⟨_, rfl⟩
    have HIT := hid (show itG szC.g s1 k = (l, st2) from Prod.ext hl.symm hst2.symm)
    rw [← hl] at OW HLK ⊢
    rw [← hst2] at HE
    clear hl hst2
    by_cases hlt : k < c
    · have hk4 : k < 4000 := by have := HC.out; omega
      have HG := ntGet1S_any wr B p v st2 HE.out (Nat.le_trans HW0.out KE.out.size)
      go_wp2_with fail
      refine HG.mono ?_
      rintro e w4 ⟨x, why, rfl, k4, hwhy, hgood⟩
      have ka : Keeps [] w4 (w4.alloc (.cells (KSz.cells x).toArray 164)) := (Keeps.refl [] w4).alloc _
      have RA := hid (krange_new w4 (KSz.cells x) 164)
      have KA := hid (k4.trans (ka.mono (by simp)))
      have K4 := hid (KE.out.trans KA.out)
      have O4 := hid (OW.out.keep KA.out (fun b hb => by simp at hb; subst hb; exact HP.out))
      have HWHY := hid hwhy
      have HGOOD := hid hgood
      have HS4 := hid (show w4.heap.size < (w4.alloc (.cells (KSz.cells x).toArray 164)).heap.size by simp)
      have HB4 := hid (show w.heap.size ≤ w4.heap.size from Nat.le_trans KE.out.size k4.size)
      have KH := hid ka
      clear HG k4 ka hwhy hgood
      go_wp2_with (first | (refine wpList_allocT cSz rfl rfl ?_) | (refine wpList_newT cSz rfl w4 _ _ rfl rfl rfl x rfl ?_; refine Hid.out ?_) | fail)
      refine hid ?_
      obtain ⟨w5, hw5⟩ : ∃ z, z = w4.alloc (.cells (KSz.cells x).toArray 164) := ⟨_, rfl⟩
      rw [← hw5] at RA KA K4 O4 HS4 KH ⊢
      clear hw5
      go_wp2_with fail
      refine (ntPass_any w5 why).mono ?_
      rintro e _ ⟨rfl, ⟨hw, rfl⟩ | ⟨hw, rfl⟩⟩
      · obtain ⟨hx, ey⟩ := HGOOD.out hw
        have E5 := hid (ey.more KH.out)
        have NX := hid (show itG szC.g s1 (k + 1) = (l ++ [x], (szC.g st2).2) by rw [itG_succ, HIT.out, hx])
        clear hx ey hw
        have k5 : Keeps [] w5 (w5.alloc (.cells (KSz.cells x).toArray 164)) := (Keeps.refl [] w5).alloc _
        obtain ⟨a', c', w6, hrun, o6, k6, _⟩ := append_ls cSz (O4.out.later k5) _ 1 1 (one_ls w5 x 164) (by have := HLK.out; simp; omega) (by have := K4.out.size; have := k5.size; omega) 85
        have O6 := hid o6
        have E6 := hid (show EyL w0 w6 B p v (szC.g st2).2 from by
          obtain ⟨v2, he, hs, hof⟩ := E5.out
          refine ⟨v2, (he.keep k5 (by simp) (by intro _ _ _ _ _; simp)).keep k6 ?_ ?_, hs, hof⟩
          · intro hm
            have := (O4.out.blk p (by simpa using hm)).1
            have := HP.out
            omega
          · cases hob : (Value.slice a l.length cp).ownBlock with
            | none => intro _ _ _ _ _; simp
            | some g => exact hof g (by have := (O4.out.blk g hob).1; have := HW0.out; omega))
        have K6 := hid ((K4.out.trans (k5.mono (by simp))).trans' k6 (fun i hi hm => by have := (O4.out.blk i (by simpa using hm)).1; omega))
        have RUN := hid hrun
        clear hrun o6 k6 k5
        go_wp2_with (first | (refine wpList_loadT cSz rfl _ rfl w4.heap.size 0 rfl x RA.out ?_) | (refine wpList_is rfl _ _ (exec_oneT cSz _ x rfl rfl) ?_) | (at_builtin; refine wpList_is rfl _ _ (exec_appendT 85 _ _ rfl rfl rfl RUN.out) ?_; refine Hid.out ?_) | fail)
        refine hid ?_
        go_wp2_with fail
        go_roundw
        case rel =>
          refine ⟨k + 1, a', c', by omega, by go_num, ?_, ?_, ?_, K6⟩
          · rw [NX.out]; simp
          · rw [NX.out]; have := O6.out; exact hid (by simpa using this)
          · rw [NX.out]; exact E6
        case measure => simp [intOf]; omega
      · have HW := hid hw
        clear hw
        unfold gaveUp
        go_wp2_with fail
        have e0 : R.2.2 = why := by
          have e1 : (itG szC.g s1 (k + 1)).2.2 = why := by rw [itG_succ, HIT.out]; exact HWHY.out.symm
          have e2 := it_stop (c := szC) szC_ok (st := s1) (k := k + 1) (by rw [e1]; exact HW.out) (c - (k + 1))
          rw [show k + 1 + (c - (k + 1)) = c by omega] at e2
          rw [HR2.out, e2, e1]
        refine ⟨rfl, K4.out, Or.inr ?_⟩
        rw [e0]
        exact ⟨HW.out, rfl⟩
    · obtain rfl : k = c := by omega
      have HRE := hid (show R = (l, st2) by rw [HR2.out, HIT.out])
      go_wp2_with fail
      go_ret
      rw [HRE.out]
      exact ⟨KE.out, Or.inl ⟨a, cp, rfl, OW.out, HE.out⟩⟩
set_option maxHeartbeats 12800000 in
theorem ntGetE_any {w0 : World} (w : World) (B p : Nat) (v : Value) (st : PSt) (h : EyL w0 w B p v st) (hw0 : w0.heap.size ≤ w.heap.size) :
    Calls Try.prog 150 #[.pointer (some ⟨p, 0, none⟩), .func (.func 151) #[] #[]] w (GetL KEnt 106 enC.g w0 w B p v st) := by
  have HW0 := hid hw0
  have HP := hid h.lt
  have hb : Byt st.1 := h.bytes
  have hlo := numE_lowB (st := st) hb 2
  have hhi := cnt_le2 hb
  have H := hid h
  obtain ⟨R, hR⟩ : ∃ R, R = lsG enC.g st := ⟨_, rfl⟩
  unfold GetL
  rw [← hR]
  unfold lsG at hR
  obtain ⟨x1, s1, e1⟩ : ∃ x s, numE 2 st = (x, s) := ⟨_, _, rfl⟩
  rw [e1] at hR hlo hhi
  simp only at hR hlo hhi
  obtain ⟨c, rfl⟩ := Int.eq_ofNat_of_zero_le hlo
  rw [Int.toNat_natCast] at hR
  have N1 := hid e1
  have HR := hid hR
  clear h hw0 hb hlo hR e1
  go_enter Try.func150, Try.ntmps150
  go_wp2_with fail
  have A := H.out.num 2
  rw [N1.out] at A
  refine A.mono ?_
  rintro e w2 ⟨rfl, h2, k2⟩
  have E2 := hid h2
  have K2 := hid k2
  clear A h2 k2
  by_cases hbig : (4000 : Int) < (c : Int)
  · have HBG := hid hbig
    have d1 : decide ((c : Int) ≤ 4000) = false := by simp; omega
    clear hbig
    go_wp2_with fail
    refine (ntMust_any _ false 3).mono ?_
    rintro e _ ⟨rfl, ⟨h, _⟩ | ⟨h, rfl⟩⟩
    · exact absurd h (by decide)
    · clear h
      unfold gaveUp
      go_wp2_with fail
      have e0 : R.2.2 = 3 := by rw [HR.out, if_pos HBG.out]
      refine ⟨rfl, K2.out, Or.inr ?_⟩
      rw [e0]
      exact ⟨by decide, rfl⟩
  have HC := hid (show c ≤ 4000 by omega)
  have d1 : decide ((c : Int) ≤ 4000) = true := by simp; omega
  have HR2 := hid (show R = itG enC.g s1 c by rw [HR.out, if_neg (by have := HC.out; omega)])
  clear hbig
  go_wp2_with fail
  refine (ntMust_any _ true 3).mono ?_
  rintro e _ ⟨rfl, ⟨_, rfl⟩ | ⟨h, _⟩⟩
  case inr => exact absurd rfl h
  clear d1
  go_wp2_with fail
  go_loopw [6, 15] (fun lv iv wr => ∃ (k : Nat) (a : Option Addr) (cp : Nat), k ≤ c ∧ iv = .int .i64 k ∧ lv = .slice a (itG enC.g s1 k).1.length cp ∧ Hid (OwnT KEnt 106 wr w.heap.size (.slice a (itG enC.g s1 k).1.length cp) (itG enC.g s1 k).1) ∧ Hid (EyL w0 wr B p v (itG enC.g s1 k).2) ∧ Hid (Keeps [p] w wr)) (fun _ iv _ => c - (intOf iv).toNat)
  case atStart => exact ⟨0, none, 0, Nat.zero_le _, rfl, rfl, hid (OwnT.nil _ _ _ _), E2, K2⟩
  case round =>
    obtain ⟨k, a, cp, hk, rfl, rfl, OW, HE, KE⟩ := hrel
    have HLK := hid (itG_len enC.g s1 k)
    obtain ⟨l, hl⟩ : ∃ z, z = (itG enC.g s1 k).1 := ⟨_, rfl⟩
    obtain ⟨st2, hst2⟩ : ∃ z, z = (itG enC.g s1 k).2 := ⟨_, rfl⟩
    have HIT := hid (show itG enC.g s1 k = (l, st2) from Prod.ext hl.symm hst2.symm)
    rw [← hl] at OW HLK ⊢
    rw [← hst2] at HE
    clear hl hst2
    by_cases hlt : k < c
    · have hk4 : k < 4000 := by have := HC.out; omega
      have HG := ntGet1E_any wr B p v st2 HE.out (Nat.le_trans HW0.out KE.out.size)
      go_wp2_with fail
      refine HG.mono ?_
      rintro e w4 ⟨x, why, rfl, k4, hwhy, hgood⟩
      have ka : Keeps [] w4 (w4.alloc (.cells (KEnt.cells x).toArray 106)) := (Keeps.refl [] w4).alloc _
      have RA := hid (krange_new w4 (KEnt.cells x) 106)
      have KA := hid (k4.trans (ka.mono (by simp)))
      have K4 := hid (KE.out.trans KA.out)
      have O4 := hid (OW.out.keep KA.out (fun b hb => by simp at hb; subst hb; exact HP.out))
      have HWHY := hid hwhy
      have HGOOD := hid hgood
      have HS4 := hid (show w4.heap.size < (w4.alloc (.cells (KEnt.cells x).toArray 106)).heap.size by simp)
      have HB4 := hid (show w.heap.size ≤ w4.heap.size from Nat.le_trans KE.out.size k4.size)
      have KH := hid ka
      clear HG k4 ka hwhy hgood
      go_wp2_with (first | (refine wpList_allocT cEnt rfl rfl ?_) | (refine wpList_newT cEnt rfl w4 _ _ rfl rfl rfl x rfl ?_; refine Hid.out ?_) | fail)
      refine hid ?_
      obtain ⟨w5, hw5⟩ : ∃ z, z = w4.alloc (.cells (KEnt.cells x).toArray 106) := ⟨_, rfl⟩
      rw [← hw5] at RA KA K4 O4 HS4 KH ⊢
      clear hw5
      go_wp2_with fail
      refine (ntPass_any w5 why).mono ?_
      rintro e _ ⟨rfl, ⟨hw, rfl⟩ | ⟨hw, rfl⟩⟩
      · obtain ⟨hx, ey⟩ := HGOOD.out hw
        have E5 := hid (ey.more KH.out)
        have NX := hid (show itG enC.g s1 (k + 1) = (l ++ [x], (enC.g st2).2) by rw [itG_succ, HIT.out, hx])
        clear hx ey hw
        have k5 : Keeps [] w5 (w5.alloc (.cells (KEnt.cells x).toArray 106)) := (Keeps.refl [] w5).alloc _
        obtain ⟨a', c', w6, hrun, o6, k6, _⟩ := append_ls cEnt (O4.out.later k5) _ 1 1 (one_ls w5 x 106) (by have := HLK.out; simp; omega) (by have := K4.out.size; have := k5.size; omega) 77
        have O6 := hid o6
        have E6 := hid (show EyL w0 w6 B p v (enC.g st2).2 from by
          obtain ⟨v2, he, hs, hof⟩ := E5.out
          refine ⟨v2, (he.keep k5 (by simp) (by intro _ _ _ _ _; simp)).keep k6 ?_ ?_, hs, hof⟩
          · intro hm
            have := (O4.out.blk p (by simpa using hm)).1
            have := HP.out
            omega
          · cases hob : (Value.slice a l.length cp).ownBlock with
            | none => intro _ _ _ _ _; simp
            | some g => exact hof g (by have := (O4.out.blk g hob).1; have := HW0.out; omega))
        have K6 := hid ((K4.out.trans (k5.mono (by simp))).trans' k6 (fun i hi hm => by have := (O4.out.blk i (by simpa using hm)).1; omega))
        have RUN := hid hrun
        clear hrun o6 k6 k5
        go_wp2_with (first | (refine wpList_loadT cEnt rfl _ rfl w4.heap.size 0 rfl x RA.out ?_) | (refine wpList_is rfl _ _ (exec_oneT cEnt _ x rfl rfl) ?_) | (at_builtin; refine wpList_is rfl _ _ (exec_appendT 77 _ _ rfl rfl rfl RUN.out) ?_; refine Hid.out ?_) | fail)
        refine hid ?_
        go_wp2_with fail
        go_roundw
        case rel =>
          refine ⟨k + 1, a', c', by omega, by go_num, ?_, ?_, ?_, K6⟩
          · rw [NX.out]; simp
          · rw [NX.out]; have := O6.out; exact hid (by simpa using this)
          · rw [NX.out]; exact E6
        case measure => simp [intOf]; omega
      · have HW := hid hw
        clear hw
        unfold gaveUp
        go_wp2_with fail
        have e0 : R.2.2 = why := by
          have e1 : (itG enC.g s1 (k + 1)).2.2 = why := by rw [itG_succ, HIT.out]; exact HWHY.out.symm
          have e2 := it_stop (c := enC) enC_ok (st := s1) (k := k + 1) (by rw [e1]; exact HW.out) (c - (k + 1))
          rw [show k + 1 + (c - (k + 1)) = c by omega] at e2
          rw [HR2.out, e2, e1]
        refine ⟨rfl, K4.out, Or.inr ?_⟩
        rw [e0]
        exact ⟨HW.out, rfl⟩
    · obtain rfl : k = c := by omega
      have HRE := hid (show R = (l, st2) by rw [HR2.out, HIT.out])
      go_wp2_with fail
      go_ret
      rw [HRE.out]
      exact ⟨KE.out, Or.inl ⟨a, cp, rfl, OW.out, HE.out⟩⟩
set_option maxHeartbeats 12800000 in
theorem ntGetD_any {w0 : World} (w : World) (B p : Nat) (v : Value) (st : PSt) (h : EyL w0 w B p v st) (hw0 : w0.heap.size ≤ w.heap.size) :
    Calls Try.prog 167 #[.pointer (some ⟨p, 0, none⟩), .func (.func 168) #[] #[]] w (GetL KDl 169 dlC.g w0 w B p v st) := by
  have HW0 := hid hw0
  have HP := hid h.lt
  have hb : Byt st.1 := h.bytes
  have hlo := numE_lowB (st := st) hb 2
  have hhi := cnt_le2 hb
  have H := hid h
  obtain ⟨R, hR⟩ : ∃ R, R = lsG dlC.g st := ⟨_, rfl⟩
  unfold GetL
  rw [← hR]
  unfold lsG at hR
  obtain ⟨x1, s1, e1⟩ : ∃ x s, numE 2 st = (x, s) := ⟨_, _, rfl⟩
  rw [e1] at hR hlo hhi
  simp only at hR hlo hhi
  obtain ⟨c, rfl⟩ := Int.eq_ofNat_of_zero_le hlo
  rw [Int.toNat_natCast] at hR
  have N1 := hid e1
  have HR := hid hR
  clear h hw0 hb hlo hR e1
  go_enter Try.func167, Try.ntmps167
  go_wp2_with fail
  have A := H.out.num 2
  rw [N1.out] at A
  refine A.mono ?_
  rintro e w2 ⟨rfl, h2, k2⟩
  have E2 := hid h2
  have K2 := hid k2
  clear A h2 k2
  by_cases hbig : (4000 : Int) < (c : Int)
  · have HBG := hid hbig
    have d1 : decide ((c : Int) ≤ 4000) = false := by simp; omega
    clear hbig
    go_wp2_with fail
    refine (ntMust_any _ false 3).mono ?_
    rintro e _ ⟨rfl, ⟨h, _⟩ | ⟨h, rfl⟩⟩
    · exact absurd h (by decide)
    · clear h
      unfold gaveUp
      go_wp2_with fail
      have e0 : R.2.2 = 3 := by rw [HR.out, if_pos HBG.out]
      refine ⟨rfl, K2.out, Or.inr ?_⟩
      rw [e0]
      exact ⟨by decide, rfl⟩
  have HC := hid (show c ≤ 4000 by omega)
  have d1 : decide ((c : Int) ≤ 4000) = true := by simp; omega
  have HR2 := hid (show R = itG dlC.g s1 c by rw [HR.out, if_neg (by have := HC.out; omega)])
  clear hbig
  go_wp2_with fail
  refine (ntMust_any _ true 3).mono ?_
  rintro e _ ⟨rfl, ⟨_, rfl⟩ | ⟨h, _⟩⟩
  case inr => exact absurd rfl h
  clear d1
  go_wp2_with fail
  go_loopw [6, 15] (fun lv iv wr => ∃ (k : Nat) (a : Option Addr) (cp : Nat), k ≤ c ∧ iv = .int .i64 k ∧ lv = .slice a (itG dlC.g s1 k).1.length cp ∧ Hid (OwnT KDl 169 wr w.heap.size (.slice a (itG dlC.g s1 k).1.length cp) (itG dlC.g s1 k).1) ∧ Hid (EyL w0 wr B p v (itG dlC.g s1 k).2) ∧ Hid (Keeps [p] w wr)) (fun _ iv _ => c - (intOf iv).toNat)
  case atStart => exact ⟨0, none, 0, Nat.zero_le _, rfl, rfl, hid (OwnT.nil _ _ _ _), E2, K2⟩
  case round =>
    obtain ⟨k, a, cp, hk, rfl, rfl, OW, HE, KE⟩ := hrel
    have HLK := hid (itG_len dlC.g s1 k)
    obtain ⟨l, hl⟩ : ∃ z, z = (itG dlC.g s1 k).1 := ⟨_, rfl⟩
    obtain ⟨st2, hst2⟩ : ∃ z, z = (itG dlC.g s1 k).2 := ⟨_, rfl⟩
    have HIT := hid (show itG dlC.g s1 k = (l, st2) from Prod.ext hl.symm hst2.symm)
    rw [← hl] at OW HLK ⊢
    rw [← hst2] at HE
    clear hl hst2
    by_cases hlt : k < c
    · have hk4 : k < 4000 := by have := HC.out; omega
      have HG := ntGet1D_any wr B p v st2 HE.out (Nat.le_trans HW0.out KE.out.size)
      go_wp2_with fail
      refine HG.mono ?_
      rintro e w4 ⟨x, why, rfl, k4, hwhy, hgood⟩
      have ka : Keeps [] w4 (w4.alloc (.cells (KDl.cells x).toArray 169)) := (Keeps.refl [] w4).alloc _
      have RA := hid (krange_new w4 (KDl.cells x) 169)
      have KA := hid (k4.trans (ka.mono (by simp)))
      have K4 := hid (KE.out.trans KA.out)
      have O4 := hid (OW.out.keep KA.out (fun b hb => by simp at hb; subst hb; exact HP.out))
      have HWHY := hid hwhy
      have HGOOD := hid hgood
      have HS4 := hid (show w4.heap.size < (w4.alloc (.cells (KDl.cells x).toArray 169)).heap.size by simp)
      have HB4 := hid (show w.heap.size ≤ w4.heap.size from Nat.le_trans KE.out.size k4.size)
      have KH := hid ka
      clear HG k4 ka hwhy hgood
      go_wp2_with (first | (refine wpList_allocT cDl rfl rfl ?_) | (refine wpList_newT cDl rfl w4 _ _ rfl rfl rfl x rfl ?_; refine Hid.out ?_) | fail)
      refine hid ?_
      obtain ⟨w5, hw5⟩ : ∃ z, z = w4.alloc (.cells (KDl.cells x).toArray 169) := ⟨_, rfl⟩
      rw [← hw5] at RA KA K4 O4 HS4 KH ⊢
      clear hw5
      go_wp2_with fail
      refine (ntPass_any w5 why).mono ?_
      rintro e _ ⟨rfl, ⟨hw, rfl⟩ | ⟨hw, rfl⟩⟩
      · obtain ⟨hx, ey⟩ := HGOOD.out hw
        have E5 := hid (ey.more KH.out)
        have NX := hid (show itG dlC.g s1 (k + 1) = (l ++ [x], (dlC.g st2).2) by rw [itG_succ, HIT.out, hx])
        clear hx ey hw
        have k5 : Keeps [] w5 (w5.alloc (.cells (KDl.cells x).toArray 169)) := (Keeps.refl [] w5).alloc _
        obtain ⟨a', c', w6, hrun, o6, k6, _⟩ := append_ls cDl (O4.out.later k5) _ 1 1 (one_ls w5 x 169) (by have := HLK.out; simp; omega) (by have := K4.out.size; have := k5.size; omega) 86
        have O6 := hid o6
        have E6 := hid (show EyL w0 w6 B p v (dlC.g st2).2 from by
          obtain ⟨v2, he, hs, hof⟩ := E5.out
          refine ⟨v2, (he.keep k5 (by simp) (by intro _ _ _ _ _; simp)).keep k6 ?_ ?_, hs, hof⟩
          · intro hm
            have := (O4.out.blk p (by simpa using hm)).1
            have := HP.out
            omega
          · cases hob : (Value.slice a l.length cp).ownBlock with
            | none => intro _ _ _ _ _; simp
            | some g => exact hof g (by have := (O4.out.blk g hob).1; have := HW0.out; omega))
        have K6 := hid ((K4.out.trans (k5.mono (by simp))).trans' k6 (fun i hi hm => by have := (O4.out.blk i (by simpa using hm)).1; omega))
        have RUN := hid hrun
        clear hrun o6 k6 k5
        go_wp2_with (first | (refine wpList_loadT cDl rfl _ rfl w4.heap.size 0 rfl x RA.out ?_) | (refine wpList_is rfl _ _ (exec_oneT cDl _ x rfl rfl) ?_) | (at_builtin; refine wpList_is rfl _ _ (exec_appendT 86 _ _ rfl rfl rfl RUN.out) ?_; refine Hid.out ?_) | fail)
        refine hid ?_
        go_wp2_with fail
        go_roundw
        case rel =>
          refine ⟨k + 1, a', c', by omega, by go_num, ?_, ?_, ?_, K6⟩
          · rw [NX.out]; simp
          · rw [NX.out]; have := O6.out; exact hid (by simpa using this)
          · rw [NX.out]; exact E6
        case measure => simp [intOf]; omega
      · have HW := hid hw
        clear hw
        unfold gaveUp
        go_wp2_with fail
        have e0 : R.2.2 = why := by
          have e1 : (itG dlC.g s1 (k + 1)).2.2 = why := by rw [itG_succ, HIT.out]; exact HWHY.out.symm
          have e2 := it_stop (c := dlC) dlC_ok (st := s1) (k := k + 1) (by rw [e1]; exact HW.out) (c - (k + 1))
          rw [show k + 1 + (c - (k + 1)) = c by omega] at e2
          rw [HR2.out, e2, e1]
        refine ⟨rfl, K4.out, Or.inr ?_⟩
        rw [e0]
        exact ⟨HW.out, rfl⟩
    · obtain rfl : k = c := by omega
      have HRE := hid (show R = (l, st2) by rw [HR2.out, HIT.out])
      go_wp2_with fail
      go_ret
      rw [HRE.out]
      exact ⟨KE.out, Or.inl ⟨a, cp, rfl, OW.out, HE.out⟩⟩
end Go.Proofs.Ytjohikekhgcepaa
