/- note: many of one kind are read by the code (getAll, which gives up). -/
import Derived.Test.YtoglcohdanpciaaNtF
namespace Go.Proofs.Ytoglcohdanpciaa
open Go.RowKit Go.Shelf
set_option maxRecDepth 100000
set_option linter.unusedSimpArgs false
set_option linter.unusedVariables false

theorem bldDl (w : World) (x : Dl) : (Instr.buildSlice 80 1 #[(0, KDl.v x)]).run Try.prog w = .ok (.slice (some ⟨w.heap.size, 0, none⟩) 1 1) (w.alloc (.cells (KDl.cells x).toArray 149)) := by
  obtain ⟨ie, hie, hz, hs, _⟩ := info_parts iDelta3
  refine run_buildSlice w _ _ 1 _ _ ie _ Try.underlying80 hie hz (by rw [hs]; decide) (by rw [hs]; decide) ?_
  rw [hs]
  have e : (Array.range (1 * 14)) = #[0, 1, 2, 3, 4, 5, 6, 7, 8, 9, 10, 11, 12, 13] := rfl
  have e2 : (dlV dZ).cells = dlA dZ := rfl
  have e3 : (KDl.v x).cells = dlA x := rfl
  have e4 : (KDl.cells x).toArray = dlA x := dlA_is x
  rw [e4]
  simp only [Instr.fill, e, e2, e3, dlA]
  simp
theorem oneDl : ∀ x, ∀ u ∈ KDl.cells x, u.oneCell' = true := by
  intro x u hu
  have := dcells_one x
  rw [Array.all_eq_true_iff_forall_mem] at this
  have hu2 : u ∈ x.cells := hu
  exact this u (by simpa using hu2)
theorem cDl : KDl.Ty 149 80 112 := ⟨fun _ => rfl, oneDl, by decide, by decide, by kernel_rfl, by kernel_rfl, by kernel_rfl, Try.underlying80, ⟨_, Try.underlying149, rfl⟩, bldDl⟩
/-- What a reader of many answers: they, or it gave up. -/
def GetL {α : Type} (K : Kn α) (T : TypeId) (g : PSt → α × PSt) (w0 w : World) (B p : Nat) (v : Value) (st : PSt) (e : Ending) (w' : World) : Prop :=
  Keeps [p] w w' ∧ ((∃ a cp, e = .returned (.slice a (lsG g st).1.length cp) ∧ OwnT K T w' w.heap.size (.slice a (lsG g st).1.length cp) (lsG g st).1 ∧ EyL w0 w' B p v (lsG g st).2) ∨ ((lsG g st).2.2 ≠ 0 ∧ e = gaveUp (lsG g st).2.2))
theorem cnt_le2 {st : PSt} (hb : Byt st.1) : (numE 2 st).1 ≤ 65535 := by
  by_cases h : st.2 = 0
  · obtain ⟨zs, b⟩ := st
    simp only at h hb
    subst h
    rcases Nat.lt_or_ge zs.length 2 with h2 | h2
    · rw [numE_short (n := 2) 2 rfl (by decide) (by decide) h2]; exact (by decide : (0 : Int) ≤ 65535)
    · have hz : (numE 2 (zs, 0)).2.2 = 0 := by
        unfold numE after rdNum
        rw [if_neg (by simp), if_neg (by decide), if_neg (by show ¬ zs.length < 2; omega)]
      have := (numE_ok (n := 2) 2 rfl (by decide) (by decide) hb hz).2.2.2.2
      have h5 : (numE 2 (zs, 0)).1 < 65536 := this
      omega
  · rw [numE_stay 2 h]; exact (by decide : (0 : Int) ≤ 65535)

theorem giv_ret {α : Type} {K : Kn α} {T TS : TypeId} {BB : Nat} {fn : Func} {p : Tmp} (hr : fn.results = #[.cell p T]) (R : K.Ty T TS BB) {tmps : Array Value} {w : World} {b : Nat} {x : α}
    (hp : tmps.getD p undef = .pointer (some ⟨b, 0, none⟩)) (hx : w.rangeAt b 0 (K.cells x)) : (results fn tmps).run Try.prog w = .ok (K.v x) w := by
  have hp' : tmps[p]?.getD undef = .pointer (some ⟨b, 0, none⟩) := by simpa using hp
  obtain ⟨dd, hdd, hrow⟩ := R.str
  have hv : (loadVar T ⟨b, 0, none⟩).run Try.prog w = .ok (K.v x) w := run_loadVar_mid w b 0 T (K.cells x) dd hx hdd hrow (by rw [R.size, R.len])
  simp [results, hr, hp', asAddr, hv]
set_option maxHeartbeats 3200000 in
/-- Given, of a thing: it, or it gave up. -/
theorem gvSz_any (w : World) (x : Sz) (y : Int) : Calls Try.prog 181 #[KSz.v x, .int .i64 y] w fun e w' => Keeps [] w w' ∧ ((y = 0 ∧ e = .returned (KSz.v x)) ∨ (y ≠ 0 ∧ e = gaveUp y)) := by
  have ka : Keeps [] w (w.alloc (.cells (KSz.cells x).toArray 144)) := (Keeps.refl [] w).alloc _
  have kb : Keeps [] w ((w.alloc (.cells (KSz.cells x).toArray 144)).alloc (.cells (KSz.cells KSz.z).toArray 144)) := ka.alloc _
  have RA := hid (krange_keep (krange_new w (KSz.cells x) 144) ((Keeps.refl [] _).alloc (.cells (KSz.cells KSz.z).toArray 144)) (by simp))
  have FB := heap_alloc_new (w.alloc (.cells (KSz.cells x).toArray 144)) (.cells (KSz.cells KSz.z).toArray 144)
  rw [World.size_alloc] at FB
  have FB := hid FB
  obtain ⟨q1, q2⟩ := setRow_keepsN (cs := (KSz.cells x).toArray) FB.out
  have Q1 := hid q1
  have KC := hid (kb.trans' q2 (S := []) (fun i hi hm => by simp at hm; omega))
  clear q1 q2
  have KB := hid kb
  clear ka kb
  go_enter Try.func181, Try.ntmps181
  go_wp2_with (first | (refine wpList_boxT KSz rfl _ rfl x rfl ?_) | (refine wpList_allocT cSz rfl rfl ?_; try simp only [World.size_alloc]) | fail)
  refine (ntPass_any _ y).mono ?_
  rintro e _ ⟨rfl, ⟨h, rfl⟩ | ⟨h, rfl⟩⟩
  · have H := hid h
    clear h
    go_wp2_with (first | (refine wpList_loadT cSz rfl _ rfl w.heap.size 0 rfl x RA.out ?_) | (refine wpList_noval rfl _ (exec_storeWhole 144 _ _ rfl (w.heap.size + 1) (KSz.cells KSz.z).toArray (KSz.cells x) FB.out rfl rfl rfl (by kernel_rfl) (cSz.one x)) ?_) | fail)
    refine bodyPost_ret (giv_ret (K := KSz) rfl cSz rfl (range_ofN Q1.out rfl)) rfl ?_
    exact ⟨KC.out, Or.inl ⟨H.out, rfl⟩⟩
  · have H := hid h
    clear h
    unfold gaveUp
    go_wp2_with fail
    exact ⟨rfl, KB.out, Or.inr ⟨H.out, rfl⟩⟩
set_option maxHeartbeats 3200000 in
/-- Given, of a thing: it, or it gave up. -/
theorem gvEn_any (w : World) (x : Ent) (y : Int) : Calls Try.prog 171 #[KEnt.v x, .int .i64 y] w fun e w' => Keeps [] w w' ∧ ((y = 0 ∧ e = .returned (KEnt.v x)) ∨ (y ≠ 0 ∧ e = gaveUp y)) := by
  have ka : Keeps [] w (w.alloc (.cells (KEnt.cells x).toArray 102)) := (Keeps.refl [] w).alloc _
  have kb : Keeps [] w ((w.alloc (.cells (KEnt.cells x).toArray 102)).alloc (.cells (KEnt.cells KEnt.z).toArray 102)) := ka.alloc _
  have RA := hid (krange_keep (krange_new w (KEnt.cells x) 102) ((Keeps.refl [] _).alloc (.cells (KEnt.cells KEnt.z).toArray 102)) (by simp))
  have FB := heap_alloc_new (w.alloc (.cells (KEnt.cells x).toArray 102)) (.cells (KEnt.cells KEnt.z).toArray 102)
  rw [World.size_alloc] at FB
  have FB := hid FB
  obtain ⟨q1, q2⟩ := setRow_keepsN (cs := (KEnt.cells x).toArray) FB.out
  have Q1 := hid q1
  have KC := hid (kb.trans' q2 (S := []) (fun i hi hm => by simp at hm; omega))
  clear q1 q2
  have KB := hid kb
  clear ka kb
  go_enter Try.func171, Try.ntmps171
  go_wp2_with (first | (refine wpList_boxT KEnt rfl _ rfl x rfl ?_) | (refine wpList_allocT cEnt rfl rfl ?_; try simp only [World.size_alloc]) | fail)
  refine (ntPass_any _ y).mono ?_
  rintro e _ ⟨rfl, ⟨h, rfl⟩ | ⟨h, rfl⟩⟩
  · have H := hid h
    clear h
    go_wp2_with (first | (refine wpList_loadT cEnt rfl _ rfl w.heap.size 0 rfl x RA.out ?_) | (refine wpList_noval rfl _ (exec_storeWhole 102 _ _ rfl (w.heap.size + 1) (KEnt.cells KEnt.z).toArray (KEnt.cells x) FB.out rfl rfl rfl (by kernel_rfl) (cEnt.one x)) ?_) | fail)
    refine bodyPost_ret (giv_ret (K := KEnt) rfl cEnt rfl (range_ofN Q1.out rfl)) rfl ?_
    exact ⟨KC.out, Or.inl ⟨H.out, rfl⟩⟩
  · have H := hid h
    clear h
    unfold gaveUp
    go_wp2_with fail
    exact ⟨rfl, KB.out, Or.inr ⟨H.out, rfl⟩⟩
set_option maxHeartbeats 3200000 in
/-- Given, of a thing: it, or it gave up. -/
theorem gvDl_any (w : World) (x : Dl) (y : Int) : Calls Try.prog 182 #[KDl.v x, .int .i64 y] w fun e w' => Keeps [] w w' ∧ ((y = 0 ∧ e = .returned (KDl.v x)) ∨ (y ≠ 0 ∧ e = gaveUp y)) := by
  have ka : Keeps [] w (w.alloc (.cells (KDl.cells x).toArray 149)) := (Keeps.refl [] w).alloc _
  have kb : Keeps [] w ((w.alloc (.cells (KDl.cells x).toArray 149)).alloc (.cells (KDl.cells KDl.z).toArray 149)) := ka.alloc _
  have RA := hid (krange_keep (krange_new w (KDl.cells x) 149) ((Keeps.refl [] _).alloc (.cells (KDl.cells KDl.z).toArray 149)) (by simp))
  have FB := heap_alloc_new (w.alloc (.cells (KDl.cells x).toArray 149)) (.cells (KDl.cells KDl.z).toArray 149)
  rw [World.size_alloc] at FB
  have FB := hid FB
  obtain ⟨q1, q2⟩ := setRow_keepsN (cs := (KDl.cells x).toArray) FB.out
  have Q1 := hid q1
  have KC := hid (kb.trans' q2 (S := []) (fun i hi hm => by simp at hm; omega))
  clear q1 q2
  have KB := hid kb
  clear ka kb
  go_enter Try.func182, Try.ntmps182
  go_wp2_with (first | (refine wpList_boxT KDl rfl _ rfl x rfl ?_) | (refine wpList_allocT cDl rfl rfl ?_; try simp only [World.size_alloc]) | fail)
  refine (ntPass_any _ y).mono ?_
  rintro e _ ⟨rfl, ⟨h, rfl⟩ | ⟨h, rfl⟩⟩
  · have H := hid h
    clear h
    go_wp2_with (first | (refine wpList_loadT cDl rfl _ rfl w.heap.size 0 rfl x RA.out ?_) | (refine wpList_noval rfl _ (exec_storeWhole 149 _ _ rfl (w.heap.size + 1) (KDl.cells KDl.z).toArray (KDl.cells x) FB.out rfl rfl rfl (by kernel_rfl) (cDl.one x)) ?_) | fail)
    refine bodyPost_ret (giv_ret (K := KDl) rfl cDl rfl (range_ofN Q1.out rfl)) rfl ?_
    exact ⟨KC.out, Or.inl ⟨H.out, rfl⟩⟩
  · have H := hid h
    clear h
    unfold gaveUp
    go_wp2_with fail
    exact ⟨rfl, KB.out, Or.inr ⟨H.out, rfl⟩⟩
set_option maxHeartbeats 12800000 in
theorem ntGetS_any {w0 : World} (w : World) (B p : Nat) (v : Value) (st : PSt) (h : EyL w0 w B p v st) (hw0 : w0.heap.size ≤ w.heap.size) :
    Calls Try.prog 146 #[.pointer (some ⟨p, 0, none⟩), .func (.func 147) #[] #[]] w (GetL KSz 144 szC.g w0 w B p v st) := by
  have HW0 := hid hw0
  have HP := hid h.lt
  have hb : Byt st.1 := h.bytes
  have hlo := numE_lowB (st := st) hb 2
  have hhi := cnt_le2 hb
  have H := hid h
  obtain ⟨R, hR⟩ : ∃ R, R = lsG szC.g st := ⟨_, rfl⟩
  unfold GetL
  rw [← hR]
  unfold lsG at hR
  obtain ⟨x1, s1, e1⟩ : ∃ x s, numE 2 st = (x, s) := ⟨_, _, rfl⟩
  rw [e1] at hR hlo hhi
  simp only at hR hlo hhi
  obtain ⟨c, rfl⟩ := Int.eq_ofNat_of_zero_le hlo
  rw [Int.toNat_natCast] at hR
  have N1 := hid e1
  have HR := hid hR
  clear h hw0 hb hlo hR e1
  go_enter Try.func146, Try.ntmps146
  go_wp2_with fail
  have A := H.out.num 2
  rw [N1.out] at A
  refine A.mono ?_
  rintro e w2 ⟨rfl, h2, k2⟩
  have E2 := hid h2
  have K2 := hid k2
  clear A h2 k2
  by_cases hbig : (4000 : Int) < (c : Int)
  · have HBG := hid hbig
    have d1 : decide ((c : Int) ≤ 4000) = false := by simp; omega
    clear hbig
    go_wp2_with fail
    refine (ntMust_any _ false 3).mono ?_
    rintro e _ ⟨rfl, ⟨h, _⟩ | ⟨h, rfl⟩⟩
    · exact absurd h (by decide)
    · clear h
      unfold gaveUp
      go_wp2_with fail
      have e0 : R.2.2 = 3 := by rw [HR.out, if_pos HBG.out]
      refine ⟨rfl, K2.out, Or.inr ?_⟩
      rw [e0]
      exact ⟨by decide, rfl⟩
  have HC := hid (show c ≤ 4000 by omega)
  have d1 : decide ((c : Int) ≤ 4000) = true := by simp; omega
  have HR2 := hid (show R = itG szC.g s1 c by rw [HR.out, if_neg (by have := HC.out; omega)])
  clear hbig
  go_wp2_with fail
  refine (ntMust_any _ true 3).mono ?_
  rintro e _ ⟨rfl, ⟨_, rfl⟩ | ⟨h, _⟩⟩
  case inr => exact absurd rfl h
  clear d1
  go_wp2_with fail
  go_loopw [6, 13] (fun lv iv wr => ∃ (k : Nat) (a : Option Addr) (cp : Nat), k ≤ c ∧ iv = .int .i64 k ∧ lv = .slice a (itG szC.g s1 k).1.length cp ∧ Hid (OwnT KSz 144 wr w.heap.size (.slice a (itG szC.g s1 k).1.length cp) (itG szC.g s1 k).1) ∧ Hid (EyL w0 wr B p v (itG szC.g s1 k).2) ∧ Hid (Keeps [p] w wr)) (fun _ iv _ => c - (intOf iv).toNat)
  case atStart => exact ⟨0, none, 0, Nat.zero_le _, rfl, rfl, hid (OwnT.nil _ _ _ _), E2, K2⟩
  case round =>
    obtain ⟨k, a, cp, hk, rfl, rfl, OW, HE, KE⟩ := hrel
    have HLK := hid (itG_len szC.g s1 k)
    obtain ⟨l, hl⟩ : ∃ z, z = (itG szC.g s1 k).1 := ⟨_, rfl⟩
    obtain ⟨st2, hst2⟩ : ∃ z, z = (itG szC.g s1 k).2 := ⟨_, rfl⟩
    have HIT := hid (show itG szC.g s1 k = (l, st2) from Prod.ext hl.symm hst2.symm)
    rw [← hl] at OW HLK ⊢
    rw [← hst2] at HE
    clear hl hst2
    by_cases hlt : k < c
    · have hk4 : k < 4000 := by have := HC.out; omega
      have HG := ntGet1S_any wr B p v st2 HE.out (Nat.le_trans HW0.out KE.out.size)
      go_wp2_with fail
      refine HG.mono ?_
      rintro e w4 ⟨x, why, rfl, k4, hwhy, hgood⟩
      have HWHY := hid hwhy
      have HGOOD := hid hgood
      have HB4 := hid (show w.heap.size ≤ w4.heap.size from Nat.le_trans KE.out.size k4.size)
      have K40 := hid (KE.out.trans k4)
      have O40 := hid (OW.out.keep k4 (fun b hb => by simp at hb; subst hb; exact HP.out))
      clear HG k4 hwhy hgood
      go_wp2_with fail
      refine (gvSz_any w4 x why).mono ?_
      rintro e w5 ⟨kh, ⟨hw, rfl⟩ | ⟨hw, rfl⟩⟩
      all_goals have KH := hid kh
      all_goals have K4 := hid (K40.out.trans (kh.mono (by simp)))
      all_goals have O4 := hid (O40.out.later kh)
      all_goals clear kh K40 O40
      · obtain ⟨hx, ey⟩ := HGOOD.out hw
        have E5 := hid (ey.more KH.out)
        have NX := hid (show itG szC.g s1 (k + 1) = (l ++ [x], (szC.g st2).2) by rw [itG_succ, HIT.out, hx])
        clear hx ey hw
        have k5 : Keeps [] w5 (w5.alloc (.cells (KSz.cells x).toArray 144)) := (Keeps.refl [] w5).alloc _
        obtain ⟨a', c', w6, hrun, o6, k6, _⟩ := append_ls cSz (O4.out.later k5) _ 1 1 (one_ls w5 x 144) (by have := HLK.out; simp; omega) (by have := K4.out.size; have := k5.size; omega) 79
        have O6 := hid o6
        have E6 := hid (show EyL w0 w6 B p v (szC.g st2).2 from by
          obtain ⟨v2, he, hs, hof⟩ := E5.out
          refine ⟨v2, (he.keep k5 (by simp) (by intro _ _ _ _ _; simp)).keep k6 ?_ ?_, hs, hof⟩
          · intro hm
            have := (O4.out.blk p (by simpa using hm)).1
            have := HP.out
            omega
          · cases hob : (Value.slice a l.length cp).ownBlock with
            | none => intro _ _ _ _ _; simp
            | some g => exact hof g (by have := (O4.out.blk g hob).1; have := HW0.out; omega))
        have K6 := hid ((K4.out.trans (k5.mono (by simp))).trans' k6 (fun i hi hm => by have := (O4.out.blk i (by simpa using hm)).1; omega))
        have RUN := hid hrun
        clear hrun o6 k6 k5
        go_wp2_with (first | (refine wpList_is rfl _ _ (exec_oneT cSz _ x rfl rfl) ?_) | (at_builtin; refine wpList_is rfl _ _ (exec_appendT 79 _ _ rfl rfl rfl RUN.out) ?_; refine Hid.out ?_) | fail)
        refine hid ?_
        go_wp2_with fail
        go_roundw
        case rel =>
          refine ⟨k + 1, a', c', by omega, by go_num, ?_, ?_, ?_, K6⟩
          · rw [NX.out]; simp
          · rw [NX.out]; have := O6.out; exact hid (by simpa using this)
          · rw [NX.out]; exact E6
        case measure => simp [intOf]; omega
      · have HW := hid hw
        clear hw
        unfold gaveUp
        go_wp2_with fail
        have e0 : R.2.2 = why := by
          have e1 : (itG szC.g s1 (k + 1)).2.2 = why := by rw [itG_succ, HIT.out]; exact HWHY.out.symm
          have e2 := it_stop (c := szC) szC_ok (st := s1) (k := k + 1) (by rw [e1]; exact HW.out) (c - (k + 1))
          rw [show k + 1 + (c - (k + 1)) = c by omega] at e2
          rw [HR2.out, e2, e1]
        refine ⟨rfl, K4.out, Or.inr ?_⟩
        rw [e0]
        exact ⟨HW.out, rfl⟩
    · obtain rfl : k = c := by omega
      have HRE := hid (show R = (l, st2) by rw [HR2.out, HIT.out])
      go_wp2_with fail
      go_ret
      rw [HRE.out]
      exact ⟨KE.out, Or.inl ⟨a, cp, rfl, OW.out, HE.out⟩⟩
set_option maxHeartbeats 12800000 in
theorem ntGetE_any {w0 : World} (w : World) (B p : Nat) (v : Value) (st : PSt) (h : EyL w0 w B p v st) (hw0 : w0.heap.size ≤ w.heap.size) :
    Calls Try.prog 131 #[.pointer (some ⟨p, 0, none⟩), .func (.func 132) #[] #[]] w (GetL KEnt 102 enC.g w0 w B p v st) := by
  have HW0 := hid hw0
  have HP := hid h.lt
  have hb : Byt st.1 := h.bytes
  have hlo := numE_lowB (st := st) hb 2
  have hhi := cnt_le2 hb
  have H := hid h
  obtain ⟨R, hR⟩ : ∃ R, R = lsG enC.g st := ⟨_, rfl⟩
  unfold GetL
  rw [← hR]
  unfold lsG at hR
  obtain ⟨x1, s1, e1⟩ : ∃ x s, numE 2 st = (x, s) := ⟨_, _, rfl⟩
  rw [e1] at hR hlo hhi
  simp only at hR hlo hhi
  obtain ⟨c, rfl⟩ := Int.eq_ofNat_of_zero_le hlo
  rw [Int.toNat_natCast] at hR
  have N1 := hid e1
  have HR := hid hR
  clear h hw0 hb hlo hR e1
  go_enter Try.func131, Try.ntmps131
  go_wp2_with fail
  have A := H.out.num 2
  rw [N1.out] at A
  refine A.mono ?_
  rintro e w2 ⟨rfl, h2, k2⟩
  have E2 := hid h2
  have K2 := hid k2
  clear A h2 k2
  by_cases hbig : (4000 : Int) < (c : Int)
  · have HBG := hid hbig
    have d1 : decide ((c : Int) ≤ 4000) = false := by simp; omega
    clear hbig
    go_wp2_with fail
    refine (ntMust_any _ false 3).mono ?_
    rintro e _ ⟨rfl, ⟨h, _⟩ | ⟨h, rfl⟩⟩
    · exact absurd h (by decide)
    · clear h
      unfold gaveUp
      go_wp2_with fail
      have e0 : R.2.2 = 3 := by rw [HR.out, if_pos HBG.out]
      refine ⟨rfl, K2.out, Or.inr ?_⟩
      rw [e0]
      exact ⟨by decide, rfl⟩
  have HC := hid (show c ≤ 4000 by omega)
  have d1 : decide ((c : Int) ≤ 4000) = true := by simp; omega
  have HR2 := hid (show R = itG enC.g s1 c by rw [HR.out, if_neg (by have := HC.out; omega)])
  clear hbig
  go_wp2_with fail
  refine (ntMust_any _ true 3).mono ?_
  rintro e _ ⟨rfl, ⟨_, rfl⟩ | ⟨h, _⟩⟩
  case inr => exact absurd rfl h
  clear d1
  go_wp2_with fail
  go_loopw [6, 13] (fun lv iv wr => ∃ (k : Nat) (a : Option Addr) (cp : Nat), k ≤ c ∧ iv = .int .i64 k ∧ lv = .slice a (itG enC.g s1 k).1.length cp ∧ Hid (OwnT KEnt 102 wr w.heap.size (.slice a (itG enC.g s1 k).1.length cp) (itG enC.g s1 k).1) ∧ Hid (EyL w0 wr B p v (itG enC.g s1 k).2) ∧ Hid (Keeps [p] w wr)) (fun _ iv _ => c - (intOf iv).toNat)
  case atStart => exact ⟨0, none, 0, Nat.zero_le _, rfl, rfl, hid (OwnT.nil _ _ _ _), E2, K2⟩
  case round =>
    obtain ⟨k, a, cp, hk, rfl, rfl, OW, HE, KE⟩ := hrel
    have HLK := hid (itG_len enC.g s1 k)
    obtain ⟨l, hl⟩ : ∃ z, z = (itG enC.g s1 k).1 := ⟨_, rfl⟩
    obtain ⟨st2, hst2⟩ : ∃ z, z = (itG enC.g s1 k).2 := ⟨_, rfl⟩
    have HIT := hid (show itG enC.g s1 k = (l, st2) from Prod.ext hl.symm hst2.symm)
    rw [← hl] at OW HLK ⊢
    rw [← hst2] at HE
    clear hl hst2
    by_cases hlt : k < c
    · have hk4 : k < 4000 := by have := HC.out; omega
      have HG := ntGet1E_any wr B p v st2 HE.out (Nat.le_trans HW0.out KE.out.size)
      go_wp2_with fail
      refine HG.mono ?_
      rintro e w4 ⟨x, why, rfl, k4, hwhy, hgood⟩
      have HWHY := hid hwhy
      have HGOOD := hid hgood
      have HB4 := hid (show w.heap.size ≤ w4.heap.size from Nat.le_trans KE.out.size k4.size)
      have K40 := hid (KE.out.trans k4)
      have O40 := hid (OW.out.keep k4 (fun b hb => by simp at hb; subst hb; exact HP.out))
      clear HG k4 hwhy hgood
      go_wp2_with fail
      refine (gvEn_any w4 x why).mono ?_
      rintro e w5 ⟨kh, ⟨hw, rfl⟩ | ⟨hw, rfl⟩⟩
      all_goals have KH := hid kh
      all_goals have K4 := hid (K40.out.trans (kh.mono (by simp)))
      all_goals have O4 := hid (O40.out.later kh)
      all_goals clear kh K40 O40
      · obtain ⟨hx, ey⟩ := HGOOD.out hw
        have E5 := hid (ey.more KH.out)
        have NX := hid (show itG enC.g s1 (k + 1) = (l ++ [x], (enC.g st2).2) by rw [itG_succ, HIT.out, hx])
        clear hx ey hw
        have k5 : Keeps [] w5 (w5.alloc (.cells (KEnt.cells x).toArray 102)) := (Keeps.refl [] w5).alloc _
        obtain ⟨a', c', w6, hrun, o6, k6, _⟩ := append_ls cEnt (O4.out.later k5) _ 1 1 (one_ls w5 x 102) (by have := HLK.out; simp; omega) (by have := K4.out.size; have := k5.size; omega) 71
        have O6 := hid o6
        have E6 := hid (show EyL w0 w6 B p v (enC.g st2).2 from by
          obtain ⟨v2, he, hs, hof⟩ := E5.out
          refine ⟨v2, (he.keep k5 (by simp) (by intro _ _ _ _ _; simp)).keep k6 ?_ ?_, hs, hof⟩
          · intro hm
            have := (O4.out.blk p (by simpa using hm)).1
            have := HP.out
            omega
          · cases hob : (Value.slice a l.length cp).ownBlock with
            | none => intro _ _ _ _ _; simp
            | some g => exact hof g (by have := (O4.out.blk g hob).1; have := HW0.out; omega))
        have K6 := hid ((K4.out.trans (k5.mono (by simp))).trans' k6 (fun i hi hm => by have := (O4.out.blk i (by simpa using hm)).1; omega))
        have RUN := hid hrun
        clear hrun o6 k6 k5
        go_wp2_with (first | (refine wpList_is rfl _ _ (exec_oneT cEnt _ x rfl rfl) ?_) | (at_builtin; refine wpList_is rfl _ _ (exec_appendT 71 _ _ rfl rfl rfl RUN.out) ?_; refine Hid.out ?_) | fail)
        refine hid ?_
        go_wp2_with fail
        go_roundw
        case rel =>
          refine ⟨k + 1, a', c', by omega, by go_num, ?_, ?_, ?_, K6⟩
          · rw [NX.out]; simp
          · rw [NX.out]; have := O6.out; exact hid (by simpa using this)
          · rw [NX.out]; exact E6
        case measure => simp [intOf]; omega
      · have HW := hid hw
        clear hw
        unfold gaveUp
        go_wp2_with fail
        have e0 : R.2.2 = why := by
          have e1 : (itG enC.g s1 (k + 1)).2.2 = why := by rw [itG_succ, HIT.out]; exact HWHY.out.symm
          have e2 := it_stop (c := enC) enC_ok (st := s1) (k := k + 1) (by rw [e1]; exact HW.out) (c - (k + 1))
          rw [show k + 1 + (c - (k + 1)) = c by omega] at e2
          rw [HR2.out, e2, e1]
        refine ⟨rfl, K4.out, Or.inr ?_⟩
        rw [e0]
        exact ⟨HW.out, rfl⟩
    · obtain rfl : k = c := by omega
      have HRE := hid (show R = (l, st2) by rw [HR2.out, HIT.out])
      go_wp2_with fail
      go_ret
      rw [HRE.out]
      exact ⟨KE.out, Or.inl ⟨a, cp, rfl, OW.out, HE.out⟩⟩
set_option maxHeartbeats 12800000 in
theorem ntGetD_any {w0 : World} (w : World) (B p : Nat) (v : Value) (st : PSt) (h : EyL w0 w B p v st) (hw0 : w0.heap.size ≤ w.heap.size) :
    Calls Try.prog 148 #[.pointer (some ⟨p, 0, none⟩), .func (.func 149) #[] #[]] w (GetL KDl 149 dlC.g w0 w B p v st) := by
  have HW0 := hid hw0
  have HP := hid h.lt
  have hb : Byt st.1 := h.bytes
  have hlo := numE_lowB (st := st) hb 2
  have hhi := cnt_le2 hb
  have H := hid h
  obtain ⟨R, hR⟩ : ∃ R, R = lsG dlC.g st := ⟨_, rfl⟩
  unfold GetL
  rw [← hR]
  unfold lsG at hR
  obtain ⟨x1, s1, e1⟩ : ∃ x s, numE 2 st = (x, s) := ⟨_, _, rfl⟩
  rw [e1] at hR hlo hhi
  simp only at hR hlo hhi
  obtain ⟨c, rfl⟩ := Int.eq_ofNat_of_zero_le hlo
  rw [Int.toNat_natCast] at hR
  have N1 := hid e1
  have HR := hid hR
  clear h hw0 hb hlo hR e1
  go_enter Try.func148, Try.ntmps148
  go_wp2_with fail
  have A := H.out.num 2
  rw [N1.out] at A
  refine A.mono ?_
  rintro e w2 ⟨rfl, h2, k2⟩
  have E2 := hid h2
  have K2 := hid k2
  clear A h2 k2
  by_cases hbig : (4000 : Int) < (c : Int)
  · have HBG := hid hbig
    have d1 : decide ((c : Int) ≤ 4000) = false := by simp; omega
    clear hbig
    go_wp2_with fail
    refine (ntMust_any _ false 3).mono ?_
    rintro e _ ⟨rfl, ⟨h, _⟩ | ⟨h, rfl⟩⟩
    · exact absurd h (by decide)
    · clear h
      unfold gaveUp
      go_wp2_with fail
      have e0 : R.2.2 = 3 := by rw [HR.out, if_pos HBG.out]
      refine ⟨rfl, K2.out, Or.inr ?_⟩
      rw [e0]
      exact ⟨by decide, rfl⟩
  have HC := hid (show c ≤ 4000 by omega)
  have d1 : decide ((c : Int) ≤ 4000) = true := by simp; omega
  have HR2 := hid (show R = itG dlC.g s1 c by rw [HR.out, if_neg (by have := HC.out; omega)])
  clear hbig
  go_wp2_with fail
  refine (ntMust_any _ true 3).mono ?_
  rintro e _ ⟨rfl, ⟨_, rfl⟩ | ⟨h, _⟩⟩
  case inr => exact absurd rfl h
  clear d1
  go_wp2_with fail
  go_loopw [6, 13] (fun lv iv wr => ∃ (k : Nat) (a : Option Addr) (cp : Nat), k ≤ c ∧ iv = .int .i64 k ∧ lv = .slice a (itG dlC.g s1 k).1.length cp ∧ Hid (OwnT KDl 149 wr w.heap.size (.slice a (itG dlC.g s1 k).1.length cp) (itG dlC.g s1 k).1) ∧ Hid (EyL w0 wr B p v (itG dlC.g s1 k).2) ∧ Hid (Keeps [p] w wr)) (fun _ iv _ => c - (intOf iv).toNat)
  case atStart => exact ⟨0, none, 0, Nat.zero_le _, rfl, rfl, hid (OwnT.nil _ _ _ _), E2, K2⟩
  case round =>
    obtain ⟨k, a, cp, hk, rfl, rfl, OW, HE, KE⟩ := hrel
    have HLK := hid (itG_len dlC.g s1 k)
    obtain ⟨l, hl⟩ : ∃ z, z = (itG dlC.g s1 k).1 := ⟨_, rfl⟩
    obtain ⟨st2, hst2⟩ : ∃ z, z = (itG dlC.g s1 k).2 := ⟨_, rfl⟩
    have HIT := hid (show itG dlC.g s1 k = (l, st2) from Prod.ext hl.symm hst2.symm)
    rw [← hl] at OW HLK ⊢
    rw [← hst2] at HE
    clear hl hst2
    by_cases hlt : k < c
    · have hk4 : k < 4000 := by have := HC.out; omega
      have HG := ntGet1D_any wr B p v st2 HE.out (Nat.le_trans HW0.out KE.out.size)
      go_wp2_with fail
      refine HG.mono ?_
      rintro e w4 ⟨x, why, rfl, k4, hwhy, hgood⟩
      have HWHY := hid hwhy
      have HGOOD := hid hgood
      have HB4 := hid (show w.heap.size ≤ w4.heap.size from Nat.le_trans KE.out.size k4.size)
      have K40 := hid (KE.out.trans k4)
      have O40 := hid (OW.out.keep k4 (fun b hb => by simp at hb; subst hb; exact HP.out))
      clear HG k4 hwhy hgood
      go_wp2_with fail
      refine (gvDl_any w4 x why).mono ?_
      rintro e w5 ⟨kh, ⟨hw, rfl⟩ | ⟨hw, rfl⟩⟩
      all_goals have KH := hid kh
      all_goals have K4 := hid (K40.out.trans (kh.mono (by simp)))
      all_goals have O4 := hid (O40.out.later kh)
      all_goals clear kh K40 O40
      · obtain ⟨hx, ey⟩ := HGOOD.out hw
        have E5 := hid (ey.more KH.out)
        have NX := hid (show itG dlC.g s1 (k + 1) = (l ++ [x], (dlC.g st2).2) by rw [itG_succ, HIT.out, hx])
        clear hx ey hw
        have k5 : Keeps [] w5 (w5.alloc (.cells (KDl.cells x).toArray 149)) := (Keeps.refl [] w5).alloc _
        obtain ⟨a', c', w6, hrun, o6, k6, _⟩ := append_ls cDl (O4.out.later k5) _ 1 1 (one_ls w5 x 149) (by have := HLK.out; simp; omega) (by have := K4.out.size; have := k5.size; omega) 80
        have O6 := hid o6
        have E6 := hid (show EyL w0 w6 B p v (dlC.g st2).2 from by
          obtain ⟨v2, he, hs, hof⟩ := E5.out
          refine ⟨v2, (he.keep k5 (by simp) (by intro _ _ _ _ _; simp)).keep k6 ?_ ?_, hs, hof⟩
          · intro hm
            have := (O4.out.blk p (by simpa using hm)).1
            have := HP.out
            omega
          · cases hob : (Value.slice a l.length cp).ownBlock with
            | none => intro _ _ _ _ _; simp
            | some g => exact hof g (by have := (O4.out.blk g hob).1; have := HW0.out; omega))
        have K6 := hid ((K4.out.trans (k5.mono (by simp))).trans' k6 (fun i hi hm => by have := (O4.out.blk i (by simpa using hm)).1; omega))
        have RUN := hid hrun
        clear hrun o6 k6 k5
        go_wp2_with (first | (refine wpList_is rfl _ _ (exec_oneT cDl _ x rfl rfl) ?_) | (at_builtin; refine wpList_is rfl _ _ (exec_appendT 80 _ _ rfl rfl rfl RUN.out) ?_; refine Hid.out ?_) | fail)
        refine hid ?_
        go_wp2_with fail
        go_roundw
        case rel =>
          refine ⟨k + 1, a', c', by omega, by go_num, ?_, ?_, ?_, K6⟩
          · rw [NX.out]; simp
          · rw [NX.out]; have := O6.out; exact hid (by simpa using this)
          · rw [NX.out]; exact E6
        case measure => simp [intOf]; omega
      · have HW := hid hw
        clear hw
        unfold gaveUp
        go_wp2_with fail
        have e0 : R.2.2 = why := by
          have e1 : (itG dlC.g s1 (k + 1)).2.2 = why := by rw [itG_succ, HIT.out]; exact HWHY.out.symm
          have e2 := it_stop (c := dlC) dlC_ok (st := s1) (k := k + 1) (by rw [e1]; exact HW.out) (c - (k + 1))
          rw [show k + 1 + (c - (k + 1)) = c by omega] at e2
          rw [HR2.out, e2, e1]
        refine ⟨rfl, K4.out, Or.inr ?_⟩
        rw [e0]
        exact ⟨HW.out, rfl⟩
    · obtain rfl : k = c := by omega
      have HRE := hid (show R = (l, st2) by rw [HR2.out, HIT.out])
      go_wp2_with fail
      go_ret
      rw [HRE.out]
      exact ⟨KE.out, Or.inl ⟨a, cp, rfl, OW.out, HE.out⟩⟩
end Go.Proofs.Ytoglcohdanpciaa
