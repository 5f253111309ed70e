/- tokens: Read. -/
import Derived.Test.YtjohikekhgcepaaTkS
import Derived.Test.YtjohikekhgcepaaNumK
namespace Go.Proofs.Ytjohikekhgcepaa
open Go.RowKit Go.Shelf
set_option maxRecDepth 100000
set_option linter.unusedSimpArgs false
set_option linter.unusedVariables false

/-- What is read of so many rows. -/
def rdT : Nat → List Rk → PSt → List Rk × PSt
  | 0, rs, st => (rs, st)
  | k + 1, rs, st => if st.2 ≠ 0 then (rs, st) else if (rdRow st).2.2 ≠ 0 then (rs, (rdRow st).2) else
      if takeK rs (rdRow st).1 = true then rdT k (rs ++ [(rdRow st).1]) (rdRow st).2 else (rs ++ [(rdRow st).1], ((rdRow st).2.1, 4))
theorem last_all {rs : List Rk} (h : GoodK rs) {r : Rk} (hl : lastK rs r = true) : ∀ x ∈ rs, aheadK x r = true := by
  intro x hx
  unfold lastK at hl
  obtain ⟨j, hj, rfl⟩ := List.mem_iff_getElem.1 hx
  rw [if_neg (by omega), List.getD_eq_getElem?_getD, List.getElem?_eq_getElem (by omega)] at hl
  by_cases e : j = rs.length - 1
  · subst e; exact hl
  · exact ahead_trans ((List.pairwise_iff_getElem.1 h.pw) j (rs.length - 1) hj (by omega) (by omega)).1 hl
theorem ins_end {rs : List Rk} {r : Rk} (h : ∀ x ∈ rs, aheadK x r = true) : insK r rs = rs ++ [r] := by
  have e : rs.findIdx? (aheadK r) = none := List.findIdx?_eq_none_iff.2 (fun x hx => by
    have h1 := aheadK_is.1 (h x hx)
    cases hq : aheadK r x with
    | false => rfl
    | true => have h2 := aheadK_is.1 hq; omega)
  have p : posK r rs = rs.length := by unfold posK; rw [e]; rfl
  unfold insK
  rw [p, List.take_length, List.drop_length, List.append_nil]
theorem takeK_is {rs : List Rk} {r : Rk} : takeK rs r = true ↔ mayK r = true ∧ lastK rs r = true ∧ rs.any (clashK r) = false := by
  unfold takeK
  cases mayK r <;> cases lastK rs r <;> cases rs.any (clashK r) <;> simp
theorem GoodK.snoc {rs : List Rk} (h : GoodK rs) {r : Rk} (ht : takeK rs r = true) : GoodK (rs ++ [r]) ∧ insK r rs = rs ++ [r] := by
  obtain ⟨h1, h2, h3⟩ := takeK_is.1 ht
  have ha := last_all h h2
  have e := ins_end ha
  refine ⟨?_, e⟩
  rw [← e]
  refine h.ins r h1 h3 ?_
  rw [List.any_eq_false]
  intro x hx hq
  have a1 := aheadK_is.1 (ha x hx)
  have a2 := atK_is.1 hq
  omega
theorem numE1_le {st : PSt} (hb : ∀ z ∈ st.1, 0 ≤ z ∧ z ≤ 255) : 0 ≤ (numE 1 st).1 ∧ (numE 1 st).1 ≤ 255 := by
  obtain ⟨zs, b⟩ := st
  by_cases h0 : b = 0
  · subst h0
    rcases Nat.lt_or_ge zs.length 1 with hl | hl
    · rw [numE_short (n := 1) 1 rfl (by omega) (by omega) hl]; exact ⟨Int.le_refl _, by simp⟩
    · have e : numE 1 (zs, 0) = (val (zs.take 1), (zs.drop 1, 0)) := by
        unfold numE after rdNum
        rw [if_neg (by simp), if_neg (by omega), show (1 : Int).toNat = 1 from rfl, if_neg (by simp only; omega)]
        rfl
      rw [e]
      have := val_bound 1 (zs.take 1) (by rw [List.length_take]; omega) (fun z hz => hb z (List.mem_of_mem_take hz))
      simp only
      omega
  · rw [numE_stay 1 (by exact h0)]; exact ⟨Int.le_refl _, by simp⟩
theorem EyL.bytes {w wr : World} {B p : Nat} {v : Value} {st : PSt} (h : EyL w wr B p v st) : ∀ z ∈ st.1, 0 ≤ z ∧ z ≤ 255 := by
  obtain ⟨v2, he, _⟩ := h
  exact he.row.bytes
theorem tkNewB_any (w : World) : Calls Try.prog 18 #[] w fun e w' => e = .returned (.pointer (some ⟨w.heap.size, 0, none⟩)) ∧ w'.heap[w.heap.size]? = some (.cells #[.bool true, .slice none 0 0] 135 (0, 0)) ∧ Keeps [] w w' := by
  go_enter Try.func18, Try.ntmps18
  go_wp2_with fail
  go_ret
  exact ⟨rfl, heap_alloc_new w _, (Keeps.refl [] w).alloc _⟩
theorem numE_zero {n : Int} {st : PSt} (h : (numE n st).2.2 ≠ 0) : (numE n st).1 = 0 := by
  unfold numE after at *
  by_cases h1 : st.2 ≠ 0
  · rw [if_pos h1]; rfl
  · rw [if_neg h1] at h ⊢
    cases hq : rdNum n st.1 with
    | error e => rfl
    | ok x => rw [hq] at h; exact absurd rfl h
def RdPost (N : List Nat) (w0 w : World) (B p : Nat) (v : Value) (R : List Rk × PSt) (e : Ending) (w' : World) : Prop :=
  Keeps [p] w w' ∧ ((R.2.2 = 0 ∧ ∃ q, w.heap.size ≤ q ∧ e = .returned (.tuple #[.pointer (some ⟨q, 0, none⟩), .int .i64 0]) ∧ TokAt w' (q :: p :: N) q R.1 ∧ EyL w0 w' B p v R.2 ∧ GoodK R.1) ∨
    (R.2.2 ≠ 0 ∧ e = .returned (.tuple #[.pointer none, .int .i64 R.2.2])))
def rdAll (st : PSt) : List Rk × PSt := rdT (numE 1 st).1.toNat [] (numE 1 st).2
set_option maxHeartbeats 25600000 in
theorem read15_any {w0 : World} (N : List Nat) (w : World) (hN : ∀ b ∈ N, b < w.heap.size) (B p : Nat) (v : Value) (st : PSt) (h : EyL w0 w B p v st) (hw0 : w0.heap.size ≤ w.heap.size) :
    Calls Try.prog 34 #[.pointer (some ⟨p, 0, none⟩)] w (RdPost N w0 w B p v (rdAll st)) := by
  have HE := hid h
  have HN := hid hN
  clear hN
  have HW0 := hid hw0
  have hn := numE1_le h.bytes
  have HNZ := hid (numE_zero (n := 1) (st := st))
  obtain ⟨R, hR⟩ : ∃ z, z = rdAll st := ⟨_, rfl⟩
  rw [← hR]
  obtain ⟨x1, s1, e1⟩ : ∃ x s, numE 1 st = (x, s) := ⟨_, _, rfl⟩
  rw [e1] at hn HNZ
  obtain ⟨n, hnn⟩ : ∃ n : Nat, x1 = (n : Int) := Int.eq_ofNat_of_zero_le hn.1
  subst hnn
  have N1 := hid e1
  have HR := hid (show R = rdT n [] s1 by rw [hR, rdAll, e1]; rfl)
  have hn255 : n ≤ 255 := by have := hn.2; simp only at this; omega
  have HZ1 : Hid (s1.2 ≠ 0 → n = 0) := hid (fun hh => by have := HNZ.out hh; simp only at this; omega)
  have HPL := hid h.lt
  clear h hw0 hR e1 hn HNZ
  go_enter Try.func34, Try.ntmps34
  go_wp2_with fail
  refine (tkNewB_any w).mono ?_
  rintro e w1 ⟨rfl, t1, k1⟩
  obtain ⟨q, hq⟩ : ∃ q, q = w.heap.size := ⟨_, rfl⟩
  rw [← hq] at t1 ⊢
  have HPQ := hid (show p ≠ q by have := HPL.out; omega)
  have HWQ := hid (show w.heap.size ≤ q by omega)
  have T1 := hid (show TokAt w1 (q :: p :: N) q [] from ⟨⟨_, t1, RksAt.nil _ _⟩, by simp, by simp⟩)
  have E1 := hid (HE.out.more k1)
  have K1 := hid k1
  clear t1 k1 hq
  go_wp2_with fail
  have A1 := E1.out.num 1
  rw [N1.out] at A1
  refine A1.mono ?_
  rintro e w2 ⟨rfl, e2, k2⟩
  have E2 := hid e2
  have K2 := hid ((K1.out.mono (S' := [p]) (by simp)).trans k2)
  have T2 := hid (T1.out.keep k2 (by simpa using fun e => HPQ.out e.symm) (by simp))
  clear A1 e2 k2
  go_wp2_with fail
  go_loopw [5, 6, 11] (fun _ _ iv wr => ∃ (i : Nat) (rs : List Rk) (s : PSt), iv = .int .i64 (i : Int) ∧ i ≤ n ∧ rs.length ≤ i ∧ Hid (R = rdT (n - i) rs s) ∧ Hid (s.2 ≠ 0 → i = n) ∧ Hid (TokAt wr (q :: p :: N) q rs) ∧ Hid (GoodK rs) ∧ Hid (EyL w0 wr B p v s) ∧ Hid (Keeps [p] w wr)) (fun _ _ iv _ => n - (intOf iv).toNat)
  case atStart => exact ⟨0, [], s1, rfl, by omega, by simp, HR, hid (fun hh => (HZ1.out hh).symm), T2, hid GoodK.nil, E2, K2⟩
  case round =>
    obtain ⟨i, rs, s, rfl, hi, hlen, RR, SZ, TT, GG, EE, KK⟩ := hrel
    have HLEN := hid hlen
    have HWR := hid (show w0.heap.size ≤ wr.heap.size by have := HW0.out; have := KK.out.size; omega)
    have HM := hid (show ∀ b ∈ q :: p :: N, b < wr.heap.size from fun b hb => by
      have h1 := TT.out.lt
      have h2 := EE.out.lt
      rcases List.mem_cons.1 hb with rfl | hb
      · exact h1
      · rcases List.mem_cons.1 hb with rfl | hb
        · exact h2
        · exact Nat.lt_of_lt_of_le (HN.out b hb) KK.out.size)
    by_cases hlt : i < n
    · have hs0 : s.2 = 0 := by
        by_cases hh : s.2 = 0
        · exact hh
        · have := SZ.out hh; omega
      have HLT := hid hlt
      have RR2 := RR.out
      rw [show n - i = (n - (i + 1)) + 1 by omega] at RR2
      unfold rdT at RR2
      rw [if_neg (by simp [hs0])] at RR2
      obtain ⟨r, s2, er⟩ : ∃ r s2, rdRow s = (r, s2) := ⟨_, _, rfl⟩
      rw [er] at RR2
      simp only at RR2
      have RD := readRow_any wr B p v s EE.out HWR.out
      rw [er] at RD
      have RX := hid RR2
      have RDH := hid RD
      clear hs0 RR2 RD er
      go_wp2_with fail
      refine RDH.out.mono ?_
      rintro e w3 ⟨rfl, e3, k3⟩
      have K3 := hid (KK.out.trans k3)
      have T3 := hid (TT.out.keep k3 (by simpa using fun e => HPQ.out e.symm) (by simp))
      have ka : Keeps [] w3 (w3.alloc (.cells r.cells.toArray 59)) := (Keeps.refl [] w3).alloc _
      have E4 := hid (e3.more ka)
      have T4 := hid (T3.out.later ka)
      have K4 := hid (K3.out.trans (ka.mono (by simp)))
      have R4 := hid (rkrange_new w3 r.cells 59)
      have HM4 := hid (fun b hb => Nat.lt_of_lt_of_le (HM.out b hb) (Nat.le_trans k3.size ka.size))
      have HNW := hid (show w3.heap.size ≠ p ∧ w3.heap.size ≠ q by have h1 := e3.lt; have h2 := T3.out.lt; omega)
      clear e3 k3 ka RDH
      go_wp2_with (first | (refine wpList_allocRk cRk rfl rfl ?_) | (refine wpList_newRk cRk rfl w3 _ _ rfl rfl rfl r rfl ?_) | (go_at_call 86; refine Hid.out ?_) | fail)
      refine hid ?_
      generalize w3.alloc (.cells r.cells.toArray 59) = w4 at E4 T4 K4 R4 HM4 ⊢
      refine (E4.out.fail).mono ?_
      rintro e _ ⟨rfl, rfl⟩
      by_cases hs2 : s2.2 = 0
      · have hb2 : (s2.2 != 0) = false := by simp [hs2]
        have HS2 := hid hs2
        obtain ⟨tk, htk⟩ : ∃ z, z = takeK rs r := ⟨_, rfl⟩
        have HTK := hid htk
        have MT := hid (mayTake_any T4.out r)
        rw [← htk] at MT
        clear hs2 htk
        go_wp2_with (first | (refine wpList_loadRk cRk rfl _ rfl w3.heap.size 0 rfl r R4.out ?_) | fail)
        refine MT.out.mono ?_
        rintro e w5 ⟨rfl, k5⟩
        have T5 := hid (T4.out.later k5)
        have E5 := hid (E4.out.more k5)
        have K5 := hid (K4.out.trans (k5.mono (by simp)))
        have R5 := hid (rkrange_keep R4.out k5 (by simp))
        have HM5 := hid (fun b hb => Nat.lt_of_lt_of_le (HM4.out b hb) k5.size)
        clear k5
        cases tk with
        | false =>
          have RY : Hid (R = (rs ++ [r], (s2.1, 4))) := hid (by
            have := RX.out
            rw [if_neg (by simpa using HS2.out), if_neg (by rw [← HTK.out]; simp)] at this
            exact this)
          go_wp2_with fail
          go_ret2
          rw [RY.out]
          exact ⟨K5.out, Or.inr ⟨by simp, rfl⟩⟩
        | true =>
          have RY : Hid (R = rdT (n - (i + 1)) (rs ++ [r]) s2) := hid (by
            have := RX.out
            rw [if_neg (by simpa using HS2.out), if_pos HTK.out.symm] at this
            exact this)
          obtain ⟨g6, e6⟩ := GG.out.snoc HTK.out.symm
          have G6 := hid g6
          have PA := put_any T5.out HM5.out r (by have := HLEN.out; omega)
          rw [e6] at PA
          have PH := hid PA
          clear PA g6 e6
          go_wp2_with (first | (refine wpList_loadRk cRk rfl _ rfl w3.heap.size 0 rfl r R5.out ?_) | fail)
          refine PH.out.mono ?_
          rintro e w6 ⟨rfl, t6, k6⟩
          have T6 := hid t6
          have E6 := hid (E5.out.later k6 (by have := HW0.out; have := HWQ.out; omega) HPQ.out)
          have K6 := hid (K5.out.trans' k6 (fun i hi hm => by have := HWQ.out; simp at hm; omega))
          clear t6 k6 PH
          go_wp2_with fail
          go_roundw
          case rel => exact ⟨i + 1, rs ++ [r], s2, by go_num, by omega, by have := HLEN.out; simp; omega, RY, hid (fun hh => absurd HS2.out hh), T6, G6, E6, K6⟩
          case measure => simp [intOf]; omega
      · have hb2 : (s2.2 != 0) = true := by simp [hs2]
        have RY : Hid (R = (rs, s2)) := hid (by
          have := RX.out
          rw [if_pos hs2] at this
          exact this)
        have HS2 := hid hs2
        clear hs2
        go_wp2_with fail
        go_ret2
        rw [RY.out]
        exact ⟨K4.out, Or.inr ⟨HS2.out, rfl⟩⟩
    · obtain rfl : i = n := by omega
      have RY : Hid (R = (rs, s)) := hid (by
        have := RR.out
        rw [Nat.sub_self] at this
        exact this)
      go_wp2_with fail
      refine (EE.out.fail).mono ?_
      rintro e _ ⟨rfl, rfl⟩
      by_cases hs2 : s.2 = 0
      · have hb2 : (s.2 != 0) = false := by simp [hs2]
        have HS2 := hid hs2
        clear hs2
        go_wp2_with fail
        go_ret2
        rw [RY.out]
        exact ⟨KK.out, Or.inl ⟨HS2.out, q, HWQ.out, rfl, TT.out, EE.out, GG.out⟩⟩
      · have hb2 : (s.2 != 0) = true := by simp [hs2]
        have HS2 := hid hs2
        clear hs2
        go_wp2_with fail
        go_ret2
        rw [RY.out]
        exact ⟨KK.out, Or.inr ⟨HS2.out, rfl⟩⟩
end Go.Proofs.Ytjohikekhgcepaa
