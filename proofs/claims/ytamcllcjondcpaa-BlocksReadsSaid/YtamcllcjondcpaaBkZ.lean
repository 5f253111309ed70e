/- blocks: the reference's Write; both write the same bytes of a good map. -/
import Derived.Test.YtamcllcjondcpaaBkV
import Derived.Test.YtamcllcjondcpaaBkR
namespace Go.Proofs.Ytamcllcjondcpaa
open Go.RowKit Go.Shelf
set_option maxRecDepth 100000
set_option linter.unusedSimpArgs false

set_option maxHeartbeats 3200000 in
theorem rWrite_any11 {w : World} {F : List Nat} {q : Nat} {s : Bk} (h : RkAt w q F s) (B p : Nat) (v : Value) (t : PSt) (P : PenAt w B 84 5 p v t.1 t.2) (hB : B ≤ w.heap.size) (hF : ∀ b ∈ F, b ∉ p :: v.ownBlock.toList) :
    Calls Try.prog 48 #[.pointer (some ⟨q, 0, none⟩), .pointer (some ⟨p, 0, none⟩)] w (PenPost w B 84 5 p v (rwrB s t)) := by
  have HB := hid hB
  have HFW := hid h.few
  obtain ⟨a, c, hb, hr, _, hFe⟩ := h.cells
  have hqp : q ∉ p :: v.ownBlock.toList := hF q (by rw [hFe]; simp)
  have HV := hid hr.at
  have HOW := hid (show ∀ b, (Value.slice a s.L.length c).ownBlock = some b → b ∉ p :: v.ownBlock.toList from fun b hb => hF b (by rw [hFe, hb]; simp))
  have HR := hid hr
  have HBK := hid hb
  have HQ := hid hqp
  obtain ⟨s1, e1⟩ : ∃ z, z = refNum s.sz 2 t := ⟨_, rfl⟩
  have HN : Calls Try.prog 65 #[.pointer (some ⟨p, 0, none⟩), .int .i64 s.sz, .int .i64 2] w (PenPost w B 84 5 p v s1) := by
    have := rnum_any w B p v t.1 t.2 s.sz 2 P hB
    rw [show refNum s.sz 2 (t.1, t.2) = s1 from e1.symm] at this
    exact this
  have E1 := hid e1
  obtain ⟨c0, c1, _, _⟩ := two_cells hb
  clear hB hr hb hF hFe hqp P e1 c1 h
  go_enter Try.func48, Try.ntmps48
  go_wp2_with fail
  refine HN.mono ?_
  intro e w2 hq2
  obtain ⟨rfl, v2, p2, k2, n2⟩ := pen_step (Keeps.refl _ _) (Or.inl rfl) hq2
  have P2 := hid p2
  have K2 := hid k2
  have N2 := hid n2
  clear hq2 p2 k2 n2 c0 HN
  go_wp2_with fail
  go_loopw [4] (fun iv wr => ∃ (k : Nat) (v3 : Value), k ≤ s.L.length ∧ iv = .int .i64 k ∧ Hid (PenAt wr B 84 5 p v3 (rwrK s k t).1 (rwrK s k t).2) ∧ Hid (Keeps (p :: v.ownBlock.toList) w wr) ∧ Hid (NewRow w v v3)) (fun iv _ => s.L.length - (intOf iv).toNat)
  case atStart => exact ⟨0, v2, by omega, rfl, hid (by have := P2.out; rw [E1.out] at this; exact this), K2, N2⟩
  case round =>
    obtain ⟨k, v3, hk, rfl, P3, K3, N3⟩ := hrel
    have d1 := (two_cells ((K3.out.block q (lt_of_block HBK.out) HQ.out).trans HBK.out)).2.1
    by_cases hlt : k < s.L.length
    · have hk64 : k < 64 := by have := HFW.out; omega
      obtain ⟨g, off, rfl, _, hcap, hg, hgM, hr⟩ := ((HR.out.keep K3.out HOW.out).at).open (by omega)
      have R0 := range_pt hr k hlt
      obtain ⟨x, hx⟩ : ∃ x, x = s.L[k] := ⟨_, rfl⟩
      rw [← hx] at R0
      have R := hid R0
      have HX := hid hx
      have HBA := hid (show B ≤ wr.heap.size by have := HB.out; have := K3.out.size; omega)
      clear hr hcap hg hgM R0 hx
      go_wp2_with (first | (refine wpList_isW rfl _ _ (exec_load _ _ _ _ rfl rfl (loadPt_run _ g (off + k * 5) x R.out)) ?_) | fail)
      refine (rPutPtr_any _ B p v3 (rwrK s k t) x P3.out HBA.out).mono ?_
      intro e w4 hq4
      obtain ⟨rfl, v4, p4, k4, n4⟩ := pen_step K3.out N3.out hq4
      have P4 := hid p4
      have K4 := hid k4
      have N4 := hid n4
      clear hq4 p4 k4 n4 d1
      go_wp2_with fail
      go_roundw
      case rel => exact ⟨k + 1, v4, by omega, by go_num, hid (by rw [rwrK_snoc hlt, ← HX.out]; exact P4.out), K4, N4⟩
      case measure => simp [intOf]; omega
    · obtain rfl : k = s.L.length := by omega
      go_wp2_with fail
      go_end0
      exact ⟨rfl, v3, P3.out, K3.out, N3.out⟩

theorem numW {x n : Int} (hn : 1 ≤ n ∧ n ≤ 7) (h0 : 0 ≤ x) (hx : x < 2 ^ (8 * n.toNat)) {s : PSt} (hz : s.2 = 0) (hl : s.1.length + 7 ≤ 65536) :
    penNum x n s = refNum x n s ∧ (penNum x n s).2 = 0 ∧ (penNum x n s).1.length ≤ s.1.length + 7 := by
  have hd : x / 2 ^ (8 * n.toNat) = 0 := Int.ediv_eq_zero_of_lt h0 hx
  have hlen := be_length x n.toNat
  have e1 : penNum x n s = (s.1 ++ be x n.toNat, 0) := by
    unfold penNum penAdd
    rw [if_pos ⟨hn.1, hn.2, h0, hd⟩, if_neg (by simp [hz]), if_neg (by rw [hlen]; omega)]
  have e2 : refNum x n s = (s.1 ++ be x n.toNat, 0) := by
    unfold refNum refAdd
    rw [if_pos hz, if_pos ⟨hn.1, hn.2, h0, hx⟩, if_pos hz, if_neg (by rw [hlen]; omega)]
  exact ⟨by rw [e1, e2], by rw [e1], by rw [e1]; simp only [List.length_append, hlen]; omega⟩
theorem mayP_lim {x : Pt} (h : mayP x = true) : (0 ≤ x.c ∧ x.c < 256) ∧ (0 ≤ x.l ∧ x.l < 16777216) ∧ (0 ≤ x.n ∧ x.n < 4294967296) ∧ (0 ≤ x.a ∧ x.a < 65536) ∧ (0 ≤ x.k ∧ x.k < 256) := by
  unfold mayP at h
  rcases Bool.or_eq_true _ _ ▸ h with h | h
  · unfold zB at h
    have e := of_decide_eq_true h
    subst e
    decide
  · simp only [Bool.and_eq_true, btw, decide_eq_true_eq] at h
    omega
theorem putP_both {x : Pt} (h : mayP x = true) {s : PSt} (hz : s.2 = 0) (hl : s.1.length + 35 ≤ 65536) : putP x s = rputP x s ∧ (putP x s).2 = 0 ∧ (putP x s).1.length ≤ s.1.length + 35 := by
  obtain ⟨⟨a1, a2⟩, ⟨b1, b2⟩, ⟨c1, c2⟩, ⟨d1, d2⟩, ⟨f1, f2⟩⟩ := mayP_lim h
  obtain ⟨e1, z1, l1⟩ := numW (x := x.c) (n := 1) ⟨by decide, by decide⟩ a1 (by show x.c < 256; exact a2) hz (by omega)
  obtain ⟨e2, z2, l2⟩ := numW (x := x.l) (n := 3) ⟨by decide, by decide⟩ b1 (by show x.l < 16777216; exact b2) z1 (by omega)
  obtain ⟨e3, z3, l3⟩ := numW (x := x.n) (n := 4) ⟨by decide, by decide⟩ c1 (by show x.n < 4294967296; exact c2) z2 (by omega)
  obtain ⟨e4, z4, l4⟩ := numW (x := x.a) (n := 2) ⟨by decide, by decide⟩ d1 (by show x.a < 65536; exact d2) z3 (by omega)
  obtain ⟨e5, z5, l5⟩ := numW (x := x.k) (n := 1) ⟨by decide, by decide⟩ f1 (by show x.k < 256; exact f2) z4 (by omega)
  refine ⟨?_, z5, by unfold putP; omega⟩
  unfold putP rputP
  rw [e5, e4, e3, e2, e1]
theorem wr_same {s : Bk} (h : GoodB s) : wrB s ([], 0) = rwrB s ([], 0) ∧ (wrB s ([], 0)).2 = 0 := by
  have H0 := numW (x := s.sz) (n := 2) ⟨by decide, by decide⟩ h.lo (by show s.sz < 65536; have := h.hi; omega) (s := ([], 0)) rfl (by simp)
  have : ∀ (xs : List Pt) (t : PSt), (∀ x ∈ xs, mayP x = true) → t.2 = 0 → t.1.length + xs.length * 35 ≤ 65536 → xs.foldl (fun t x => putP x t) t = xs.foldl (fun t x => rputP x t) t ∧ (xs.foldl (fun t x => putP x t) t).2 = 0 := by
    intro xs
    induction xs with
    | nil => intro t _ h _; exact ⟨rfl, h⟩
    | cons x xs ih =>
      intro t hm h0 hl
      simp only [List.length_cons] at hl
      obtain ⟨e, z, l⟩ := putP_both (hm x (by simp)) h0 (by omega)
      simp only [List.foldl_cons]
      rw [← e]
      exact ih _ (fun y hy => hm y (by simp [hy])) z (by omega)
  have hf := h.few
  have l0 := H0.2.2
  obtain ⟨e, z⟩ := this s.L _ h.may H0.2.1 (by simp at l0; omega)
  unfold wrB rwrB wrK rwrK
  rw [List.take_length, ← H0.1]
  exact ⟨e, z⟩
theorem bytes_same {s : Bk} (h : GoodB s) : (rwrB s ([], 0)).1 = bytesB s := by
  obtain ⟨e, z⟩ := wr_same h
  unfold bytesB
  rw [if_pos z, e]
end Go.Proofs.Ytamcllcjondcpaa
