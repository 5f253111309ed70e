/- Whatever deltas are applied, the code and the reference agree on which are done, which pointers are gone, the size, all blocks and the bytes (the law BlocksPlays): the law returns true for every slice of deltas. No condition. -/
import Derived.Test.YtdfhoanilbfkiaaBkV
import Derived.Test.YtdfhoanilbfkiaaBkR
import Derived.Test.YtdfhoanilbfkiaaBkL
import Derived.Test.YtdfhoanilbfkiaaKitB
import Derived.Test.YtdfhoanilbfkiaaSame
import Derived.Test.YtdfhoanilbfkiaaBkX1
import Derived.Test.YtdfhoanilbfkiaaBkX2
import Derived.Test.YtdfhoanilbfkiaaBkX3
import Derived.Test.YtdfhoanilbfkiaaBkJ
import Derived.Test.YtdfhoanilbfkiaaBkM
import Derived.Test.YtdfhoanilbfkiaaBkC
import Derived.Test.YtdfhoanilbfkiaaOpenC
/- blocks: the reference's Write; both write the same bytes of a good map. -/
namespace Go.Proofs.Ytdfhoanilbfkiaa
open Go.RowKit Go.Shelf
set_option maxRecDepth 100000
set_option linter.unusedSimpArgs false

set_option maxHeartbeats 3200000 in
theorem rWrite_any11 {w : World} {F : List Nat} {q : Nat} {s : Bk} (h : RkAt w q F s) (B p : Nat) (v : Value) (t : PSt) (P : PenAt w B 72 5 p v t.1 t.2) (hB : B ≤ w.heap.size) (hF : ∀ b ∈ F, b ∉ p :: v.ownBlock.toList) :
    Calls Try.prog 40 #[.pointer (some ⟨q, 0, none⟩), .pointer (some ⟨p, 0, none⟩)] w (PenPost w B 72 5 p v (rwrB s t)) := by
  have HB := hid hB
  have HFW := hid h.few
  obtain ⟨a, c, hb, hr, _, hFe⟩ := h.cells
  have hqp : q ∉ p :: v.ownBlock.toList := hF q (by rw [hFe]; simp)
  have HV := hid hr.at
  have HOW := hid (show ∀ b, (Value.slice a s.L.length c).ownBlock = some b → b ∉ p :: v.ownBlock.toList from fun b hb => hF b (by rw [hFe, hb]; simp))
  have HR := hid hr
  have HBK := hid hb
  have HQ := hid hqp
  obtain ⟨s1, e1⟩ : ∃ z, z = refNum s.sz 2 t := ⟨_, rfl⟩
  have HN : Calls Try.prog 58 #[.pointer (some ⟨p, 0, none⟩), .int .i64 s.sz, .int .i64 2] w (PenPost w B 72 5 p v s1) := by
    have := rnum_any w B p v t.1 t.2 s.sz 2 P hB
    rw [show refNum s.sz 2 (t.1, t.2) = s1 from e1.symm] at this
    exact this
  have E1 := hid e1
  obtain ⟨c0, c1, _, _⟩ := two_cells hb
  clear hB hr hb hF hFe hqp P e1 c1 h
  go_enter Try.func40, Try.ntmps40
  go_wp2_with fail
  refine HN.mono ?_
  intro e w2 hq2
  obtain ⟨rfl, v2, p2, k2, n2⟩ := pen_step (Keeps.refl _ _) (Or.inl rfl) hq2
  have P2 := hid p2
  have K2 := hid k2
  have N2 := hid n2
  clear hq2 p2 k2 n2 c0 HN
  go_wp2_with fail
  go_loopw [4] (fun iv wr => ∃ (k : Nat) (v3 : Value), k ≤ s.L.length ∧ iv = .int .i64 k ∧ Hid (PenAt wr B 72 5 p v3 (rwrK s k t).1 (rwrK s k t).2) ∧ Hid (Keeps (p :: v.ownBlock.toList) w wr) ∧ Hid (NewRow w v v3)) (fun iv _ => s.L.length - (intOf iv).toNat)
  case atStart => exact ⟨0, v2, by omega, rfl, hid (by have := P2.out; rw [E1.out] at this; exact this), K2, N2⟩
  case round =>
    obtain ⟨k, v3, hk, rfl, P3, K3, N3⟩ := hrel
    have d1 := (two_cells ((K3.out.block q (lt_of_block HBK.out) HQ.out).trans HBK.out)).2.1
    by_cases hlt : k < s.L.length
    · have hk64 : k < 64 := by have := HFW.out; omega
      obtain ⟨g, off, rfl, _, hcap, hg, hgM, hr⟩ := ((HR.out.keep K3.out HOW.out).at).open (by omega)
      have R0 := range_pt hr k hlt
      obtain ⟨x, hx⟩ : ∃ x, x = s.L[k] := ⟨_, rfl⟩
      rw [← hx] at R0
      have R := hid R0
      have HX := hid hx
      have HBA := hid (show B ≤ wr.heap.size by have := HB.out; have := K3.out.size; omega)
      clear hr hcap hg hgM R0 hx
      go_wp2_with (first | (refine wpList_isW rfl _ _ (exec_load _ _ _ _ rfl rfl (loadPt_run _ g (off + k * 5) x R.out)) ?_) | fail)
      refine (rPutPtr_any _ B p v3 (rwrK s k t) x P3.out HBA.out).mono ?_
      intro e w4 hq4
      obtain ⟨rfl, v4, p4, k4, n4⟩ := pen_step K3.out N3.out hq4
      have P4 := hid p4
      have K4 := hid k4
      have N4 := hid n4
      clear hq4 p4 k4 n4 d1
      go_wp2_with fail
      go_roundw
      case rel => exact ⟨k + 1, v4, by omega, by go_num, hid (by rw [rwrK_snoc hlt, ← HX.out]; exact P4.out), K4, N4⟩
      case measure => simp [intOf]; omega
    · obtain rfl : k = s.L.length := by omega
      go_wp2_with fail
      go_end0
      exact ⟨rfl, v3, P3.out, K3.out, N3.out⟩

theorem numW {x n : Int} (hn : 1 ≤ n ∧ n ≤ 7) (h0 : 0 ≤ x) (hx : x < 2 ^ (8 * n.toNat)) {s : PSt} (hz : s.2 = 0) (hl : s.1.length + 7 ≤ 65536) :
    penNum x n s = refNum x n s ∧ (penNum x n s).2 = 0 ∧ (penNum x n s).1.length ≤ s.1.length + 7 := by
  have hd : x / 2 ^ (8 * n.toNat) = 0 := Int.ediv_eq_zero_of_lt h0 hx
  have hlen := be_length x n.toNat
  have e1 : penNum x n s = (s.1 ++ be x n.toNat, 0) := by
    unfold penNum penAdd
    rw [if_pos ⟨hn.1, hn.2, h0, hd⟩, if_neg (by simp [hz]), if_neg (by rw [hlen]; omega)]
  have e2 : refNum x n s = (s.1 ++ be x n.toNat, 0) := by
    unfold refNum refAdd
    rw [if_pos hz, if_pos ⟨hn.1, hn.2, h0, hx⟩, if_pos hz, if_neg (by rw [hlen]; omega)]
  exact ⟨by rw [e1, e2], by rw [e1], by rw [e1]; simp only [List.length_append, hlen]; omega⟩
theorem mayP_lim {x : Pt} (h : mayP x = true) : (0 ≤ x.c ∧ x.c < 256) ∧ (0 ≤ x.l ∧ x.l < 16777216) ∧ (0 ≤ x.n ∧ x.n < 4294967296) ∧ (0 ≤ x.a ∧ x.a < 65536) ∧ (0 ≤ x.k ∧ x.k < 256) := by
  unfold mayP at h
  rcases Bool.or_eq_true _ _ ▸ h with h | h
  · unfold zB at h
    have e := of_decide_eq_true h
    subst e
    decide
  · simp only [Bool.and_eq_true, btw, decide_eq_true_eq] at h
    omega
theorem putP_both {x : Pt} (h : mayP x = true) {s : PSt} (hz : s.2 = 0) (hl : s.1.length + 35 ≤ 65536) : putP x s = rputP x s ∧ (putP x s).2 = 0 ∧ (putP x s).1.length ≤ s.1.length + 35 := by
  obtain ⟨⟨a1, a2⟩, ⟨b1, b2⟩, ⟨c1, c2⟩, ⟨d1, d2⟩, ⟨f1, f2⟩⟩ := mayP_lim h
  obtain ⟨e1, z1, l1⟩ := numW (x := x.c) (n := 1) ⟨by decide, by decide⟩ a1 (by show x.c < 256; exact a2) hz (by omega)
  obtain ⟨e2, z2, l2⟩ := numW (x := x.l) (n := 3) ⟨by decide, by decide⟩ b1 (by show x.l < 16777216; exact b2) z1 (by omega)
  obtain ⟨e3, z3, l3⟩ := numW (x := x.n) (n := 4) ⟨by decide, by decide⟩ c1 (by show x.n < 4294967296; exact c2) z2 (by omega)
  obtain ⟨e4, z4, l4⟩ := numW (x := x.a) (n := 2) ⟨by decide, by decide⟩ d1 (by show x.a < 65536; exact d2) z3 (by omega)
  obtain ⟨e5, z5, l5⟩ := numW (x := x.k) (n := 1) ⟨by decide, by decide⟩ f1 (by show x.k < 256; exact f2) z4 (by omega)
  refine ⟨?_, z5, by unfold putP; omega⟩
  unfold putP rputP
  rw [e5, e4, e3, e2, e1]
theorem wr_same {s : Bk} (h : GoodB s) : wrB s ([], 0) = rwrB s ([], 0) ∧ (wrB s ([], 0)).2 = 0 := by
  have H0 := numW (x := s.sz) (n := 2) ⟨by decide, by decide⟩ h.lo (by show s.sz < 65536; have := h.hi; omega) (s := ([], 0)) rfl (by simp)
  have : ∀ (xs : List Pt) (t : PSt), (∀ x ∈ xs, mayP x = true) → t.2 = 0 → t.1.length + xs.length * 35 ≤ 65536 → xs.foldl (fun t x => putP x t) t = xs.foldl (fun t x => rputP x t) t ∧ (xs.foldl (fun t x => putP x t) t).2 = 0 := by
    intro xs
    induction xs with
    | nil => intro t _ h _; exact ⟨rfl, h⟩
    | cons x xs ih =>
      intro t hm h0 hl
      simp only [List.length_cons] at hl
      obtain ⟨e, z, l⟩ := putP_both (hm x (by simp)) h0 (by omega)
      simp only [List.foldl_cons]
      rw [← e]
      exact ih _ (fun y hy => hm y (by simp [hy])) z (by omega)
  have hf := h.few
  have l0 := H0.2.2
  obtain ⟨e, z⟩ := this s.L _ h.may H0.2.1 (by simp at l0; omega)
  unfold wrB rwrB wrK rwrK
  rw [List.take_length, ← H0.1]
  exact ⟨e, z⟩
theorem bytes_same {s : Bk} (h : GoodB s) : (rwrB s ([], 0)).1 = bytesB s := by
  obtain ⟨e, z⟩ := wr_same h
  unfold bytesB
  rw [if_pos z, e]
end Go.Proofs.Ytdfhoanilbfkiaa


/- blocks: the laws' Looks. -/
namespace Go.Proofs.Ytdfhoanilbfkiaa
open Go.RowKit Go.Shelf
set_option maxRecDepth 100000
set_option linter.unusedSimpArgs false

theorem eqL_self (xs : List Pt) : eqL xs xs = true := by simp [eqL]
theorem eqP_self (x : Pt) : eqP x x = true := eqP_is.2 rfl

set_option maxHeartbeats 12800000 in
theorem lLooks_any {w : World} {M F : List Nat} {q p : Nat} {s : Bk} (h : BkAt w M q s) (hM : ∀ b ∈ M, b < w.heap.size) (hr : RkAt w p F s) :
    Calls Try.prog 20 #[.pointer (some ⟨q, 0, none⟩), .pointer (some ⟨p, 0, none⟩)] w fun e w' => e = .returned (.bool true) ∧ Keeps [] w w' := by
  have H := hid h
  have HR := hid hr
  have HM := hid hM
  have HG := hid h.good
  have HFW := hid hr.few
  have HPL := hid (show p < w.heap.size by obtain ⟨⟨v, hb, _⟩, _⟩ := hr; exact lt_of_block hb)
  obtain ⟨a, c, hb, _, _, _⟩ := hr.cells
  have HB := hid hb
  obtain ⟨c0, c1, f0, f1⟩ := two_cells hb
  have HC0 := hid c0
  have HC1 := hid c1
  have HWS := hid (bytes_same h.good)
  have HBL := hid (bytesB_len s)
  obtain ⟨ps, hps⟩ : ∃ l, l = s.L.filter keepZ := ⟨_, rfl⟩
  have HP := hid hps
  have HPS := hid (show ps.length ≤ 64 by rw [hps]; exact Nat.le_trans (filterZ_le _) hr.few)
  clear h hr hM hb c0 c1 f0 f1 hps
  have KD := hid ((Keeps.refl [] w).drew)
  go_enter Try.func20, Try.ntmps20
  go_wp2_with fail
  refine wp_region_any (by kernel_rfl) (wpAny_of_held (S := KpS [] w.heap.size w.drew) _ _ _ _ ?_)
  change wpAnyH _ _ _ _ _ _ _ _ w.drew
  have s0 : KpS [] w.heap.size w.drew w.drew := KpS.refl _ _ _
  have cA : ∀ W1, KpS [] w.heap.size w.drew W1 → W1.cell? ⟨p, 0, none⟩ = some (.int .i64 s.sz) := fun W1 h => h.cell (by rw [World.cell?_drew]; exact HC0.out) HPL.out (by simp)
  have cB : ∀ W1, KpS [] w.heap.size w.drew W1 → W1.cell? ⟨p, 1, none⟩ = some (.slice a s.L.length c) := fun W1 h => h.cell (by rw [World.cell?_drew]; exact HC1.out) HPL.out (by simp)
  refine held_take (i := 0) (v := .pointer (some ⟨q, 0, none⟩)) rfl (by kernel_rfl) (by kernel_rfl) (by kernel_rfl) (fun _ _ _ h => h) rfl (fun W1 hW1 => rfl) (KpS.refl _ _ _) ?_
  simp only [Act.put, List.setIfInBounds_toArray, List.set_cons_zero, List.set_cons_succ]
  refine held_take (i := 2) (v := .pointer (some ⟨p, 0, none⟩)) rfl (by kernel_rfl) (by kernel_rfl) (by kernel_rfl) (fun _ _ _ h => h) rfl (fun W1 hW1 => rfl) (KpS.refl _ _ _) ?_
  simp only [Act.put, List.setIfInBounds_toArray, List.set_cons_zero, List.set_cons_succ]
  refine held_take (i := 3) (v := .pointer (some ⟨p, 0, none⟩)) rfl (by kernel_rfl) (by kernel_rfl) (by kernel_rfl) (fun _ _ _ h => h) rfl (fun W1 hW1 => by go_simp) (KpS.refl _ _ _) ?_
  simp only [Act.put, List.setIfInBounds_toArray, List.set_cons_zero, List.set_cons_succ]
  refine held_take (i := 4) (v := .pointer (some ⟨p, 0, none⟩)) rfl (by kernel_rfl) (by kernel_rfl) (by kernel_rfl) (fun _ _ _ h => h) rfl (fun W1 hW1 => by go_simp) (KpS.refl _ _ _) ?_
  simp only [Act.put, List.setIfInBounds_toArray, List.set_cons_zero, List.set_cons_succ]
  refine held_take (i := 5) (v := .int .i64 s.sz) rfl (by kernel_rfl) (by kernel_rfl) (by kernel_rfl) (fun _ _ _ h => h) rfl (fun W1 hW1 => exec_load _ _ _ _ rfl rfl (run_loadCell W1 _ _ _ (cA W1 hW1) (agg_no _ (by kernel_rfl)))) (KpS.refl _ _ _) ?_
  simp only [Act.put, List.setIfInBounds_toArray, List.set_cons_zero, List.set_cons_succ]
  refine held_do (i := 1) (by kernel_rfl) rfl rfl (wp_enter (f := 14) (args := #[.pointer (some ⟨q, 0, none⟩)]) (by go_simp) (zSize_any (H.out.later KD.out)) ?_)
  rintro e _ ⟨rfl, rfl⟩
  refine ⟨_, rfl, s0, ?_⟩
  simp only [Act.put, List.setIfInBounds_toArray, List.set_cons_zero, List.set_cons_succ]
  refine held_take (i := 6) (v := .bool false) rfl (by kernel_rfl) (by kernel_rfl) (by kernel_rfl) (fun _ _ _ h => h) rfl (fun W1 hW1 => by go_simp) (KpS.refl _ _ _) ?_
  simp only [Act.put, List.setIfInBounds_toArray, List.set_cons_zero, List.set_cons_succ]
  refine held_take (i := 7) (v := .bool false) rfl (by kernel_rfl) (by kernel_rfl) (by kernel_rfl) (fun _ _ _ h => h) rfl (fun W1 hW1 => by go_simp) (KpS.refl _ _ _) ?_
  simp only [Act.put, List.setIfInBounds_toArray, List.set_cons_zero, List.set_cons_succ]
  refine held_takeW (i := 8) (v := .pointer (some ⟨q, 0, none⟩)) rfl (by kernel_rfl) (by kernel_rfl) (by kernel_rfl) (fun _ _ _ h => h) rfl (fun W1 hW1 => by go_simp) (KpS.refl _ _ _) ?_
  simp only [Act.put, List.setIfInBounds_toArray, List.set_cons_zero, List.set_cons_succ]
  refine held_takeW (i := 10) (v := .pointer (some ⟨p, 0, none⟩)) rfl (by kernel_rfl) (by kernel_rfl) (by kernel_rfl) (fun _ _ _ h => h) rfl (fun W1 hW1 => by go_simp) (KpS.refl _ _ _) ?_
  simp only [Act.put, List.setIfInBounds_toArray, List.set_cons_zero, List.set_cons_succ]
  refine held_takeW (i := 11) (v := .pointer (some ⟨p, 0, none⟩)) rfl (by kernel_rfl) (by kernel_rfl) (by kernel_rfl) (fun _ _ _ h => h) rfl (fun W1 hW1 => by go_simp) (KpS.refl _ _ _) ?_
  simp only [Act.put, List.setIfInBounds_toArray, List.set_cons_zero, List.set_cons_succ]
  refine held_takeW (i := 12) (v := .pointer (some ⟨p, 1, none⟩)) rfl (by kernel_rfl) (by kernel_rfl) (by kernel_rfl) (fun _ _ _ h => h) rfl (fun W1 hW1 => by go_simp) (KpS.refl _ _ _) ?_
  simp only [Act.put, List.setIfInBounds_toArray, List.set_cons_zero, List.set_cons_succ]
  refine held_takeW (i := 13) (v := .slice a s.L.length c) rfl (by kernel_rfl) (by kernel_rfl) (by kernel_rfl) (fun _ _ _ h => h) rfl (fun W1 hW1 => exec_load _ _ _ _ rfl rfl (run_loadCell W1 _ _ _ (cB W1 hW1) (agg_no _ (by kernel_rfl)))) (KpS.refl _ _ _) ?_
  simp only [Act.put, List.setIfInBounds_toArray, List.set_cons_zero, List.set_cons_succ]
  refine held_takeW (i := 14) (v := .int .i64 (s.L.length : Int)) rfl (by kernel_rfl) (by kernel_rfl) (by kernel_rfl) (fun _ _ _ h => h) rfl (fun W1 hW1 => by go_simp) (KpS.refl _ _ _) ?_
  simp only [Act.put, List.setIfInBounds_toArray, List.set_cons_zero, List.set_cons_succ]
  refine held_doW (i := 9) (by kernel_rfl) rfl rfl (wp_enter (f := 15) (args := #[.pointer (some ⟨q, 0, none⟩)]) (by go_simp) (zCount_any (H.out.later KD.out)) ?_)
  rintro e _ ⟨rfl, rfl⟩
  refine ⟨_, rfl, s0, ?_⟩
  simp only [Act.put, List.setIfInBounds_toArray, List.set_cons_zero, List.set_cons_succ]
  refine held_takeW (i := 15) (v := .bool false) rfl (by kernel_rfl) (by kernel_rfl) (by kernel_rfl) (fun _ _ _ h => h) rfl (fun W1 hW1 => by go_simp) (KpS.refl _ _ _) ?_
  simp only [Act.put, List.setIfInBounds_toArray, List.set_cons_zero, List.set_cons_succ]
  refine held_take (i := 16) (v := .bool false) rfl (by kernel_rfl) (by kernel_rfl) (by kernel_rfl) (fun _ _ _ h => h) rfl (fun W1 hW1 => by go_simp) (KpS.refl _ _ _) ?_
  simp only [Act.put, List.setIfInBounds_toArray, List.set_cons_zero, List.set_cons_succ]
  refine held_take (i := 17) (v := .bool false) rfl (by kernel_rfl) (by kernel_rfl) (by kernel_rfl) (fun _ _ _ h => h) rfl (fun W1 hW1 => by go_simp) (KpS.refl _ _ _) ?_
  simp only [Act.put, List.setIfInBounds_toArray, List.set_cons_zero, List.set_cons_succ]
  refine held_takeW (i := 18) (v := .pointer (some ⟨q, 0, none⟩)) rfl (by kernel_rfl) (by kernel_rfl) (by kernel_rfl) (fun _ _ _ h => h) rfl (fun W1 hW1 => by go_simp) (KpS.refl _ _ _) ?_
  simp only [Act.put, List.setIfInBounds_toArray, List.set_cons_zero, List.set_cons_succ]
  refine held_takeW (i := 20) (v := .pointer (some ⟨p, 0, none⟩)) rfl (by kernel_rfl) (by kernel_rfl) (by kernel_rfl) (fun _ _ _ h => h) rfl (fun W1 hW1 => by go_simp) (KpS.refl _ _ _) ?_
  simp only [Act.put, List.setIfInBounds_toArray, List.set_cons_zero, List.set_cons_succ]
  refine held_doW (i := 19) (by kernel_rfl) rfl rfl (wp_enter (f := 29) (args := #[.pointer (some ⟨q, 0, none⟩)]) (by go_simp) (zPtrs_any (H.out.later KD.out) HM.out) ?_)
  rw [← HP.out]
  rintro e w2 ⟨a2, c2, rfl, o2, k2⟩
  have s2 : KpS [] w.heap.size w.drew w2 := s0.keeps k2 s0.size (by simp)
  have O2 := hid o2.at
  have K2 := hid (KD.out.trans k2)
  clear o2 k2
  refine ⟨_, rfl, s2, ?_⟩
  simp only [Act.put, List.setIfInBounds_toArray, List.set_cons_zero, List.set_cons_succ]
  refine held_doW (i := 21) (by kernel_rfl) rfl rfl (wp_enter (f := 36) (args := #[.pointer (some ⟨p, 0, none⟩)]) (by go_simp) (rPtrs_any (HR.out.later K2.out)) ?_)
  rw [← HP.out]
  rintro e w3 ⟨a3, c3, rfl, o3, k3⟩
  have s3 : KpS [] w.heap.size w.drew w3 := s2.keeps k3 s2.size (by simp)
  have O3 := hid o3.at
  have V3 := hid (O2.out.later k3)
  have K3 := hid (K2.out.trans k3)
  clear o3 k3
  refine ⟨_, rfl, s3, ?_⟩
  simp only [Act.put, List.setIfInBounds_toArray, List.set_cons_zero, List.set_cons_succ]
  refine held_doW (i := 22) (by kernel_rfl) rfl rfl (wp_enter (f := 17) (args := #[.slice a2 ps.length c2, .slice a3 ps.length c3]) (by go_simp) (lPtrs_any w3 M [] _ _ ps ps V3.out O3.out (by have := HPS.out; omega) (by have := HPS.out; omega)) ?_)
  rw [eqL_self]
  rintro e w4 ⟨rfl, k4⟩
  have s4 : KpS [] w.heap.size w.drew w4 := s3.keeps k4 s3.size (by simp)
  have K4 := hid (K3.out.trans k4)
  clear k4
  refine ⟨_, rfl, s4, ?_⟩
  simp only [Act.put, List.setIfInBounds_toArray, List.set_cons_zero, List.set_cons_succ]
  refine held_takeW (i := 23) (v := .bool false) rfl (by kernel_rfl) (by kernel_rfl) (by kernel_rfl) (fun _ _ _ h => h) rfl (fun W1 hW1 => by go_simp) (s4) ?_
  simp only [Act.put, List.setIfInBounds_toArray, List.set_cons_zero, List.set_cons_succ]
  refine held_take (i := 24) (v := .bool false) rfl (by kernel_rfl) (by kernel_rfl) (by kernel_rfl) (fun _ _ _ h => h) rfl (fun W1 hW1 => by go_simp) (s4) ?_
  simp only [Act.put, List.setIfInBounds_toArray, List.set_cons_zero, List.set_cons_succ]
  refine wpAnyH_done (by kernel_rfl) ?_ _
  clear cA cB s0 s2 s3 s4
  go_wp2_with fail
  go_loopw [5] (fun iv wr => ∃ k : Nat, k ≤ s.L.length + 2 ∧ iv = .int .i64 ((k : Int) - 1) ∧ Keeps [] w wr) (fun iv _ => s.L.length + 2 - (intOf iv + 1).toNat)
  case atStart => exact ⟨0, by omega, rfl, K4.out⟩
  case round =>
    obtain ⟨k, hk, rfl, hkp⟩ := hrel
    have KK := hid hkp
    have d1 := (two_cells ((hkp.block p HPL.out (by simp)).trans HB.out)).2.1
    clear hkp
    by_cases hlt : k < s.L.length + 2
    · have hk66 : k < 66 := by have := HFW.out; omega
      go_wp2_with fail
      refine (zAt_any (H.out.later KK.out) ((k : Int) - 1)).mono ?_
      obtain ⟨y, hy⟩ : ∃ y, y = atB s.L ((k : Int) - 1) := ⟨_, rfl⟩
      have HY := hid hy
      clear hy
      rw [← HY.out]
      rintro e w5 ⟨rfl, k5⟩
      have K5 := hid (KK.out.trans k5)
      clear k5
      go_wp2_with fail
      refine (rAt_any11 (HR.out.later K5.out) ((k : Int) - 1)).mono ?_
      rw [← HY.out]
      rintro e w6 ⟨rfl, k6⟩
      have K6 := hid (K5.out.trans k6)
      clear k6
      go_wp2_with (first | (refine wpList_isW rfl (.bool false) _ ((exec_neqPts _ _ _ y y rfl rfl rfl).trans (by rw [eqP_self]; rfl)) ?_) | fail)
      go_roundw
      case rel => exact ⟨k + 1, by omega, by go_num, K6.out⟩
      case measure => simp [intOf]; omega
    · obtain rfl : k = s.L.length + 2 := by omega
      go_wp2_with fail
      have P1 := hid (PenSince.new w KK.out 72)
      refine (rWrite_any11 (HR.out.later P1.out.kept) w.heap.size wr.heap.size (.slice none 0 0) ([], 0) P1.out.pen P1.out.kept.size (fun b hb hm => by
        have := HR.out.lt b hb
        have := KK.out.size
        simp [Value.ownBlock] at hm
        omega)).mono ?_
      intro e w2 hq
      obtain ⟨rfl, v2, q2⟩ := P1.out.step hq
      rw [HWS.out] at q2
      have P2 := hid q2
      have HBB := hid (lt_of_block q2.pen.blk)
      have b0 := (two_cells q2.pen.blk).1
      have RW := hid (row_of_own q2.pen.own q2.pen.byte)
      have B0 := hid b0
      clear q2 hq b0
      go_wp2_with fail
      refine wp_region_any (by kernel_rfl) (wpAny_of_held (S := KpS [] w2.heap.size w2.drew) _ _ _ _ ?_)
      change wpAnyH _ _ _ _ _ _ _ _ w2.drew
      have s0 : KpS [] w2.heap.size w2.drew w2.drew := KpS.refl _ _ _
      have cA : ∀ W1, KpS [] w2.heap.size w2.drew W1 → W1.cell? ⟨wr.heap.size, 0, none⟩ = some v2 := fun W1 h => h.cell (by rw [World.cell?_drew]; exact B0.out) HBB.out (by simp)
      refine held_take (i := 0) (v := .pointer (some ⟨q, 0, none⟩)) rfl (by kernel_rfl) (by kernel_rfl) (by kernel_rfl) (fun _ _ _ h => h) rfl (fun W1 hW1 => rfl) (KpS.refl _ _ _) ?_
      simp only [Act.put, List.setIfInBounds_toArray, List.set_cons_zero, List.set_cons_succ]
      refine held_take (i := 2) (v := .pointer (some ⟨wr.heap.size, 0, none⟩)) rfl (by kernel_rfl) (by kernel_rfl) (by kernel_rfl) (fun _ _ _ h => h) rfl (fun W1 hW1 => rfl) (KpS.refl _ _ _) ?_
      simp only [Act.put, List.setIfInBounds_toArray, List.set_cons_zero, List.set_cons_succ]
      refine held_take (i := 3) (v := .pointer (some ⟨wr.heap.size, 0, none⟩)) rfl (by kernel_rfl) (by kernel_rfl) (by kernel_rfl) (fun _ _ _ h => h) rfl (fun W1 hW1 => by go_simp) (KpS.refl _ _ _) ?_
      simp only [Act.put, List.setIfInBounds_toArray, List.set_cons_zero, List.set_cons_succ]
      refine held_take (i := 4) (v := .pointer (some ⟨wr.heap.size, 0, none⟩)) rfl (by kernel_rfl) (by kernel_rfl) (by kernel_rfl) (fun _ _ _ h => h) rfl (fun W1 hW1 => by go_simp) (KpS.refl _ _ _) ?_
      simp only [Act.put, List.setIfInBounds_toArray, List.set_cons_zero, List.set_cons_succ]
      refine held_take (i := 5) (v := v2) rfl (by kernel_rfl) (by kernel_rfl) (by kernel_rfl) (fun _ _ _ h => h) rfl (fun W1 hW1 => exec_load _ _ _ _ rfl rfl (run_loadCell W1 _ _ _ (cA W1 hW1) (agg_no _ (by kernel_rfl)))) (KpS.refl _ _ _) ?_
      simp only [Act.put, List.setIfInBounds_toArray, List.set_cons_zero, List.set_cons_succ]
      refine held_do (i := 1) (by kernel_rfl) rfl rfl (wp_enter (f := 27) (args := #[.pointer (some ⟨q, 0, none⟩)]) (by go_simp) (lBytes11_any (H.out.later P2.out.kept.drew)) ?_)
      rintro e w3 ⟨a3, c3, rfl, r3, _, k3⟩
      have s3 : KpS [] w2.heap.size w2.drew w3 := s0.keeps k3 s0.size (by simp)
      have R3 := hid r3
      have K3 := hid (P2.out.kept.drew.trans k3)
      have RV := hid (RW.out.keep (((Keeps.refl [] w2).drew).trans k3) (by intro _ _ _ _ _; simp))
      clear r3 k3
      refine ⟨_, rfl, s3, ?_⟩
      simp only [Act.put, List.setIfInBounds_toArray, List.set_cons_zero, List.set_cons_succ]
      refine held_do (i := 6) (by kernel_rfl) rfl rfl (wp_enter (f := 41) (args := #[.slice a3 (bytesB s).length c3, v2]) (by go_simp) (same_any w3 _ _ (bytesB s) (bytesB s) R3.out RV.out (by have := HBL.out; omega) (by have := HBL.out; omega)) ?_)
      rw [show decide (bytesB s = bytesB s) = true from decide_eq_true rfl]
      rintro e w4 ⟨rfl, n, rfl⟩
      have k4 : Keeps [] w3 (w3.drewN n) := Keeps.drewN (Keeps.refl [] w3) n
      have s4 : KpS [] w2.heap.size w2.drew (w3.drewN n) := s3.keeps k4 s3.size (by simp)
      have K4 := hid (K3.out.trans k4)
      refine ⟨_, rfl, s4, ?_⟩
      simp only [Act.put, List.setIfInBounds_toArray, List.set_cons_zero, List.set_cons_succ]
      refine held_take (i := 7) (v := .bool true) rfl (by kernel_rfl) (by kernel_rfl) (by kernel_rfl) (fun _ _ _ h => h) rfl (fun W1 hW1 => by go_simp) (s4) ?_
      simp only [Act.put, List.setIfInBounds_toArray, List.set_cons_zero, List.set_cons_succ]
      refine wpAnyH_done (by kernel_rfl) ?_ _
      clear cA s0 s3 s4 k4
      go_wp2_with fail
      go_ret
      exact ⟨rfl, K4.out⟩
end Go.Proofs.Ytdfhoanilbfkiaa


/- blocks: the reference's change, a kind. -/
namespace Go.Proofs.Ytdfhoanilbfkiaa
open Go.RowKit Go.Shelf
set_option maxRecDepth 100000
set_option linter.unusedSimpArgs false

set_option maxHeartbeats 12800000 in
theorem rChangeNo_any {w : World} {q : Nat} {F : List Nat} {s : Bk} (h : RkAt w q F s) (hg : GoodB s) (x : Dl) (h1 : ¬ x.d = 1) (h2 : ¬ x.d = 2) (h3 : ¬ x.d = 3) : Calls Try.prog 37 #[.pointer (some ⟨q, 0, none⟩), dlV x] w (RchPost w q F s x) := by
  have H := hid h
  have HG := hid hg
  have ka : Keeps [] w (w.alloc (.cells x.cells.toArray 34)) := (Keeps.refl [] w).alloc _
  have HA := hid (h.later ka)
  have RA := hid (range_new w x.cells 34)
  have DA := hid (dl_range RA.out)
  have KA := hid ka
  have HSZ := hid (show w.heap.size < (w.alloc (.cells x.cells.toArray 34)).heap.size by simp)
  have HFW := hid h.lt
  have d0 := DA.out.c0
  have d2 := DA.out.c2
  have d3 := DA.out.c3
  simp only [Nat.zero_add] at d2 d3
  obtain ⟨r, hr⟩ : ∃ r, r = mayD s x := ⟨_, rfl⟩
  unfold mayD at hr
  have HR := hid hr
  have HRE := hid (show r = mayD s x by rw [hr]; rfl)
  clear h hg ka hr
  have e1 : (x.d == 1) = false := by simpa using h1
  have e2 : (x.d == 2) = false := by simpa using h2
  have e3 : (x.d == 3) = false := by simpa using h3
  rw [if_neg h1, if_neg h2, if_neg h3] at HR
  clear h1 h2 h3
  go_enter Try.func37, Try.ntmps37
  go_wp2_with (first | (refine wpList_is rfl _ _ (exec_box 34 _ x.cells.toArray rfl rfl) ?_) | fail)
  go_ret
  exact rch_no H.out (by rw [← HRE.out, HR.out]) KA.out

theorem rChange_any {w : World} {q : Nat} {F : List Nat} {s : Bk} (h : RkAt w q F s) (hg : GoodB s) (x : Dl) : Calls Try.prog 37 #[.pointer (some ⟨q, 0, none⟩), dlV x] w (RchPost w q F s x) := by
  by_cases h1 : x.d = 1
  · exact rChangePut_any h hg x h1
  · by_cases h2 : x.d = 2
    · exact rChangeCut_any h hg x h1 h2
    · by_cases h3 : x.d = 3
      · exact rChangeMove_any h hg x h1 h2 h3
      · exact rChangeNo_any h hg x h1 h2 h3
end Go.Proofs.Ytdfhoanilbfkiaa


/- blocks: the reference's Apply. -/
namespace Go.Proofs.Ytdfhoanilbfkiaa
open Go.RowKit Go.Shelf
set_option maxRecDepth 100000
set_option linter.unusedSimpArgs false

def lostS (has l : List Pt) (x : Pt) : List Pt := if (!hasP has x && !hasP l x) = true then l ++ [x] else l
def lostL (had has : List Pt) : List Pt := had.foldl (lostS has) []
theorem lostL_snoc (had has : List Pt) (k : Nat) (h : k < had.length) : lostL (had.take (k + 1)) has = lostS has (lostL (had.take k) has) had[k] := by
  unfold lostL
  rw [List.take_succ_eq_append_getElem h, List.foldl_append]
  rfl
theorem lostL_le (had has : List Pt) : (lostL had has).length ≤ had.length := by
  have : ∀ (xs l : List Pt), (xs.foldl (lostS has) l).length ≤ l.length + xs.length := by
    intro xs
    induction xs with
    | nil => intro l; simp
    | cons x xs ih =>
      intro l
      have := ih (lostS has l x)
      have h2 : (lostS has l x).length ≤ l.length + 1 := by unfold lostS; split <;> simp
      simp only [List.foldl_cons, List.length_cons]
      omega
  simpa [lostL] using this had []
theorem hasP_keep {has : List Pt} {x : Pt} (h : zB x = false) : hasP (has.filter keepZ) x = hasP has x := by
  rw [Bool.eq_iff_iff, hasP_is, hasP_is, List.mem_filter]
  exact ⟨fun h => h.1, fun hm => ⟨hm, by unfold keepZ; rw [h]; rfl⟩⟩
theorem lost_gone (had has : List Pt) : lostL (had.filter keepZ) (has.filter keepZ) = goneL had has := by
  unfold lostL goneL
  have : ∀ (xs l : List Pt), (xs.filter keepZ).foldl (lostS (has.filter keepZ)) l = xs.foldl (goneS has) l := by
    intro xs
    induction xs with
    | nil => intro l; rfl
    | cons x xs ih =>
      intro l
      cases hz : zB x with
      | true =>
        have h1 : keepZ x = false := by unfold keepZ; rw [hz]; rfl
        have h2 : goneS has l x = l := by unfold goneS; rw [hz]; rfl
        rw [List.filter_cons_of_neg (by rw [h1]; simp), List.foldl_cons, h2, ih]
      | false =>
        have h1 : keepZ x = true := by unfold keepZ; rw [hz]; rfl
        have h2 : lostS (has.filter keepZ) l x = goneS has l x := by unfold lostS goneS; rw [hasP_keep hz, hz]; rfl
        rw [List.filter_cons_of_pos h1, List.foldl_cons, List.foldl_cons, h2, ih]
  exact this had []

def RapPost (w : World) (q : Nat) (F : List Nat) (s : Bk) (x : Dl) (e : Ending) (w' : World) : Prop :=
  ∃ a c, e = .returned (.tuple #[.slice a (goneD s x).length c, .bool (mayD s x)]) ∧ PtsAt w' [] (.slice a (goneD s x).length c) (goneD s x) ∧ ∃ F', RkAt w' q F' (stepD s x) ∧ Keeps F w w' ∧ ∀ b ∈ F', b ∈ F ∨ w.heap.size ≤ b

set_option maxHeartbeats 12800000 in
theorem rApply_any {w : World} {q : Nat} {F : List Nat} {s : Bk} (h : RkAt w q F s) (hg : GoodB s) (x : Dl) : Calls Try.prog 19 #[.pointer (some ⟨q, 0, none⟩), dlV x] w (RapPost w q F s x) := by
  have H := hid h
  have HG := hid hg
  have ka : Keeps [] w (w.alloc (.cells x.cells.toArray 34)) := (Keeps.refl [] w).alloc _
  have HA := hid (h.later ka)
  have RA := hid (range_new w x.cells 34)
  have KA := hid ka
  have HSZ := hid (show w.heap.size < (w.alloc (.cells x.cells.toArray 34)).heap.size by simp)
  have HFW := hid h.lt
  obtain ⟨m, hm⟩ : ∃ m, m = mayD s x := ⟨_, rfl⟩
  have HM := hid hm
  obtain ⟨old, hold⟩ : ∃ l, l = s.L.filter keepZ := ⟨_, rfl⟩
  have HOLD := hid hold
  have HOL := hid (show old.length ≤ 64 by rw [hold]; exact Nat.le_trans (filterZ_le _) h.few)
  clear h hg ka hm hold
  go_enter Try.func19, Try.ntmps19
  go_wp2_with (first | (refine wpList_is rfl _ _ (exec_box 34 _ x.cells.toArray rfl rfl) ?_) | fail)
  refine (rPtrs_any HA.out).mono ?_
  rw [← HOLD.out]
  rintro e w2 ⟨a2, c2, rfl, o2, k2⟩
  have H2 := hid (HA.out.later k2)
  have R2 := hid (range_keep RA.out k2 (by simp))
  have K2 := hid (KA.out.trans k2)
  have HS2 := hid (show w.heap.size < w2.heap.size by have := HSZ.out; have := k2.size; omega)
  have O2 := hid (show OwnP w2 (w.alloc (.cells x.cells.toArray 34)).heap.size F (.slice a2 old.length c2) old from ⟨o2.row, fun b hb => Nat.lt_trans (HFW.out b hb) HSZ.out⟩)
  clear o2 k2
  go_wp2_with (first | (refine wpList_isW rfl _ _ (exec_load _ _ _ _ rfl rfl (loadDl_run _ w.heap.size 0 x R2.out)) ?_) | fail)
  refine (rChange_any H2.out HG.out x).mono ?_
  rw [show RchPost w2 q F s x = fun e w' => e = .returned (.bool m) ∧ ∃ F', RkAt w' q F' (stepD s x) ∧ Keeps F w2 w' ∧ ∀ b ∈ F', b ∈ F ∨ w2.heap.size ≤ b from by unfold RchPost; rw [HM.out]]
  rintro e w3 ⟨rfl, F3, h3, k3, f3⟩
  have H3 := hid h3
  have HF := hid HFW.out
  have K3 := hid ((K2.out.mono (S' := F) (by simp)).trans k3)
  have FF3 := hid (show ∀ b ∈ F3, b ∈ F ∨ w.heap.size ≤ b from fun b hb => (f3 b hb).imp id (fun h => by have := HS2.out; omega))
  have O3 := hid ((O2.out.keep k3 (fun b hb => hb)).at)
  clear h3 k3 f3
  cases m with
  | false =>
    have E := hid (show mayD s x = false from HM.out.symm)
    go_wp2_with fail
    go_ret2
    have e1 : goneD s x = [] := by unfold goneD; rw [if_neg (by rw [E.out]; simp)]
    exact ⟨none, 0, by rw [e1, E.out]; rfl, by rw [e1]; exact PtsAt.nil _ _, F3, H3.out, K3.out, FF3.out⟩
  | true =>
    have E := hid (show mayD s x = true from HM.out.symm)
    have EG := hid (show lostL old ((stepD s x).L.filter keepZ) = goneD s x by rw [HOLD.out, lost_gone]; unfold goneD stepD; rw [if_pos E.out, if_pos E.out])
    go_wp2_with fail
    refine (rPtrs_any H3.out).mono ?_
    obtain ⟨now, hnow⟩ : ∃ l, l = (stepD s x).L.filter keepZ := ⟨_, rfl⟩
    have HNL := hid (show now.length ≤ 64 by rw [hnow]; exact Nat.le_trans (filterZ_le _) H3.out.few)
    rw [← hnow] at EG ⊢
    clear hnow
    rintro e w4 ⟨a4, c4, rfl, o4, k4⟩
    have H4 := hid (H3.out.later k4)
    have O4 := hid o4.at
    have V4 := hid (O3.out.later k4)
    have K4 := hid (K3.out.trans (k4.mono (by simp)))
    clear o4 k4
    go_wp2_with fail
    go_loopw [9, 10] (fun lv kv wr => ∃ (k : Nat) (b : Option Addr) (n d : Nat), kv = .int .i64 k ∧ k ≤ old.length ∧ lv = .slice b n d ∧ n = (lostL (old.take k) now).length ∧ OwnP wr w4.heap.size [] (.slice b n d) (lostL (old.take k) now) ∧ Keeps [] w4 wr) (fun _ kv _ => old.length - (intOf kv).toNat)
    case atStart => exact ⟨0, none, 0, 0, rfl, Nat.zero_le _, rfl, rfl, OwnP.nil _ _ _ (by simp), Keeps.refl _ _⟩
    case round =>
      obtain ⟨k, b, n, d, rfl, hk, rfl, hn, ho, hkp⟩ := hrel
      have HN := hid hn
      have HO := hid ho
      have HK := hid hkp
      clear hn ho hkp
      by_cases hlt : k < old.length
      · have hk64 : k < 64 := by have := HOL.out; omega
        have HE := hid (lostL_snoc old now k hlt)
        obtain ⟨g, off, rfl, _, hcap, hgg, hgM, hr⟩ := (V4.out.later HK.out).open (by omega)
        have R0 := range_pt hr k hlt
        obtain ⟨y, hy⟩ : ∃ y, y = old[k] := ⟨_, rfl⟩
        rw [← hy] at HE R0
        have R := hid R0
        obtain ⟨L, hL⟩ : ∃ L, L = lostL (old.take k) now := ⟨_, rfl⟩
        have HLL := hid (show L.length ≤ 64 by rw [hL]; have := lostL_le (old.take k) now; rw [List.length_take] at this; omega)
        rw [← hL] at HN HO HE
        clear hr hcap hgg hgM R0 hy hL
        cases hc : hasP now y with
        | true =>
          have HC := hid hc
          clear hc
          go_wp2_with (first | go_big_skip | (refine wpList_isW rfl _ _ (exec_load _ _ _ _ rfl rfl (loadPt_run _ g (off + k * 5) y R.out)) ?_) | fail)
          refine (rIn_any wr [] _ now (O4.out.later HK.out) (by have := HNL.out; omega) y).mono ?_
          rintro e w5 ⟨rfl, k5⟩
          have K5 := hid k5
          have R5 := hid (range_keep R.out k5 (by simp))
          clear k5
          rw [HC.out]
          go_wp2_with (first | go_big_skip | fail)
          go_roundw
          case rel =>
            refine ⟨k + 1, b, n, d, by go_num, by omega, rfl, ?_, ?_, HK.out.trans K5.out⟩
            · rw [HE.out]; unfold lostS; rw [HC.out]; exact HN.out
            · rw [HE.out]; unfold lostS; rw [HC.out]; exact HO.out.later K5.out
          case measure => simp [intOf]; omega
        | false =>
          have HC := hid hc
          clear hc
          cases hd : hasP L y with
          | true =>
            have HD := hid hd
            clear hd
            go_wp2_with (first | go_big_skip | (refine wpList_isW rfl _ _ (exec_load _ _ _ _ rfl rfl (loadPt_run _ g (off + k * 5) y R.out)) ?_) | fail)
            refine (rIn_any wr [] _ now (O4.out.later HK.out) (by have := HNL.out; omega) y).mono ?_
            rintro e w5 ⟨rfl, k5⟩
            have K5 := hid k5
            have R5 := hid (range_keep R.out k5 (by simp))
            clear k5
            rw [HC.out]
            go_wp2_with (first | go_big_skip | (refine wpList_isW rfl _ _ (exec_load _ _ _ _ rfl rfl (loadPt_run _ g (off + k * 5) y R5.out)) ?_) | fail)
            refine (rIn_any w5 [] _ L ((HO.out.later K5.out).at) (by have := HLL.out; omega) y).mono ?_
            rintro e w6 ⟨rfl, k6⟩
            have K6 := hid (K5.out.trans k6)
            have R6 := hid (range_keep R5.out k6 (by simp))
            clear k6
            rw [HD.out]
            go_wp2_with (first | go_big_skip | fail)
            go_roundw
            case rel =>
              refine ⟨k + 1, b, n, d, by go_num, by omega, rfl, ?_, ?_, HK.out.trans K6.out⟩
              · rw [HE.out]; unfold lostS; rw [HC.out, HD.out]; exact HN.out
              · rw [HE.out]; unfold lostS; rw [HC.out, HD.out]; exact HO.out.later K6.out
            case measure => simp [intOf]; omega
          | false =>
            have HD := hid hd
            clear hd
            go_wp2_with (first | go_big_skip | (refine wpList_isW rfl _ _ (exec_load _ _ _ _ rfl rfl (loadPt_run _ g (off + k * 5) y R.out)) ?_) | fail)
            refine (rIn_any wr [] _ now (O4.out.later HK.out) (by have := HNL.out; omega) y).mono ?_
            rintro e w5 ⟨rfl, k5⟩
            have K5 := hid k5
            have R5 := hid (range_keep R.out k5 (by simp))
            clear k5
            rw [HC.out]
            go_wp2_with (first | go_big_skip | (refine wpList_isW rfl _ _ (exec_load _ _ _ _ rfl rfl (loadPt_run _ g (off + k * 5) y R5.out)) ?_) | fail)
            refine (rIn_any w5 [] _ L ((HO.out.later K5.out).at) (by have := HLL.out; omega) y).mono ?_
            rintro e w6 ⟨rfl, k6⟩
            have K6 := hid (K5.out.trans k6)
            have R6 := hid (range_keep R5.out k6 (by simp))
            clear k6
            rw [HD.out]
            have OL := HO.out.later K6.out
            have k7 : Keeps [] w6 (w6.alloc (.cells y.cells.toArray 28)) := (Keeps.refl [] w6).alloc _
            have S7 := one_pts w6 [] (by simp) y
            have K7 := hid (K6.out.trans k7)
            obtain ⟨a', c', w8, hrun, o8, k8⟩ := append_pts (OL.later k7) _ _ _ S7 (by have := HLL.out; simp; omega) (by have := HK.out.size; have := K7.out.size; omega) 30
            have O8 := hid o8
            have K8 := hid ((HK.out.trans K7.out).trans' k8 (S := []) (fun i hi hm => by have := (HO.out.blk i (by simpa using hm)).1; omega))
            have RUN := hid hrun
            clear OL k7 S7 hrun o8 k8
            go_wp2_with (first | (refine wpList_isW rfl _ _ (exec_load _ _ _ _ rfl rfl (loadPt_run _ g (off + k * 5) y R6.out)) ?_) | (refine wpList_is rfl _ _ (exec_onePt _ y rfl rfl) ?_) | (refine wpList_is rfl _ _ (exec_appendT 30 _ _ rfl rfl rfl RUN.out) ?_) | fail)
            go_roundw
            case rel =>
              refine ⟨k + 1, a', _, c', by go_num, by omega, rfl, ?_, ?_, K8.out⟩
              · rw [HE.out]; unfold lostS; rw [HC.out, HD.out]; simp
              · rw [HE.out]; unfold lostS; rw [HC.out, HD.out]; exact O8.out
            case measure => simp [intOf]; omega
      · obtain rfl : k = old.length := by omega
        go_wp2_with fail
        go_ret2
        rw [List.take_length, EG.out] at HN HO
        have hkr : Keeps [] w4 wr := HK.out
        exact ⟨b, d, by rw [HN.out, E.out]; rfl, by rw [← HN.out]; exact HO.out.at, F3, H4.out.later hkr, K4.out.trans (hkr.mono (by simp)), FF3.out⟩
end Go.Proofs.Ytdfhoanilbfkiaa


/- blocks: BlocksPlays' walk. -/
namespace Go.Proofs.Ytdfhoanilbfkiaa
open Go.RowKit Go.Shelf
set_option maxRecDepth 100000
set_option linter.unusedSimpArgs false

theorem rk_new (w : World) : RkAt (w.alloc (.cells #[.int .i64 0, .slice none 0 0] 41)) w.heap.size [w.heap.size] bk0 :=
  ⟨⟨.slice none 0 0, heap_alloc_new w _, Or.inl ⟨rfl, rfl⟩, by simp [Value.ownBlock], by simp [Value.ownBlock]⟩, by decide⟩
theorem goneD_few (s : Bk) (d : Dl) (h : GoodB s) : (goneD s d).length ≤ 64 := by
  unfold goneD
  split
  · exact Nat.le_trans (goneL_le _ _) h.few
  · simp
/-- Both maps apart, and the one that was cloned ahead. -/
structure BkI (w0 w : World) (m c p : Nat) (s : Bk) : Prop where
  ex : ∃ M F, BkAt w M m s ∧ BkAt w M c bk0 ∧ RkAt w p F s ∧ (∀ b ∈ F, b ∈ M) ∧ (∀ b ∈ M, w0.heap.size ≤ b ∧ b < w.heap.size) ∧ m ∉ F ∧ c ∉ F ∧ m ≠ c
  kept : Keeps [] w0 w
theorem DlsAt.same {w' : World} {g off n cap : Nat} {ds : List Dl} (h : DlsAt w' (.slice (some ⟨g, off, none⟩) n cap) ds) (i : Nat) (hi : i < ds.length) : g < w'.heap.size ∧ w'.rangeAt g (off + i * 14) ds[i].cells := by
  obtain ⟨g', off', e, hg, hr⟩ := h.at i hi
  injection e with e
  injection e with e1 e2
  subst e1; subst e2
  exact ⟨hg, hr⟩

set_option maxHeartbeats 12800000 in
theorem m11Plays_any (w : World) (v : Value) (ds : List Dl) (hv : DlsAt w v ds) : Calls Try.prog 4 #[v] w fun e w' => e = .returned (.bool true) ∧ Keeps [] w w' := by
  have HV := hid hv
  obtain ⟨a, c, rfl⟩ := hv.shape
  clear hv
  by_cases hl : 150 < ds.length
  · have hl' : decide ((150 : Int) < ds.length) = true := by simp; omega
    go_enter Try.func4, Try.ntmps4
    go_wp2_with fail
    refine (bkAwake_any w).mono ?_
    rintro e w1 ⟨rfl, k1⟩
    have K1 := hid k1
    clear k1
    go_wp2_with fail
    go_ret
    exact ⟨rfl, K1.out⟩
  have hl' : decide ((150 : Int) < ds.length) = false := by simp; omega
  have HL := hid hl
  clear hl
  go_enter Try.func4, Try.ntmps4
  go_wp2_with fail
  refine (bkAwake_any w).mono ?_
  rintro e w1 ⟨rfl, k1⟩
  have K1 := hid k1
  clear k1
  have B0 := hid (bk_new w1 [])
  have K0 : Hid (Keeps [] w1 (w1.alloc (.cells #[.bool true, .int .i64 0, .slice none 0 0] 66))) := hid ((Keeps.refl [] w1).alloc _)
  have N := hid (zNew_any w1)
  go_wp2_with fail
  clear hl'
  refine N.out.mono ?_
  rintro e w2 ⟨rfl, hw⟩
  rw [← hw] at B0 K0
  clear hw N
  obtain ⟨m, hm⟩ : ∃ m, m = w1.heap.size := ⟨_, rfl⟩
  have K2 := hid (K1.out.trans K0.out)
  have HWM := hid (show w.heap.size ≤ m by rw [hm]; exact K1.out.size)
  rw [← hm] at B0 ⊢
  clear hm K0 K1
  have HMW := hid B0.out.lt
  have RK := hid (rk_new w2)
  have KA := hid (K2.out.alloc (.cells #[.int .i64 0, .slice none 0 0] 41))
  have KB := hid ((Keeps.refl [] w2).alloc (.cells #[.int .i64 0, .slice none 0 0] 41))
  have HSZ := hid (show (w2.alloc (.cells #[.int .i64 0, .slice none 0 0] 41)).heap.size = w2.heap.size + 1 by simp)
  go_wp2_with fail
  have B1 := hid ((B0.out.more (N := [w2.heap.size, m]) (fun b hb => by
    simp only [List.mem_cons, List.not_mem_nil, or_false] at hb
    rcases hb with rfl | rfl
    · exact Or.inr (Nat.le_refl _)
    · exact Or.inl (by simp)) (by simp)).later KB.out)
  refine (zClone_any B1.out).mono ?_
  rintro e w3 ⟨rfl, b3, k3, z3⟩
  have HI : Hid (BkI w w3 m (w2.alloc (.cells #[.int .i64 0, .slice none 0 0] 41)).heap.size w2.heap.size bk0) := hid (by
    have h1 := HMW.out
    have h2 := HSZ.out
    have h3 := HWM.out
    have h5 := K2.out.size
    have b1 : BkAt (w2.alloc (.cells #[.int .i64 0, .slice none 0 0] 41)) [(w2.alloc (.cells #[.int .i64 0, .slice none 0 0] 41)).heap.size, w2.heap.size, m] m bk0 := B1.out.more (fun b hb => by
      rcases List.mem_cons.1 hb with rfl | hb
      · exact Or.inr (Nat.le_refl _)
      · exact Or.inl hb) (by simp)
    refine ⟨⟨_, [w2.heap.size], b1.later k3, b3, RK.out.later k3, by simp, ?_, by simp; omega, by simp, by omega⟩, KA.out.trans k3⟩
    intro b hb
    simp only [List.mem_cons, List.not_mem_nil, or_false] at hb
    rcases hb with rfl | rfl | rfl <;> omega)
  have K3 := hid (KA.out.trans k3)
  clear b3 k3 z3 B0 B1 KA KB RK HMW K2 HSZ
  generalize hc : (w2.alloc (.cells #[.int .i64 0, .slice none 0 0] 41)).heap.size = cl at HI ⊢
  clear hc
  generalize hp : w2.heap.size = p at HI ⊢
  clear hp HWM
  go_wp2_with fail
  go_loopw [6] (fun iv wr => ∃ (k : Nat) (s : Bk), iv = .int .i64 k ∧ k ≤ ds.length ∧ BkI w wr m cl p s) (fun iv _ => ds.length - (intOf iv).toNat)
  case atStart => exact ⟨0, bk0, rfl, Nat.zero_le _, HI.out⟩
  case round =>
    obtain ⟨k, s, rfl, hk, hb⟩ := hrel
    clear HI
    have HI := hid hb
    have K := hid hb.kept
    clear hb
    by_cases hlt : k < ds.length
    · have hk150 : k < 150 := by have := HL.out; omega
      obtain ⟨x, hx⟩ : ∃ x, x = ds[k] := ⟨_, rfl⟩
      have HX := hid hx
      clear hx
      obtain ⟨g, off, rfl, hg, hr⟩ := (HV.out.keep K.out).at k hlt
      rw [← HX.out] at hr
      have R := hid hr
      clear hg hr
      obtain ⟨M, F, bm, bc, rk, hFM, hM, hmF, hcF, hmc⟩ := HI.out.ex
      have BM := hid bm
      have BC := hid bc
      have RK := hid rk
      have HFM := hid hFM
      have HM := hid hM
      have HMF := hid hmF
      have HCF := hid hcF
      have HMC := hid hmc
      have HG := hid bm.good
      clear bm bc rk hFM hM hmF hcF hmc
      obtain ⟨bt, hbt⟩ : ∃ b, b = mayD s x := ⟨_, rfl⟩
      obtain ⟨gone, hgone⟩ : ∃ l, l = goneD s x := ⟨_, rfl⟩
      have HGL := hid (show gone.length ≤ 64 by rw [hgone]; exact goneD_few _ _ HG.out)
      have A1 := hid (zApply_any BM.out (fun b hb => (HM.out b hb).2) x)
      unfold ApplyPost at A1
      rw [← hbt, ← hgone] at A1
      have HBT := hid hbt
      have HGO := hid hgone
      clear hbt hgone
      go_wp2_with (first | (refine wpList_isW rfl _ _ (exec_load _ _ _ _ rfl rfl (loadDl_run _ g (off + k * 14) x R.out)) ?_) | fail)
      refine A1.out.mono ?_
      rintro e wb ⟨a2, c2, rfl, o2, b2, k2⟩
      have O2 := hid o2.at
      have BM2 := hid b2
      have BC2 := hid (BC.out.keep k2 (by have := HMC.out; simp; exact fun h => this h.symm) (fun b hb => by simp at hb; rw [hb]; exact BM.out.mem))
      have RK2 := hid (RK.out.keep k2 (fun b hb hm => by simp at hm; subst hm; exact HMF.out hb))
      have KB := hid (K.out.trans' k2 (fun i hi hm => by simp at hm; subst hm; have := (HM.out _ BM.out.mem).1; omega))
      have HS2 := hid k2.size
      clear o2 b2 k2 A1
      have R2 := hid (((HV.out.keep KB.out).same k hlt).2)
      rw [← HX.out] at R2
      have A2 := hid (rApply_any RK2.out HG.out x)
      unfold RapPost at A2
      rw [← HBT.out, ← HGO.out] at A2
      go_wp2_with (first | (refine wpList_isW rfl _ _ (exec_load _ _ _ _ rfl rfl (loadDl_run _ g (off + k * 14) x R2.out)) ?_) | fail)
      refine A2.out.mono ?_
      rintro e wc ⟨a3, c3, rfl, o3, F3, r3, k3, f3⟩
      have O3 := hid o3
      have O2c := hid (O2.out.keep k3 HFM.out)
      have KC := hid (KB.out.trans' k3 (fun i hi hm => by have := (HM.out _ (HFM.out i hm)).1; omega))
      have HIC : Hid (∃ M3, BkAt wc M3 m (stepD s x) ∧ BkAt wc M3 cl bk0 ∧ RkAt wc p F3 (stepD s x) ∧ (∀ b ∈ F3, b ∈ M3) ∧ (∀ b ∈ M3, w.heap.size ≤ b ∧ b < wc.heap.size) ∧ m ∉ F3 ∧ cl ∉ F3 ∧ m ≠ cl) := hid (by
        have hmm := HM.out m BM.out.mem
        have hcm := HM.out cl BC.out.mem
        have h2 := HS2.out
        have h3 := k3.size
        have more : ∀ b ∈ F3 ++ M, b ∈ M ∨ wb.heap.size ≤ b := by
          intro b hb
          rcases List.mem_append.1 hb with hb | hb
          · exact (f3 b hb).imp (HFM.out b) id
          · exact Or.inl hb
        refine ⟨F3 ++ M, (BM2.out.more more (by simp [BM.out.mem])).keep k3 HMF.out (fun b hb => by simp [HFM.out b hb]), (BC2.out.more more (by simp [BC.out.mem])).keep k3 HCF.out (fun b hb => by simp [HFM.out b hb]), r3, fun b hb => by simp [hb], ?_, ?_, ?_, HMC.out⟩
        · intro b hb
          rcases List.mem_append.1 hb with hb | hb
          · refine ⟨?_, r3.lt b hb⟩
            rcases f3 b hb with h | h
            · exact (HM.out b (HFM.out b h)).1
            · omega
          · have := HM.out b hb; omega
        · intro hb
          rcases f3 m hb with h | h
          · exact HMF.out h
          · omega
        · intro hb
          rcases f3 cl hb with h | h
          · exact HCF.out h
          · omega)
      clear o3 r3 k3 f3 A2
      have R3 := hid (((HV.out.keep KC.out).same k hlt))
      rw [← HX.out] at R3
      obtain ⟨M3, bm, bc, rk, hFM, hM, hmF, hcF, hmc⟩ := HIC.out
      have BM3 := hid bm
      have RK3 := hid rk
      have HM3 := hid hM
      clear bm bc rk hFM hM hmF hcF hmc
      obtain ⟨mp, hmp⟩ : ∃ b, b = mayP x.t := ⟨_, rfl⟩
      have HMP := hid hmp
      clear hmp
      have KD := hid ((Keeps.refl [] wc).drew)
      go_wp2_with fail
      refine wp_region_any (by kernel_rfl) (wpAny_of_held (S := KpS [] wc.heap.size wc.drew) _ _ _ _ ?_)
      change wpAnyH _ _ _ _ _ _ _ _ wc.drew
      have s0 : KpS [] wc.heap.size wc.drew wc.drew := KpS.refl _ _ _
      have cX : ∀ W1, KpS [] wc.heap.size wc.drew W1 → W1.rangeAt g (off + k * 14 + 4) x.t.cells := fun W1 h i v hv => h.cell (by rw [World.cell?_drew]; exact (dl_range R3.out.2).t i v hv) R3.out.1 (by simp)
      refine held_take (i := 0) (v := .bool bt) rfl (by kernel_rfl) (by kernel_rfl) (by kernel_rfl) (fun _ _ _ h => h) rfl (fun W1 hW1 => rfl) (KpS.refl _ _ _) ?_
      simp only [Act.put, List.setIfInBounds_toArray, List.set_cons_zero, List.set_cons_succ]
      refine held_take (i := 1) (v := .bool bt) rfl (by kernel_rfl) (by kernel_rfl) (by kernel_rfl) (fun _ _ _ h => h) rfl (fun W1 hW1 => rfl) (KpS.refl _ _ _) ?_
      simp only [Act.put, List.setIfInBounds_toArray, List.set_cons_zero, List.set_cons_succ]
      refine held_take (i := 2) (v := .bool false) rfl (by kernel_rfl) (by kernel_rfl) (by kernel_rfl) (fun _ _ _ h => h) rfl (fun W1 hW1 => by cases bt <;> go_simp) (KpS.refl _ _ _) ?_
      simp only [Act.put, List.setIfInBounds_toArray, List.set_cons_zero, List.set_cons_succ]
      refine held_take (i := 3) (v := .bool false) rfl (by kernel_rfl) (by kernel_rfl) (by kernel_rfl) (fun _ _ _ h => h) rfl (fun W1 hW1 => by go_simp) (KpS.refl _ _ _) ?_
      simp only [Act.put, List.setIfInBounds_toArray, List.set_cons_zero, List.set_cons_succ]
      refine held_takeW (i := 4) (v := .slice a2 gone.length c2) rfl (by kernel_rfl) (by kernel_rfl) (by kernel_rfl) (fun _ _ _ h => h) rfl (fun W1 hW1 => rfl) (KpS.refl _ _ _) ?_
      simp only [Act.put, List.setIfInBounds_toArray, List.set_cons_zero, List.set_cons_succ]
      refine held_takeW (i := 5) (v := .slice a3 gone.length c3) rfl (by kernel_rfl) (by kernel_rfl) (by kernel_rfl) (fun _ _ _ h => h) rfl (fun W1 hW1 => rfl) (KpS.refl _ _ _) ?_
      simp only [Act.put, List.setIfInBounds_toArray, List.set_cons_zero, List.set_cons_succ]
      refine held_doW (i := 6) (by kernel_rfl) rfl rfl (wp_enter (f := 17) (args := #[.slice a2 gone.length c2, .slice a3 gone.length c3]) (by go_simp) (lPtrs_any wc.drew M [] _ _ gone gone (O2c.out.later KD.out) (O3.out.later KD.out) (by have := HGL.out; omega) (by have := HGL.out; omega)) ?_)
      rw [eqL_self]
      rintro e w4 ⟨rfl, k4⟩
      have s4 : KpS [] wc.heap.size wc.drew w4 := s0.keeps k4 s0.size (by simp)
      have K4 := hid (KD.out.trans k4)
      clear k4
      refine ⟨_, rfl, s4, ?_⟩
      simp only [Act.put, List.setIfInBounds_toArray, List.set_cons_zero, List.set_cons_succ]
      refine held_takeW (i := 7) (v := .bool false) rfl (by kernel_rfl) (by kernel_rfl) (by kernel_rfl) (fun _ _ _ h => h) rfl (fun W1 hW1 => by go_simp) (s4) ?_
      simp only [Act.put, List.setIfInBounds_toArray, List.set_cons_zero, List.set_cons_succ]
      refine held_take (i := 8) (v := .bool false) rfl (by kernel_rfl) (by kernel_rfl) (by kernel_rfl) (fun _ _ _ h => h) rfl (fun W1 hW1 => by go_simp) (s4) ?_
      simp only [Act.put, List.setIfInBounds_toArray, List.set_cons_zero, List.set_cons_succ]
      refine held_take (i := 9) (v := .bool false) rfl (by kernel_rfl) (by kernel_rfl) (by kernel_rfl) (fun _ _ _ h => h) rfl (fun W1 hW1 => by go_simp) (s4) ?_
      simp only [Act.put, List.setIfInBounds_toArray, List.set_cons_zero, List.set_cons_succ]
      refine held_takeW (i := 10) (v := .pointer (some ⟨m, 0, none⟩)) rfl (by kernel_rfl) (by kernel_rfl) (by kernel_rfl) (fun _ _ _ h => h) rfl (fun W1 hW1 => rfl) (s4) ?_
      simp only [Act.put, List.setIfInBounds_toArray, List.set_cons_zero, List.set_cons_succ]
      refine held_takeW (i := 11) (v := .pointer (some ⟨p, 0, none⟩)) rfl (by kernel_rfl) (by kernel_rfl) (by kernel_rfl) (fun _ _ _ h => h) rfl (fun W1 hW1 => rfl) (s4) ?_
      simp only [Act.put, List.setIfInBounds_toArray, List.set_cons_zero, List.set_cons_succ]
      refine held_doW (i := 12) (by kernel_rfl) rfl rfl (wp_enter (f := 20) (args := #[.pointer (some ⟨m, 0, none⟩), .pointer (some ⟨p, 0, none⟩)]) (by go_simp) (lLooks_any (BM3.out.later K4.out) (fun b hb => Nat.lt_of_lt_of_le (HM3.out b hb).2 K4.out.size) (RK3.out.later K4.out)) ?_)
      rintro e w5 ⟨rfl, k5⟩
      have s5 : KpS [] wc.heap.size wc.drew w5 := s4.keeps k5 s4.size (by simp)
      have K5 := hid (K4.out.trans k5)
      clear k5
      refine ⟨_, rfl, s5, ?_⟩
      simp only [Act.put, List.setIfInBounds_toArray, List.set_cons_zero, List.set_cons_succ]
      refine held_takeW (i := 13) (v := .bool false) rfl (by kernel_rfl) (by kernel_rfl) (by kernel_rfl) (fun _ _ _ h => h) rfl (fun W1 hW1 => by go_simp) (s5) ?_
      simp only [Act.put, List.setIfInBounds_toArray, List.set_cons_zero, List.set_cons_succ]
      refine held_take (i := 14) (v := .bool false) rfl (by kernel_rfl) (by kernel_rfl) (by kernel_rfl) (fun _ _ _ h => h) rfl (fun W1 hW1 => by go_simp) (s5) ?_
      simp only [Act.put, List.setIfInBounds_toArray, List.set_cons_zero, List.set_cons_succ]
      refine held_take (i := 15) (v := .bool false) rfl (by kernel_rfl) (by kernel_rfl) (by kernel_rfl) (fun _ _ _ h => h) rfl (fun W1 hW1 => by go_simp) (s5) ?_
      simp only [Act.put, List.setIfInBounds_toArray, List.set_cons_zero, List.set_cons_succ]
      refine held_takeW (i := 16) (v := .slice (some ⟨g, off, none⟩) ds.length c) rfl (by kernel_rfl) (by kernel_rfl) (by kernel_rfl) (fun _ _ _ h => h) rfl (fun W1 hW1 => rfl) (s5) ?_
      simp only [Act.put, List.setIfInBounds_toArray, List.set_cons_zero, List.set_cons_succ]
      refine held_takeW (i := 17) (v := .int .i64 (k : Int)) rfl (by kernel_rfl) (by kernel_rfl) (by kernel_rfl) (fun _ _ _ h => h) rfl (fun W1 hW1 => rfl) (s5) ?_
      simp only [Act.put, List.setIfInBounds_toArray, List.set_cons_zero, List.set_cons_succ]
      refine held_takeW (i := 18) (v := .pointer (some ⟨g, off + k * 14, none⟩)) rfl (by kernel_rfl) (by kernel_rfl) (by kernel_rfl) (fun _ _ _ h => h) rfl (fun W1 hW1 => by go_simp) (s5) ?_
      simp only [Act.put, List.setIfInBounds_toArray, List.set_cons_zero, List.set_cons_succ]
      refine held_takeW (i := 19) (v := .pointer (some ⟨g, off + k * 14 + 4, none⟩)) rfl (by kernel_rfl) (by kernel_rfl) (by kernel_rfl) (fun _ _ _ h => h) rfl (fun W1 hW1 => by go_simp) (s5) ?_
      simp only [Act.put, List.setIfInBounds_toArray, List.set_cons_zero, List.set_cons_succ]
      refine held_takeW (i := 20) (v := ptV x.t) rfl (by kernel_rfl) (by kernel_rfl) (by kernel_rfl) (fun _ _ _ h => h) rfl (fun W1 hW1 => exec_load _ _ _ _ rfl rfl (loadPt_run W1 g (off + k * 14 + 4) x.t (cX W1 hW1))) (s5) ?_
      simp only [Act.put, List.setIfInBounds_toArray, List.set_cons_zero, List.set_cons_succ]
      refine held_takeW (i := 22) (v := .slice (some ⟨g, off, none⟩) ds.length c) rfl (by kernel_rfl) (by kernel_rfl) (by kernel_rfl) (fun _ _ _ h => h) rfl (fun W1 hW1 => rfl) (s5) ?_
      simp only [Act.put, List.setIfInBounds_toArray, List.set_cons_zero, List.set_cons_succ]
      refine held_takeW (i := 23) (v := .int .i64 (k : Int)) rfl (by kernel_rfl) (by kernel_rfl) (by kernel_rfl) (fun _ _ _ h => h) rfl (fun W1 hW1 => rfl) (s5) ?_
      simp only [Act.put, List.setIfInBounds_toArray, List.set_cons_zero, List.set_cons_succ]
      refine held_takeW (i := 24) (v := .pointer (some ⟨g, off + k * 14, none⟩)) rfl (by kernel_rfl) (by kernel_rfl) (by kernel_rfl) (fun _ _ _ h => h) rfl (fun W1 hW1 => by go_simp) (s5) ?_
      simp only [Act.put, List.setIfInBounds_toArray, List.set_cons_zero, List.set_cons_succ]
      refine held_takeW (i := 25) (v := .pointer (some ⟨g, off + k * 14 + 4, none⟩)) rfl (by kernel_rfl) (by kernel_rfl) (by kernel_rfl) (fun _ _ _ h => h) rfl (fun W1 hW1 => by go_simp) (s5) ?_
      simp only [Act.put, List.setIfInBounds_toArray, List.set_cons_zero, List.set_cons_succ]
      refine held_takeW (i := 26) (v := ptV x.t) rfl (by kernel_rfl) (by kernel_rfl) (by kernel_rfl) (fun _ _ _ h => h) rfl (fun W1 hW1 => exec_load _ _ _ _ rfl rfl (loadPt_run W1 g (off + k * 14 + 4) x.t (cX W1 hW1))) (s5) ?_
      simp only [Act.put, List.setIfInBounds_toArray, List.set_cons_zero, List.set_cons_succ]
      refine held_doW (i := 21) (by kernel_rfl) rfl rfl (wp_enter (f := 21) (args := #[ptV x.t]) (by go_simp) (may11_any w5 x.t) ?_)
      rw [← HMP.out]
      rintro e w6 ⟨rfl, k6⟩
      have s6 : KpS [] wc.heap.size wc.drew w6 := s5.keeps k6 s5.size (by simp)
      have K6 := hid (K5.out.trans k6)
      clear k6
      refine ⟨_, rfl, s6, ?_⟩
      simp only [Act.put, List.setIfInBounds_toArray, List.set_cons_zero, List.set_cons_succ]
      refine held_doW (i := 27) (by kernel_rfl) rfl rfl (wp_enter (f := 22) (args := #[ptV x.t]) (by go_simp) (rMayPtr_any w6 x.t) ?_)
      rw [← HMP.out]
      rintro e w7 ⟨rfl, k7⟩
      have s7 : KpS [] wc.heap.size wc.drew w7 := s6.keeps k7 s6.size (by simp)
      have K7 := hid (K6.out.trans k7)
      clear k7
      refine ⟨_, rfl, s7, ?_⟩
      simp only [Act.put, List.setIfInBounds_toArray, List.set_cons_zero, List.set_cons_succ]
      refine held_takeW (i := 28) (v := .bool false) rfl (by kernel_rfl) (by kernel_rfl) (by kernel_rfl) (fun _ _ _ h => h) rfl (fun W1 hW1 => by cases mp <;> go_simp) (s7) ?_
      simp only [Act.put, List.setIfInBounds_toArray, List.set_cons_zero, List.set_cons_succ]
      refine held_take (i := 29) (v := .bool false) rfl (by kernel_rfl) (by kernel_rfl) (by kernel_rfl) (fun _ _ _ h => h) rfl (fun W1 hW1 => by go_simp) (s7) ?_
      simp only [Act.put, List.setIfInBounds_toArray, List.set_cons_zero, List.set_cons_succ]
      refine wpAnyH_done (by kernel_rfl) ?_ _
      clear cX s0 s4 s5 s6 s7
      go_wp2_with fail
      go_roundw
      case rel =>
        refine ⟨k + 1, stepD s x, by go_num, by omega, ⟨?_, KC.out.trans K7.out⟩⟩
        obtain ⟨M3', bm, bc, rk, hFM, hM, hmF, hcF, hmc⟩ := HIC.out
        exact ⟨M3', F3, bm.later K7.out, bc.later K7.out, rk.later K7.out, hFM, fun b hb => ⟨(hM b hb).1, Nat.lt_of_lt_of_le (hM b hb).2 K7.out.size⟩, hmF, hcF, hmc⟩
      case measure => simp [intOf]; omega
    · obtain rfl : k = ds.length := by omega
      obtain ⟨M, F, bm, bc, _⟩ := HI.out.ex
      have BC := hid bc
      clear bm bc
      go_wp2_with fail
      refine (zSize_any BC.out).mono ?_
      rintro e _ ⟨rfl, rfl⟩
      go_wp2_with fail
      refine (zCount_any BC.out).mono ?_
      rintro e _ ⟨rfl, rfl⟩
      go_wp2_with fail
      go_ret
      exact ⟨rfl, K.out⟩
end Go.Proofs.Ytdfhoanilbfkiaa


/- Whatever deltas are applied, the code and the reference agree on which are done, which pointers are gone, the size, all blocks and the bytes (the law BlocksPlays): the law returns true for every slice of deltas. No condition. -/
namespace Go.Proofs.Ytdfhoanilbfkiaa
open Go.ChangeShapes Go.WideShapes Go.ChangeAt Go.RowKit

set_option maxRecDepth 100000 in
theorem m11Plays_lifted (os : Os) (started : os.Started) (H : Type) (enc : TypeId × Value → H) :
    ReturnsInHanded {} Try.checked os 4 .any (Rows.blocksPlaysSpec.pre6 enc Try.prog Try.f4 Rows.blocksPlaysRow.domain false) (Rows.blocksPlaysSpec.post enc Try.prog Try.f4 false true false false) := by
  refine returnsInHanded_of_change (C := Try.checked) own started (by kernel_rfl) Try.func4
    (ChangeSpec.witness6 (enc := enc) (C := Try.checked) false ⟨#[], #[.slice none 0 0], []⟩ 8 (by kernel_rfl) (by kernel_rfl) (by kernel_rfl) (by kernel_rfl)) ?_
  intro W base args ds gs before hval0 hW hcnd _
  have hval : ∀ (j : Nat) t v, Try.f4.params[j]? = some t → args[j]? = some v → Value.okWide Try.prog W .any base t v := hval0
  have hW' := hW
  obtain ⟨p, q, hA0, hV, rfl, hfz, hnd⟩ := hW
  have hA : DataW.TrodAll enc Try.prog W 0 (fun _ => true) true Try.f4.params.toList args.toList ds p := hA0
  rw [Try.params4] at hA hval
  obtain ⟨v0, vs0, d0, ds0, p0, q0, hargs, rfl, rfl, h0, r0⟩ := trodAll_cons hA
  obtain ⟨rfl, rfl, rfl⟩ := trodAll_nil r0
  obtain rfl : args = #[v0] := by cases args; simp_all
  obtain ⟨rfl, rfl⟩ := trodVars_none hV
  have k0 := h0
  have lt0 : ∀ x ∈ p0, x.block < W.heap.size := by obtain ⟨m, hm⟩ := k0; exact DataW.trod_lt m _ _ _ hm
  obtain ⟨a0, l0, c0, rfl⟩ := okWide_slice Try.underlying38 (hval 0 38 v0 rfl rfl)
  obtain ⟨x0, y0⟩ : ∃ zs, DlsAt W (.slice a0 l0 c0) zs := by
    obtain ⟨m, hm⟩ := h0
    obtain ⟨v, zs, e, hr⟩ := deltas_of_trod hm
    simp [Value.cells] at e
    subst e
    exact ⟨zs, hr⟩
  clear hA0 hval0
  refine (m11Plays_any W _ x0 y0).mono fun e W' ⟨he, hk⟩ => ?_
  subst he
  have bel : Below W.heap.size W W' := hk.below (Nat.le_refl _) (by simp)
  exact ⟨_, rfl, _, _, _, [], _, [], hW', trodAll_mk1 (shut_bool Try.underlying4 _), (trodAll_cons_mk (Below.trod laidOut (by kernel_rfl) (of_decide_eq_true (by kernel_rfl)) k0 bel lt0) trodAll_mk0), rfl, bel.frame _, fun h => by cases h⟩

theorem m11Plays_holds : Rows.BlocksPlaysSaid :=
  OpenClaim.holds_of_wide 4 Try.f4 rfl rfl rfl rfl rfl rfl rfl ⟨rfl, rfl, rfl, rfl, rfl⟩ rfl rfl rfl rfl rfl (by kernel_rfl) Try.func4 (by kernel_rfl)
    (of_decide_eq_true (by kernel_rfl)) (by unfold Func.isWrapper; rw [if_neg (of_decide_eq_false (by kernel_rfl))]; exact ⟨rfl, rfl⟩)
    (fun os started H enc _ => m11Plays_lifted os started H enc)
end Go.Proofs.Ytdfhoanilbfkiaa
