/- blocks: the code's Write, and the laws' Bytes. -/
import Derived.Test.YtamcllcjondcpaaBkQ
namespace Go.Proofs.Ytamcllcjondcpaa
open Go.RowKit Go.Shelf
set_option maxRecDepth 100000
set_option linter.unusedSimpArgs false

set_option maxHeartbeats 3200000 in
theorem zWrite_any {w : World} {M : List Nat} {q : Nat} {s : Bk} (h : BkAt w M q s) (B p : Nat) (v : Value) (t : PSt) (P : PenAt w B 91 5 p v t.1 t.2) (hB : B ≤ w.heap.size) (hS : ∀ b ∈ p :: v.ownBlock.toList, b ∈ M) (hq : q ∉ p :: v.ownBlock.toList) :
    Calls Try.prog 55 #[.pointer (some ⟨q, 0, none⟩), .pointer (some ⟨p, 0, none⟩)] w (PenPost w B 91 5 p v (wrB s t)) := by
  have H := hid h
  have HS := hid hS
  have HB := hid hB
  have HF := hid h.good.few
  obtain ⟨⟨u, hb, hv⟩, _, _⟩ := h
  obtain ⟨a, c, rfl⟩ := hv.shape
  have HV := hid hv
  have HBK := hid hb
  have HQ := hid hq
  obtain ⟨s1, e1⟩ : ∃ z, z = penNum s.sz 2 t := ⟨_, rfl⟩
  have HN : Calls Try.prog 59 #[.pointer (some ⟨p, 0, none⟩), .int .i64 s.sz, .int .i64 2] w (PenPost w B 91 5 p v s1) := by
    have := num_any w B p v t.1 t.2 s.sz 2 P hB
    rw [show penNum s.sz 2 (t.1, t.2) = s1 from e1.symm] at this
    exact this
  have E1 := hid e1
  obtain ⟨c0, c1, c2⟩ := block_cells3 hb
  clear hS hB hv hb hq P e1 c0 c2
  go_enter Try.func55, Try.ntmps55
  go_wp2_with fail
  refine (zMade_any H.out).mono ?_
  rintro e _ ⟨rfl, rfl⟩
  go_wp2_with fail
  refine HN.mono ?_
  intro e w2 hq2
  obtain ⟨rfl, v2, p2, k2, n2⟩ := pen_step (Keeps.refl _ _) (Or.inl rfl) hq2
  have P2 := hid p2
  have K2 := hid k2
  have N2 := hid n2
  have d2 := (block_cells3 ((k2.block q (lt_of_block HBK.out) HQ.out).trans HBK.out)).2.2
  clear hq2 p2 k2 n2 c1 HN
  go_wp2_with fail
  clear d2
  go_loopw [20] (fun iv wr => ∃ (k : Nat) (v3 : Value), k ≤ s.L.length ∧ iv = .int .i64 k ∧ Hid (PenAt wr B 91 5 p v3 (wrK s k t).1 (wrK s k t).2) ∧ Hid (Keeps (p :: v.ownBlock.toList) w wr) ∧ Hid (NewRow w v v3)) (fun iv _ => s.L.length - (intOf iv).toNat)
  case atStart => exact ⟨0, v2, by omega, rfl, hid (by have := P2.out; rw [E1.out] at this; exact this), K2, N2⟩
  case round =>
    obtain ⟨k, v3, hk, rfl, P3, K3, N3⟩ := hrel
    by_cases hlt : k < s.L.length
    · have hk64 : k < 64 := by have := HF.out; omega
      obtain ⟨g, off, rfl, _, hcap, hg, hgM, hr⟩ := (HV.out.keep K3.out HS.out).open (by omega)
      have R0 := range_pt hr k hlt
      obtain ⟨x, hx⟩ : ∃ x, x = s.L[k] := ⟨_, rfl⟩
      rw [← hx] at R0
      have R := hid R0
      have HX := hid hx
      have ka : Keeps [] wr (wr.alloc (.cells x.cells.toArray 47)) := (Keeps.refl [] wr).alloc _
      have RA := hid (range_new wr x.cells 47)
      have KA := hid (K3.out.trans (ka.mono (by simp)))
      have PA := hid (P3.out.keep ka (by simp) (by simp))
      have HBA := hid (show B ≤ (wr.alloc (.cells x.cells.toArray 47)).heap.size by have := HB.out; have := KA.out.size; omega)
      clear hr hcap hg hgM R0 hx ka
      go_wp2_with (first | (refine wpList_isW rfl _ _ (exec_load _ _ _ _ rfl rfl (loadPt_run _ g (off + k * 5) x R.out)) ?_) | (refine wpList_is rfl _ _ (exec_alloc 47 pZ.cells.toArray iPtr2 rfl) ?_) | (refine wpList_noval rfl _ (exec_storeNew 47 _ _ rfl wr pZ.cells.toArray x.cells.toArray rfl rfl rfl iPtr2 rfl (cells_one _)) ?_) | (refine wpList_isW rfl _ _ (exec_load _ _ _ _ rfl rfl (loadPt_run _ wr.heap.size 0 x RA.out)) ?_) | fail)
      refine (zPutPtr_any _ B p v3 (wrK s k t) x PA.out HBA.out).mono ?_
      intro e w4 hq4
      obtain ⟨rfl, v4, p4, k4, n4⟩ := pen_step KA.out N3.out hq4
      have P4 := hid p4
      have K4 := hid k4
      have N4 := hid n4
      clear hq4 p4 k4 n4
      go_wp2_with fail
      go_roundw
      case rel => exact ⟨k + 1, v4, by omega, by go_num, hid (by rw [wrK_snoc hlt, ← HX.out]; exact P4.out), K4, N4⟩
      case measure => simp [intOf]; omega
    · obtain rfl : k = s.L.length := by omega
      go_wp2_with fail
      go_end0
      exact ⟨rfl, v3, P3.out, K3.out, N3.out⟩

def bytesB (s : Bk) : List Int := if (wrB s ([], 0)).2 = 0 then (wrB s ([], 0)).1 else []
theorem penAdd_len {t : List Int} {s : PSt} (h : s.1.length ≤ 65536) : (penAdd t s).1.length ≤ 65536 := by
  unfold penAdd
  split
  · exact h
  · split
    · simp
    · simp only [List.length_append]; omega
theorem penNum_len {x n : Int} {s : PSt} (h : s.1.length ≤ 65536) : (penNum x n s).1.length ≤ 65536 := by
  unfold penNum
  split
  · exact penAdd_len h
  · unfold penFail
    split
    · simp
    · exact h
theorem putP_len {x : Pt} {s : PSt} (h : s.1.length ≤ 65536) : (putP x s).1.length ≤ 65536 := penNum_len (penNum_len (penNum_len (penNum_len (penNum_len h))))
theorem wrB_len (s : Bk) (t : PSt) (h : t.1.length ≤ 65536) : (wrB s t).1.length ≤ 65536 := by
  have : ∀ (xs : List Pt) (t : PSt), t.1.length ≤ 65536 → (xs.foldl (fun t x => putP x t) t).1.length ≤ 65536 := by
    intro xs
    induction xs with
    | nil => intro t h; exact h
    | cons x xs ih => intro t h; exact ih _ (putP_len h)
  exact this _ _ (penNum_len h)
theorem bytesB_len (s : Bk) : (bytesB s).length ≤ 65536 := by
  unfold bytesB
  split
  · exact wrB_len s ([], 0) (by simp)
  · simp
theorem lBytes11_any {w : World} {M : List Nat} {q : Nat} {s : Bk} (h : BkAt w M q s) : Calls Try.prog 17 #[.pointer (some ⟨q, 0, none⟩)] w fun e w' => ∃ a c, e = .returned (.slice a (bytesB s).length c) ∧ RowAt w' (.slice a (bytesB s).length c) (bytesB s) ∧ (∀ ad, a = some ad → w.heap.size ≤ ad.block) ∧ Keeps [] w w' := by
  have H := hid h
  have HL := hid h.lt
  obtain ⟨bs, hbs⟩ : ∃ l, l = bytesB s := ⟨_, rfl⟩
  have HBS := hid hbs
  rw [← hbs]
  clear h hbs
  go_enter Try.func17, Try.ntmps17
  go_wp2_with fail
  have P1 := hid (PenSince.new w (Keeps.refl [] w) 91)
  have H1 := (H.out.more (N := w.heap.size :: M) (fun b hb => by
    rcases List.mem_cons.1 hb with rfl | hb
    · exact Or.inr (Nat.le_refl _)
    · exact Or.inl hb) (List.mem_cons_of_mem _ H.out.mem)).later P1.out.kept
  refine (zWrite_any H1 w.heap.size w.heap.size (.slice none 0 0) ([], 0) P1.out.pen P1.out.kept.size (by simp [Value.ownBlock]) (by have := HL.out; simp [Value.ownBlock]; omega)).mono ?_
  intro e w2 hq
  obtain ⟨rfl, v2, q2⟩ := P1.out.step hq
  have P2 := hid q2
  clear q2 hq H1
  go_wp2_with fail
  refine (bytes_any w2 w.heap.size w.heap.size v2 (wrB s ([], 0)).1 (wrB s ([], 0)).2 P2.out.pen).mono ?_
  intro e w3 hq
  obtain ⟨a, c, q0, q1, q2, q3⟩ := hq
  simp only at q0 q1
  rw [show (if (wrB s ([], 0)).2 = 0 then (wrB s ([], 0)).1 else []) = bytesB s from rfl] at q0 q1
  rw [← HBS.out] at q0 q1
  subst q0
  have R := hid q1
  have K := hid (P2.out.kept.trans q3)
  have N := hid (fun ad (h : a = some ad) => Nat.le_trans P2.out.kept.size (q2 ad h))
  clear q1 q2 q3
  go_wp2_with fail
  go_ret
  exact ⟨a, c, rfl, R.out, N.out, K.out⟩
end Go.Proofs.Ytamcllcjondcpaa
