/- LyX0, LyX, LyY, LyZ. -/
import Derived.Test.YtoglcohdanpciaaLyJ4
import Derived.Test.YtoglcohdanpciaaKitE
import Derived.Test.YtoglcohdanpciaaKitG
import Derived.Test.YtoglcohdanpciaaLyJ5
import Derived.Test.YtoglcohdanpciaaLyJ
import Derived.Test.YtoglcohdanpciaaAwake
import Derived.Test.YtoglcohdanpciaaSame
/- layout: the laws' stripes, servers. -/
namespace Go.Proofs.Ytoglcohdanpciaa
open Go.RowKit Go.Shelf
set_option maxRecDepth 100000
set_option linter.unusedSimpArgs false
set_option linter.unusedVariables false

theorem and64 (x m : Int) (m' : Nat) (e : m = m') (hm : m' ≤ 1073741824) : 0 ≤ bits BinOp.and IntKind.i64 x m ∧ bits BinOp.and IntKind.i64 x m ≤ m' := by
  subst e
  have h1 : (BitVec.ofInt 64 x &&& BitVec.ofInt 64 (m' : Int)).toNat ≤ m' := by
    rw [BitVec.toNat_and]
    refine Nat.le_trans Nat.and_le_right ?_
    rw [BitVec.ofInt_natCast, BitVec.toNat_ofNat]
    exact Nat.mod_le _ _
  show 0 ≤ IntKind.i64.wrap ((BitVec.ofInt 64 x &&& BitVec.ofInt 64 (m' : Int)).toNat : Int) ∧ IntKind.i64.wrap ((BitVec.ofInt 64 x &&& BitVec.ofInt 64 (m' : Int)).toNat : Int) ≤ _
  generalize (BitVec.ofInt 64 x &&& BitVec.ofInt 64 (m' : Int)).toNat = n at h1
  rw [IntWalk.i64_in _ (by omega)]
  omega
/-- A stripe by a number, as the laws have it. -/
def speM (m : Int) : Spe := ⟨bits .and .i64 m 3, bits .and .i64 (m / 4) 7, bits .and .i64 (m / 32) 16777215⟩
theorem speM_may (m : Int) : mayE (speM m) = true ∧ 0 ≤ (speM m).n ∧ (speM m).n ≤ 16777215 := by
  have a := and64 m 3 3 rfl (by decide)
  have b := and64 (m / 4) 7 7 rfl (by decide)
  have c := and64 (m / 32) 16777215 16777215 rfl (by decide)
  refine ⟨?_, c⟩
  unfold mayE msB
  rw [Bool.and_eq_true, Bool.and_eq_true, btw_is, btw_is, btw_is]
  refine ⟨⟨⟨a.1, ?_⟩, b.1, ?_⟩, c.1, ?_⟩
  · show bits .and .i64 m 3 ≤ 4; omega
  · show bits .and .i64 (m / 4) 7 ≤ 1048576; omega
  · show bits .and .i64 (m / 32) 16777215 ≤ 1073741824; omega
theorem buildSpe (s : Spe) (w : World) : (Instr.build 30 #[(0, .int .i64 s.c), (1, .int .i64 s.l), (2, .int .i64 s.n)]).run Try.prog w = .ok (speV s) w := by kernel_rfl
theorem exec_buildSpe {ρ : Operand → Value} {o : Oper} {w : World} (x0 x1 x2 : Operand) (ho : o.op = .build 30 #[(0, x0), (1, x1), (2, x2)]) (s : Spe) (h0 : ρ x0 = .int .i64 s.c) (h1 : ρ x1 = .int .i64 s.l) (h2 : ρ x2 = .int .i64 s.n) :
    (execOp ρ o).run Try.prog w = .ok (.value (speV s)) w := by
  simp only [execOp, ho, List.map_toArray, List.map_cons, List.map_nil, h0, h1, h2, Sem.run_bind, buildSpe, Result.andThen_ok, Sem.run_pure]
theorem spe_ret {fn : Func} {p : Tmp} (hr : fn.results = #[.cell p 30]) {tmps : Array Value} {w : World} {b : Nat} {s : Spe} (hp : tmps.getD p undef = .pointer (some ⟨b, 0, none⟩)) (hx : w.rangeAt b 0 s.cells) : (results fn tmps).run Try.prog w = .ok (speV s) w := by
  have hp' : tmps[p]?.getD undef = .pointer (some ⟨b, 0, none⟩) := by simpa using hp
  have hv : (loadVar 30 ⟨b, 0, none⟩).run Try.prog w = .ok (speV s) w := run_loadVar_mid w b 0 30 s.cells _ hx uStripe rfl (by rw [sStripe]; rfl)
  simp [results, hr, hp', asAddr, hv]
set_option maxHeartbeats 3200000 in
theorem yStripe_any (w : World) (m : Int) (hm : -9223372036854775808 ≤ m ∧ m ≤ 9223372036854775807) : Calls Try.prog 18 #[.int .i64 m] w fun e w' => e = .returned (speV (speM m)) ∧ Keeps [] w w' := by
  go_enter Try.func18, Try.ntmps18
  go_wp2_with fail
  refine bodyPost_ret (spe_ret (s := speM m) rfl rfl (range_cells (heap_alloc_new w _))) rfl ?_
  exact ⟨rfl, (Keeps.refl [] w).alloc _⟩
set_option maxHeartbeats 3200000 in
theorem yServers_any (w : World) (m : Int) : Calls Try.prog 35 #[.int .i64 m] w fun e w' => e = .returned (.int .i64 (3 + m % 14)) ∧ w = w' := by
  obtain ⟨b0, b1⟩ := tmod_b m (n := 14) (by decide)
  have c0 : 0 ≤ m % 14 := Int.emod_nonneg _ (by decide)
  have c1 : m % 14 < 14 := Int.emod_lt_of_pos _ (by decide)
  have E1 := hid (mod_once m (n := 14) (by decide))
  generalize hx : m.tmod 14 = x at *
  go_enter Try.func35, Try.ntmps35
  go_wp2_with fail
  go_ret
  exact ⟨ret_int (by have := E1.out; omega), rfl⟩
end Go.Proofs.Ytoglcohdanpciaa


/- layout: the laws' stripes, servers, heads that are the same. -/
namespace Go.Proofs.Ytoglcohdanpciaa
open Go.RowKit Go.Shelf
set_option maxRecDepth 100000
set_option linter.unusedSimpArgs false
set_option linter.unusedVariables false

set_option maxHeartbeats 6400000 in
theorem ySame_any (w : World) (h k : Hd13) : Calls Try.prog 28 #[hdV13 h, hdV13 k] w fun e w' => e = .returned (.bool (decide (h = k))) ∧ Keeps [] w w' := by
  obtain ⟨hs, hi, hn, hz⟩ := h
  obtain ⟨ks, ki, kn, kz⟩ := k
  obtain ⟨r, hr⟩ : ∃ r, r = decide ((⟨hs, hi, hn, hz⟩ : Hd13) = ⟨ks, ki, kn, kz⟩) := ⟨_, rfl⟩
  rw [← hr]
  have HR := hid (show r = (decide (hs = ks) && (decide (hi = ki) && (decide (hn = kn) && decide (hz = kz)))) by
    rw [hr, Bool.eq_iff_iff]; simp [Hd13.mk.injEq])
  clear hr
  unfold hdV13
  simp only
  obtain ⟨w2, hw2⟩ : ∃ x, x = (w.alloc (.cells #[.int .i64 hs.c, .int .i64 hs.l, .int .i64 hs.n, .int .i64 hi, .int .i64 hn, .int .i64 hz] 33)).alloc (.cells #[.int .i64 ks.c, .int .i64 ks.l, .int .i64 ks.n, .int .i64 ki, .int .i64 kn, .int .i64 kz] 46) := ⟨_, rfl⟩
  have HW2 := hid hw2
  have k1 : Keeps [] w (w.alloc (.cells #[.int .i64 hs.c, .int .i64 hs.l, .int .i64 hs.n, .int .i64 hi, .int .i64 hn, .int .i64 hz] 33)) := (Keeps.refl [] w).alloc _
  have K2 := hid (show Keeps [] w w2 by rw [hw2]; exact k1.alloc _)
  have R1 := hid (show w2.rangeAt w.heap.size 0 (⟨hs, hi, hn, hz⟩ : Hd13).cells by
    rw [hw2]
    exact range_cells ((((Keeps.refl [] _).alloc _).block w.heap.size (by simp) (by simp)).trans (heap_alloc_new w _)))
  have R2 := hid (show w2.rangeAt (w.heap.size + 1) 0 (⟨ks, ki, kn, kz⟩ : Hd13).cells by
    rw [hw2]
    have := heap_alloc_new (w.alloc (.cells #[.int .i64 hs.c, .int .i64 hs.l, .int .i64 hs.n, .int .i64 hi, .int .i64 hn, .int .i64 hz] 33)) (.cells #[.int .i64 ks.c, .int .i64 ks.l, .int .i64 ks.n, .int .i64 ki, .int .i64 kn, .int .i64 kz] 46)
    rw [World.size_alloc] at this
    exact range_cells this)
  have S1 := hid (show w2.rangeAt w.heap.size 0 hs.cells from range_fst (k := 3) R1.out)
  have S2 := hid (show w2.rangeAt (w.heap.size + 1) 0 ks.cells from range_fst (k := 3) R2.out)
  have ca1 := R1.out 3 _ rfl
  have ca2 := R1.out 4 _ rfl
  have ca3 := R1.out 5 _ rfl
  have cb1 := R2.out 3 _ rfl
  have cb2 := R2.out 4 _ rfl
  have cb3 := R2.out 5 _ rfl
  rw [Nat.zero_add] at ca1 ca2 ca3 cb1 cb2 cb3
  clear hw2 k1
  cases h0 : decide (hs = ks) with
  | false =>
    have H0 := hid h0
    clear h0
    go_enter Try.func28, Try.ntmps28
    go_wp2_with (first | (refine wpList_isW rfl _ _ (exec_load _ _ _ _ rfl rfl (loadSpe _ w.heap.size 0 hs (by rw [← HW2.out]; exact S1.out))) ?_) | (refine wpList_isW rfl _ _ (exec_load _ _ _ _ rfl rfl (loadSpe _ (w.heap.size + 1) 0 ks (by rw [← HW2.out]; exact S2.out))) ?_) | (refine wpList_isW rfl _ _ ((exec_eqSpe _ _ _ hs ks rfl rfl rfl).trans (by rw [H0.out])) ?_) | fail)
    rw [← HW2.out]
    go_ret
    exact ⟨ret_boolP (by rw [HR.out, H0.out]; rfl), K2.out⟩
  | true =>
    have H0 := hid h0
    clear h0
    by_cases e0 : hi = ki
    · have b0 : (hi == ki) = true := by simpa using e0
      have D0 := hid (decide_eq_true e0)
      clear e0
      by_cases e1 : hn = kn
      · have b1 : (hn == kn) = true := by simpa using e1
        have D1 := hid (decide_eq_true e1)
        clear e1
        by_cases e2 : hz = kz
        · have b2 : (hz == kz) = true := by simpa using e2
          have D2 := hid (decide_eq_true e2)
          clear e2
          go_enter Try.func28, Try.ntmps28
          go_wp2_with (first | (refine wpList_isW rfl _ _ (exec_load _ _ _ _ rfl rfl (loadSpe _ w.heap.size 0 hs (by rw [← HW2.out]; exact S1.out))) ?_) | (refine wpList_isW rfl _ _ (exec_load _ _ _ _ rfl rfl (loadSpe _ (w.heap.size + 1) 0 ks (by rw [← HW2.out]; exact S2.out))) ?_) | (refine wpList_isW rfl _ _ ((exec_eqSpe _ _ _ hs ks rfl rfl rfl).trans (by rw [H0.out])) ?_) | fail)
          rw [← HW2.out]
          go_ret
          exact ⟨ret_boolP (by rw [HR.out, H0.out, D0.out, D1.out, D2.out]; rfl), K2.out⟩
        · have b2 : (hz == kz) = false := by simpa using e2
          have D2 := hid (decide_eq_false e2)
          clear e2
          go_enter Try.func28, Try.ntmps28
          go_wp2_with (first | (refine wpList_isW rfl _ _ (exec_load _ _ _ _ rfl rfl (loadSpe _ w.heap.size 0 hs (by rw [← HW2.out]; exact S1.out))) ?_) | (refine wpList_isW rfl _ _ (exec_load _ _ _ _ rfl rfl (loadSpe _ (w.heap.size + 1) 0 ks (by rw [← HW2.out]; exact S2.out))) ?_) | (refine wpList_isW rfl _ _ ((exec_eqSpe _ _ _ hs ks rfl rfl rfl).trans (by rw [H0.out])) ?_) | fail)
          rw [← HW2.out]
          go_ret
          exact ⟨ret_boolP (by rw [HR.out, H0.out, D0.out, D1.out, D2.out]; rfl), K2.out⟩
      · have b1 : (hn == kn) = false := by simpa using e1
        have D1 := hid (decide_eq_false e1)
        clear e1
        go_enter Try.func28, Try.ntmps28
        go_wp2_with (first | (refine wpList_isW rfl _ _ (exec_load _ _ _ _ rfl rfl (loadSpe _ w.heap.size 0 hs (by rw [← HW2.out]; exact S1.out))) ?_) | (refine wpList_isW rfl _ _ (exec_load _ _ _ _ rfl rfl (loadSpe _ (w.heap.size + 1) 0 ks (by rw [← HW2.out]; exact S2.out))) ?_) | (refine wpList_isW rfl _ _ ((exec_eqSpe _ _ _ hs ks rfl rfl rfl).trans (by rw [H0.out])) ?_) | fail)
        rw [← HW2.out]
        go_ret
        exact ⟨ret_boolP (by rw [HR.out, H0.out, D0.out, D1.out]; rfl), K2.out⟩
    · have b0 : (hi == ki) = false := by simpa using e0
      have D0 := hid (decide_eq_false e0)
      clear e0
      go_enter Try.func28, Try.ntmps28
      go_wp2_with (first | (refine wpList_isW rfl _ _ (exec_load _ _ _ _ rfl rfl (loadSpe _ w.heap.size 0 hs (by rw [← HW2.out]; exact S1.out))) ?_) | (refine wpList_isW rfl _ _ (exec_load _ _ _ _ rfl rfl (loadSpe _ (w.heap.size + 1) 0 ks (by rw [← HW2.out]; exact S2.out))) ?_) | (refine wpList_isW rfl _ _ ((exec_eqSpe _ _ _ hs ks rfl rfl rfl).trans (by rw [H0.out])) ?_) | fail)
      rw [← HW2.out]
      go_ret
      exact ⟨ret_boolP (by rw [HR.out, H0.out, D0.out]; rfl), K2.out⟩
end Go.Proofs.Ytoglcohdanpciaa


/- layout: the laws' awake. -/
namespace Go.Proofs.Ytoglcohdanpciaa
open Go.RowKit Go.Shelf
set_option maxRecDepth 100000
set_option linter.unusedSimpArgs false
set_option linter.unusedVariables false

theorem row_alloc13 (w : World) (zs : List Int) (hb : ∀ z ∈ zs, 0 ≤ z ∧ z ≤ 255) (hl : zs.length ≤ 1000) : RowAt (w.alloc (.cells (zs.map (Value.int .u8)).toArray 5)) (.slice (some ⟨w.heap.size, 0, none⟩) zs.length zs.length) zs :=
  ⟨_, _, rfl, Nat.le_refl _, by unfold maxLen; omega, by simp, hb, fun ad had j u hu => by
    obtain rfl := Option.some.inj had
    rw [Addr.add_lit, Nat.zero_add, cell_of_row _ _ j _ _ (0, 0) (heap_alloc_new w _), ← Array.getElem?_toList]
    exact hu⟩
/-- A row is put in another one's place. -/
theorem heads_put {w : World} {g k : Nat} {vs : List Value} {ls : List (List Int)} {v : Value} {zs : List Int} (hb : w.heap[g]? = some (.cells vs.toArray 34 (0, 0))) (hh : HeadsAt w g [] vs ls) (hk : k < vs.length) (hr : RowAt w v zs) (hl : zs.length ≤ 140737488351232) (ho : Off [g] v zs) :
    (w.setCell ⟨g, k, none⟩ v).heap[g]? = some (.cells (vs.set k v).toArray 34 (0, 0)) ∧ HeadsAt (w.setCell ⟨g, k, none⟩ v) g [] (vs.set k v) (ls.set k zs) ∧ Keeps [g] w (w.setCell ⟨g, k, none⟩ v) := by
  have h5 := set_five hb (i := k) v
  rw [List.setIfInBounds_toArray] at h5
  refine ⟨h5, (hh.set hk hr hl ho).keep set_keep (by simp) (by simp), set_keep⟩
theorem aw_cut : cutL (speM 1) [1, 2, 3] 3 = (fragsL (speM 1) [1, 2, 3] 3, 0) := by decide
theorem aw_join : joinL (speM 1) ((fragsL (speM 1) [1, 2, 3] 3).set 0 []) 3 = ([1, 2, 3], 0) := by kernel_rfl
theorem aw_few : ∀ l ∈ (fragsL (speM 1) [1, 2, 3] 3).set 0 [], l.length ≤ 35184372088832 := fun l hl => Nat.le_trans ((by decide : ∀ l ∈ (fragsL (speM 1) [1, 2, 3] 3).set 0 [], l.length ≤ 100) l hl) (by decide)
set_option maxHeartbeats 12800000 in
theorem yAwake_any (w : World) : Calls Try.prog 15 #[] w fun e w' => e = .returned (.bool true) ∧ Keeps [] w w' := by
  have A1 := hid (yStripe_any w 1 (by decide))
  go_enter Try.func15, Try.ntmps15
  go_wp2_with fail
  refine A1.out.mono ?_
  rintro e w1 ⟨rfl, k1⟩
  unfold speV
  have HC0 := lCut_any (w1.alloc (.cells #[.int .u8 1, .int .u8 2, .int .u8 3] 5)) (speM 1) _ [1, 2, 3] 3 (row_alloc13 w1 [1, 2, 3] (by decide) (by decide)) (by decide)
  rw [aw_cut] at HC0
  have HC := hid HC0
  have KA := hid (k1.alloc (.cells #[.int .u8 1, .int .u8 2, .int .u8 3] 5))
  have S1 := hid k1.size
  clear k1 HC0
  go_wp2_with fail
  refine HC.out.mono ?_
  rintro e w2 ⟨k2, hx⟩
  rcases hx with ⟨h0, _⟩ | ⟨-, g, vs, rfl, hb, hh, hg⟩
  · exact absurd rfl h0
  have hlen : vs.length = 3 := hh.len
  have hl3 : (fragsL (speM 1) [1, 2, 3] 3).length = 3 := by decide
  simp only [hl3] at *
  have hP := heads_put (k := 0) (zs := []) hb hh (by omega) (RowAt.nil _) (by decide) (by intro _ _ _ _ h; exact absurd rfl h)
  have hrs := hP.2.1.rs hP.1 (show _ = 3 by simpa using hlen) (by decide)
  have kp : Keeps [] w (w2.setCell ⟨g, 0, none⟩ (.slice none 0 0)) := (KA.out.trans k2).trans' hP.2.2 (fun j hj hm => by simp at hm; subst hm; have := S1.out; have := World.size_alloc w1 (.cells #[.int .u8 1, .int .u8 2, .int .u8 3] 5); omega)
  have hc0 := (five_cells hb 0).1
  have hf0 := (five_cells hb 0).2
  rw [List.getElem?_toArray, List.getElem?_eq_getElem (by omega)] at hc0
  obtain ⟨ua, un, uc, hu⟩ := hh.slices _ (List.getElem_mem (show 0 < vs.length by omega))
  rw [hu] at hc0
  obtain ⟨w3, hw3⟩ : ∃ x, x = w2.setCell ⟨g, 0, none⟩ (.slice none 0 0) := ⟨_, rfl⟩
  rw [← hw3] at hrs kp
  have HW3 := hid hw3
  have A3 := hid (yStripe_any w3 1 (by decide))
  have RS3 := hid hrs
  have K3 := hid kp
  clear hw3 hrs kp hP hb hh hg hu k2 hlen
  go_wp2_with fail
  rw [← HW3.out]
  refine A3.out.mono ?_
  rintro e w4 ⟨rfl, k4⟩
  unfold speV
  have HJ0 := lJoin_any w4 (speM 1) _ _ 3 (RS3.out.keep k4) aw_few
  rw [aw_join] at HJ0
  have HJ := hid HJ0
  have K4 := hid (K3.out.trans k4)
  clear k4 HJ0
  go_wp2_with fail
  refine HJ.out.mono ?_
  rintro e w5 ⟨k5, a5, c5, rfl, r5, -⟩
  simp only at r5
  have K5 := hid (K4.out.trans k5)
  have R5 := hid r5
  clear k5 r5
  go_wp2_with fail
  refine (same_any _ _ _ [1, 2, 3] [1, 2, 3] (R5.out.keep ((Keeps.refl [] w5).alloc _) (by intro _ _ _ _ _; simp)) (row_alloc13 w5 [1, 2, 3] (by decide) (by decide)) (by decide) (by decide)).mono ?_
  rintro e w6 ⟨rfl, q, rfl⟩
  rw [decide_eq_true (rfl : ([1, 2, 3] : List Int) = [1, 2, 3])]
  go_wp2_with fail
  go_ret
  exact ⟨rfl, (K5.out.alloc _).drewN _⟩
end Go.Proofs.Ytoglcohdanpciaa


/- layout: rows of tests that tell which ones have been met; where a stripe's fragments lie. -/
namespace Go.Proofs.Ytoglcohdanpciaa
open Go.RowKit Go.Shelf
set_option maxRecDepth 100000
set_option linter.unusedSimpArgs false
set_option linter.unusedVariables false

def seenL (n : Nat) (f : Nat → Nat) (k : Nat) : List Bool := (List.range n).map fun p => decide (p ∈ (List.range k).map f)
theorem seenL_len (n : Nat) (f : Nat → Nat) (k : Nat) : (seenL n f k).length = n := by simp [seenL]
theorem seenL_zero (n : Nat) (f : Nat → Nat) : seenL n f 0 = List.replicate n false := by
  unfold seenL
  rw [List.range_zero, List.map_nil]
  apply List.ext_getElem
  · simp
  · intro i h1 h2; simp
theorem seenL_get {n : Nat} {f : Nat → Nat} {k : Nat} (hb : f k < n) (hi : ∀ j, j < k → f j ≠ f k) : (seenL n f k)[f k]? = some false := by
  unfold seenL
  rw [List.getElem?_map, List.getElem?_range hb, Option.map_some, decide_eq_false]
  intro h
  obtain ⟨j, hj, e⟩ := List.mem_map.1 h
  exact hi j (List.mem_range.1 hj) e
theorem seenL_at {n : Nat} {f : Nat → Nat} {k p : Nat} (h : p < (seenL n f k).length) : (seenL n f k)[p] = decide (p ∈ (List.range k).map f) := by simp [seenL]
theorem seenL_set {n : Nat} {f : Nat → Nat} {k : Nat} : (seenL n f k).set (f k) true = seenL n f (k + 1) := by
  apply List.ext_getElem
  · simp [seenL]
  · intro p h1 h2
    rw [List.getElem_set, seenL_at, seenL_at, List.range_succ, List.map_append, List.map_cons, List.map_nil]
    by_cases e : f k = p
    · rw [if_pos e, decide_eq_true (by simp [e])]
    · rw [if_neg e]
      congr 1
      simp only [List.mem_append, List.mem_singleton, eq_iff_iff]
      exact ⟨.inl, fun h => h.elim id fun h => absurd h.symm e⟩
theorem infoBool13 : (Try.prog.info? 4).map (fun i => (i.zero, i.size, i.bytes)) = some (some (.bool false), 1, 1) := by kernel_rfl
theorem bools_make (w : World) (n : Nat) (h1 : n ≤ 16) : (Instr.makeSlice 63 (.int .i64 (n : Int)) (.int .i64 (n : Int))).run Try.prog w = .ok (.slice (some ⟨w.heap.size, 0, none⟩) n n) (w.alloc (.cells (Array.replicate n (Value.bool false)) 4)) := by
  have := run_make_row' (P := Try.prog) 63 4 (.bool false) 1 Try.underlying63 infoBool13 rfl .i64 .i64 n (by omega) (by omega) w
  rw [this]
  congr 3
  apply Array.toList_inj.1
  rw [toList_madeCells_one]
  simp
theorem exec_makeBools {ρ : Operand → Value} {o : Oper} {w : World} (x : Operand) (n : Nat) (ho : o.op = .makeSlice 63 x x) (hx : ρ x = .int .i64 (n : Int)) (h1 : n ≤ 16) :
    (execOp ρ o).run Try.prog w = .ok (.value (.slice (some ⟨w.heap.size, 0, none⟩) n n)) (w.alloc (.cells (Array.replicate n (Value.bool false)) 4)) := by
  simp only [execOp, ho, hx, Sem.run_bind, bools_make w n h1, Result.andThen_ok, Sem.run_pure]
theorem bools_none (n : Nat) (f : Nat → Nat) : Array.replicate n (Value.bool false) = ((seenL n f 0).map Value.bool).toArray := by
  rw [seenL_zero]; simp
/-- A test is set. -/
theorem bools_put {w : World} {g p : Nat} {bs : List Bool} (hb : w.heap[g]? = some (.cells ((bs.map Value.bool).toArray) 4 (0, 0))) (b : Bool) :
    (w.setCell ⟨g, p, none⟩ (.bool b)).heap[g]? = some (.cells (((bs.set p b).map Value.bool).toArray) 4 (0, 0)) ∧ Keeps [g] w (w.setCell ⟨g, p, none⟩ (.bool b)) := by
  have h5 := set_five hb (i := p) (.bool b)
  rw [List.setIfInBounds_toArray, ← List.map_set] at h5
  exact ⟨h5, set_keep⟩
theorem bools_at {w : World} {g p : Nat} {bs : List Bool} {b : Bool} (hb : w.heap[g]? = some (.cells ((bs.map Value.bool).toArray) 4 (0, 0))) (hp : bs[p]? = some b) : w.cell? ⟨g, p, none⟩ = some (.bool b) ∧ w.frozen? ⟨g, p, none⟩ = false := by
  obtain ⟨h1, h2⟩ := five_cells hb p
  refine ⟨?_, h2⟩
  rw [h1, List.getElem?_toArray, List.getElem?_map, hp]
  rfl

/-- Where a stripe's fragment lies. -/
def plN (a n k : Nat) : Nat := (a + k) % n
theorem plN_lt {a n k : Nat} (h3 : 3 ≤ n) : plN a n k < n := Nat.mod_lt _ (by omega)
theorem plN_ne {a n j k : Nat} (hj : j < k) (hk : k < n) : plN a n j ≠ plN a n k := by
  unfold plN
  intro h
  have h1 := Nat.div_add_mod (a + j) n
  have h2 := Nat.div_add_mod (a + k) n
  rw [h] at h1
  generalize (a + k) % n = r at *
  have h3 : n * ((a + k) / n) = n * ((a + j) / n) + (k - j) := by omega
  have h4 : (a + j) / n < (a + k) / n := by
    rcases Nat.lt_or_ge ((a + j) / n) ((a + k) / n) with h | h
    · exact h
    · have := Nat.mul_le_mul_left n h
      omega
  have h5 := Nat.mul_le_mul_left n (show (a + j) / n + 1 ≤ (a + k) / n from h4)
  rw [Nat.mul_add, Nat.mul_one] at h5
  omega
theorem place_is {s : Spe} {n : Nat} {a : Nat} (ha : s.n + s.c = (a : Int)) (h3 : 3 ≤ n) (h16 : n ≤ 16) (i : Nat) : placeI s (i : Int) (n : Int) = (plN a n i : Nat) := by
  unfold placeI plN
  rw [if_pos (maySv_is.2 ⟨by omega, by omega⟩), ha]
  rfl
end Go.Proofs.Ytoglcohdanpciaa
