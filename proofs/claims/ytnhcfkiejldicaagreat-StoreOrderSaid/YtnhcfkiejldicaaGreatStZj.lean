/- StU, StV, StX, StY, StZ, StT. -/
import Derived.Test.YtnhcfkiejldicaaGreatStAP
import Derived.Deep.QuietTactic
import Derived.BigQuiet
import Derived.RangeFuncGives
import Derived.RangeFuncStops
import Derived.RangeFuncKeeps
import Derived.LoopNIn
import Derived.LoopIn
/- store: slices.Equal of bytes. -/
namespace Go.Proofs.YtnhcfkiejldicaaGreat
open Go.RowKit Go.Shelf
set_option maxRecDepth 100000

set_option maxHeartbeats 400000 in
theorem equalB_any (w : World) (u v : Value) (xs ys : List Int) (hx : RowAt w u xs) (hy : RowAt w v ys) (hl : xs.length ≤ 35184372088832) (hl2 : ys.length ≤ 35184372088832) :
    Calls Tryz.prog 51 #[u, v] w fun e w' => e = .returned (.bool (decide (xs = ys))) ∧ ∃ n, w' = w.drewN n := by
  obtain ⟨a1, k1, rfl, z1⟩ := id hx
  obtain ⟨a2, k2, rfl, z2⟩ := id hy
  clear z1 z2
  have HX := hid hx
  have HY := hid hy
  clear hx hy
  by_cases hne : xs.length = ys.length
  · have hne' : ((xs.length : Int) != ys.length) = false := by simp [hne]
    by_cases h0 : xs.length = 0
    · have hx0 : xs = [] := List.eq_nil_of_length_eq_zero h0
      have hy0 : ys = [] := List.eq_nil_of_length_eq_zero (by omega)
      subst hx0; subst hy0
      clear hne hne' h0 hl hl2 HX HY
      simp only [List.length_nil]
      go_enter Tryz.func51, Tryz.ntmps51
      go_wp2_with fail
      refine wp_loop_rounds 1 ?_
      rw [rounds_succ]
      go_wp2_with fail
      go_ret
      exact ⟨by simp, 0, rfl⟩
    · obtain ⟨g1, o1, c1, e1, _, hc1⟩ := HX.out.open (by omega)
      obtain ⟨g2, o2, c2, e2, _, hc2⟩ := HY.out.open (by omega)
      injection e1 with e1 _ _
      injection e2 with e2 _ _
      subst e1; subst e2
      have HC1 := hid hc1
      have HC2 := hid hc2
      have HN := hid hne
      clear hc1 hc2 hne
      go_enter Tryz.func51, Tryz.ntmps51
      go_wp2_with fail
      go_loopw [13] (fun i wr => ∃ k n : Nat, k ≤ xs.length ∧ i = .int .i64 k ∧ wr = w.drewN n ∧ xs.take k = ys.take k) (fun i _ => xs.length - (intOf i).toNat)
      case atStart => exact ⟨0, 0, Nat.zero_le _, rfl, rfl, rfl⟩
      case round =>
        obtain ⟨k, n, hk, rfl, rfl, ht⟩ := hrel
        have HT := hid ht
        clear ht
        by_cases hlt : k < xs.length
        · have h2 : k < ys.length := by rw [← HN.out]; exact hlt
          have d1 := HC1.out k hlt
          have d2 := HC2.out k h2
          have HE := hid (show xs.getD k 0 = ys.getD k 0 ↔ xs.take (k + 1) = ys.take (k + 1) by
            rw [take_snoc xs k hlt, take_snoc ys k h2, HT.out]
            simp)
          generalize xs.getD k 0 = b1 at *
          generalize ys.getD k 0 = b2 at *
          by_cases hb : b1 = b2
          · have hb' : (b1 != b2) = false := by simp [hb]
            have HB := hid hb
            clear hb
            go_wp2_with fail
            go_quiet (fail)
            go_wp2_with fail
            go_roundw
            case rel => exact ⟨k + 1, n + nq, by omega, by go_num, rfl, HE.out.1 HB.out⟩
            case measure => simp [intOf]; omega
          · have hb' : (b1 != b2) = true := by simpa using hb
            have HB := hid hb
            clear hb
            go_wp2_with fail
            go_quiet (fail)
            go_wp2_with fail
            go_ret
            refine ⟨?_, n + nq, by simp⟩
            have hxy : xs ≠ ys := fun e => HB.out (HE.out.2 (by rw [e]))
            simp [hxy]
        · have : k = xs.length := by omega
          subst this
          go_wp2_with fail
          go_ret
          refine ⟨?_, n, rfl⟩
          have hxy : xs = ys := by
            have := HT.out
            rwa [List.take_length, List.take_of_length_le (by have := HN.out; omega)] at this
          simp [hxy]
  · have hne' : ((xs.length : Int) != ys.length) = true := by simp; omega
    have hxy : xs ≠ ys := fun e => hne (by rw [e])
    have HXY := hid hxy
    clear hxy hne
    go_enter Tryz.func51, Tryz.ntmps51
    go_wp2_with fail
    go_ret
    exact ⟨by simp [HXY.out], 0, rfl⟩

set_option maxHeartbeats 3200000 in
/-- A Put of what is there. -/
theorem oAgain_any (w : World) (t q p g m : Nat) (hs : List Hd) (s : DS) (F : List Nat) (K : Nat) (wh : Bool) (G : Idn → Option Nat) (S : StAt w t q p g m hs s F K wh G) (x : Idn) (hm : mayI x = true) (i : Nat) (hg : G x = some i) (hd : s.dead = false) (hi : i < hs.length)
    (bb : List Int) (hbb : getB s (1 + i * 8) hs[i].held = bb) (hbl : bb.length ≤ 1000000) (bv : Value) (b : List Int) (hb : RowAt w bv b) (hl : b.length ≤ 1000000) :
    Calls Tryz.prog 27 #[.pointer (some ⟨t, 0, none⟩), idV x, bv] w fun e w' => e = .returned (.int .i64 (if bb = b then 0 else 7)) ∧ Keeps [] w w' := by
  have KA := hid ((Keeps.refl [] w).alloc (.cells #[.int .i64 x.c, .int .i64 x.l, .int .i64 x.n, .int .i64 x.i] 36))
  have B1 := hid (heap_alloc_new w (.cells #[.int .i64 x.c, .int .i64 x.l, .int .i64 x.n, .int .i64 x.i] 36))
  have SA := hid (S.keep KA.out)
  have RA := hid (hb.keep KA.out (by intro _ _ _ _ _; simp))
  obtain ⟨ba, bc, rfl, -⟩ := id hb
  have HG := hid hg
  have HM := hid hm
  have HD := hid hd
  have HBB := hid hbb
  clear S hg hm hd hb hbb
  cases hc : decide (bb = b) with
  | false =>
    have hne : ¬ bb = b := of_decide_eq_false hc
    rw [if_neg hne]
    have HC := hid hc
    clear hc hne
    unfold idV
    go_enter Tryz.func27, Tryz.ntmps27
    go_wp2_with (first | (refine wpList_loadId rfl _ rfl _ rfl x B1.out ?_) | fail)
    generalize w.alloc (.cells #[.int .i64 x.c, .int .i64 x.l, .int .i64 x.n, .int .i64 x.i] 36) = wA at KA B1 SA RA ⊢
    refine (oGet_yes wA t q p g m hs s F K wh G SA.out x HM.out i HG.out HD.out hi).mono ?_
    rw [HBB.out]
    rintro e wB ⟨v, rfl, rv, nv, kk⟩
    have KB := hid (KA.out.trans kk)
    have RB := hid (RA.out.keep kk (by intro _ _ _ _ _; simp))
    have RV := hid rv
    clear kk rv nv
    go_wp2_with fail
    have eq := equalB_any wB v (.slice ba b.length bc) bb b RV.out RB.out (by omega) (by omega)
    rw [HC.out] at eq
    refine eq.mono ?_
    rintro e wC ⟨rfl, n, rfl⟩
    have KC := hid (KB.out.drewN n)
    go_wp2_with fail
    go_ret
    exact ⟨rfl, KC.out⟩
  | true =>
    have hne : bb = b := of_decide_eq_true hc
    rw [if_pos hne]
    have HC := hid hc
    clear hc hne
    unfold idV
    go_enter Tryz.func27, Tryz.ntmps27
    go_wp2_with (first | (refine wpList_loadId rfl _ rfl _ rfl x B1.out ?_) | fail)
    generalize w.alloc (.cells #[.int .i64 x.c, .int .i64 x.l, .int .i64 x.n, .int .i64 x.i] 36) = wA at KA B1 SA RA ⊢
    refine (oGet_yes wA t q p g m hs s F K wh G SA.out x HM.out i HG.out HD.out hi).mono ?_
    rw [HBB.out]
    rintro e wB ⟨v, rfl, rv, nv, kk⟩
    have KB := hid (KA.out.trans kk)
    have RB := hid (RA.out.keep kk (by intro _ _ _ _ _; simp))
    have RV := hid rv
    clear kk rv nv
    go_wp2_with fail
    have eq := equalB_any wB v (.slice ba b.length bc) bb b RV.out RB.out (by omega) (by omega)
    rw [HC.out] at eq
    refine eq.mono ?_
    rintro e wC ⟨rfl, n, rfl⟩
    have KC := hid (KB.out.drewN n)
    go_wp2_with fail
    go_ret
    exact ⟨rfl, KC.out⟩
end Go.Proofs.YtnhcfkiejldicaaGreat


/- store: a Put of what is there. -/
namespace Go.Proofs.YtnhcfkiejldicaaGreat
open Go.RowKit Go.Shelf Go.Maps
set_option maxRecDepth 100000

set_option maxHeartbeats 3200000 in
theorem oPut_there (w : World) (t q p g m : Nat) (hs : List Hd) (s : DS) (F : List Nat) (K : Nat) (wh : Bool) (G : Idn → Option Nat) (S : StAt w t q p g m hs s F K wh G) (x : Idn) (hm : mayI x = true) (i : Nat) (hg : G x = some i) (hd : s.dead = false) (hi : i < hs.length)
    (bb : List Int) (hbb : getB s (1 + i * 8) hs[i].held = bb) (hbl : bb.length ≤ 1000000) (bv : Value) (b : List Int) (hb : RowAt w bv b) (hl : b.length ≤ 448) :
    Calls Tryz.prog 9 #[.pointer (some ⟨t, 0, none⟩), idV x, bv] w fun e w' => e = .returned (.int .i64 (if bb = b then 0 else 7)) ∧ Keeps [] w w' := by
  have hin := mayI_In hm
  have KA := hid ((Keeps.refl [] w).alloc (.cells #[.int .i64 x.c, .int .i64 x.l, .int .i64 x.n, .int .i64 x.i] 36))
  have B1 := hid (heap_alloc_new w (.cells #[.int .i64 x.c, .int .i64 x.l, .int .i64 x.n, .int .i64 x.i] 36))
  have SA := hid (S.keep KA.out)
  have RB := hid (hb.keep KA.out (by intro _ _ _ _ _; simp))
  obtain ⟨ba, bc, rfl, -⟩ := id hb
  have hbl' : ¬ (448 : Int) < (b.length : Int) := by omega
  have HG := hid hg
  have HM := hid hm
  have HD := hid hd
  have HBB := hid hbb
  have HL := hid hl
  obtain ⟨ans, hans⟩ : ∃ z : Int, z = if bb = b then 0 else 7 := ⟨_, rfl⟩
  rw [← hans]
  have HANS := hid hans
  clear S hg hm hd hb hbb hl hans
  have hidv : idV x = .agg #[.int .i64 x.c, .int .i64 x.l, .int .i64 x.n, .int .i64 x.i] := rfl
  rw [hidv]
  have HIDV := hid hidv
  clear hidv
  go_enter Tryz.func9, Tryz.ntmps9
  go_wp2_with fail
  have LTI := hid (lt_of_block B1.out)
  obtain ⟨ib, hib⟩ : ∃ z, z = w.heap.size := ⟨_, rfl⟩
  rw [← hib] at B1 LTI ⊢
  clear hib
  generalize w.alloc (.cells #[.int .i64 x.c, .int .i64 x.l, .int .i64 x.n, .int .i64 x.i] 36) = wA at KA B1 SA RB LTI ⊢
  refine (made6_any wA t p q m wh SA.out.blk).mono ?_
  rintro e _ ⟨rfl, rfl⟩
  go_wp2_with (first | (refine wpList_loadId rfl _ rfl _ rfl x B1.out ?_) | fail)
  have ky := key_any wA x
  rw [HM.out] at ky
  simp only [if_true] at ky
  refine ky.mono ?_
  rintro e wB ⟨ka, kc, rfl, kr, kn, kk⟩
  have KB := hid (KA.out.trans kk)
  have SB := hid (SA.out.keep kk)
  have BB := hid ((kk.block _ LTI.out (by simp)).trans B1.out)
  have RBB := hid (RB.out.keep kk (by intro _ _ _ _ _; simp))
  clear kr kn kk ky
  go_wp2_with (first | (refine wpList_loadId rfl _ rfl _ rfl x BB.out ?_) | fail)
  have hh := has_any6 wB t p q m wh SB.out.blk _ _ _ _ SB.out.mp x hin
  rw [HG.out] at hh
  refine hh.mono ?_
  rintro e wC ⟨rfl, kk⟩
  have KC := hid (KB.out.trans kk)
  have SC := hid (SB.out.keep kk)
  have BC := hid ((kk.block _ (lt_of_block BB.out) (by simp)).trans BB.out)
  have RBC := hid (RBB.out.keep kk (by intro _ _ _ _ _; simp))
  clear kk hh
  go_wp2_with (first | (refine wpList_loadId rfl _ rfl _ rfl x BC.out ?_) | fail)
  refine (oAgain_any wC t q p g m hs s F K wh G SC.out x HM.out i HG.out HD.out hi bb HBB.out hbl _ b RBC.out (by have := HL.out; omega)).mono ?_
  rw [← HANS.out]
  rintro e wD ⟨rfl, kk⟩
  have KD := hid (KC.out.trans kk)
  clear kk
  go_wp2_with fail
  go_ret
  exact ⟨rfl, KD.out⟩
end Go.Proofs.YtnhcfkiejldicaaGreat


/- store: Open of a disk that is too small, or not formatted. -/
namespace Go.Proofs.YtnhcfkiejldicaaGreat
open Go.RowKit Go.Shelf Go.Maps
set_option maxRecDepth 100000

theorem oOpen_small (w : World) (p : Nat) (s : DS) (F : List Nat) (K : Nat) (D : DiskAt w p s F K) (h : s.cnt < 9) :
    Calls Tryz.prog 22 #[.pointer (some ⟨p, 0, none⟩)] w fun e w' => e = .returned (.tuple #[.pointer none, .int .i64 1]) ∧ Keeps [] w w' := by
  have sm := small_any w p s F K D
  rw [decide_eq_true h] at sm
  have SM := hid sm
  clear sm D h
  go_enter Tryz.func22, Tryz.ntmps22
  go_wp2_with fail
  refine SM.out.mono ?_
  rintro e _ ⟨rfl, rfl⟩
  go_wp2_with fail
  go_ret2
  exact ⟨rfl, Keeps.refl _ _⟩

theorem oOpen_bad (w : World) (p : Nat) (s : DS) (F : List Nat) (K : Nat) (D : DiskAt w p s F K) (h : ¬ s.cnt < 9) (hr : rmE s ≠ 0) :
    Calls Tryz.prog 22 #[.pointer (some ⟨p, 0, none⟩)] w fun e w' => e = .returned (.tuple #[.pointer none, .int .i64 (rmE s)]) ∧ Keeps [] w w' := by
  have sm := small_any w p s F K D
  rw [decide_eq_false h] at sm
  have SM := hid sm
  have RM := hid (readMark_any w p s F K D)
  generalize rmE s = x at RM hr ⊢
  have hx : (x != 0) = true := by simpa using hr
  clear sm D h hr
  go_enter Tryz.func22, Tryz.ntmps22
  go_wp2_with fail
  refine SM.out.mono ?_
  rintro e _ ⟨rfl, rfl⟩
  go_wp2_with fail
  refine RM.out.mono ?_
  rintro e w2 ⟨rfl, kk⟩
  have K2 := hid kk
  clear kk
  go_wp2_with fail
  go_ret2
  exact ⟨rfl, K2.out⟩
end Go.Proofs.YtnhcfkiejldicaaGreat


/- store: slices.Backward of ids. -/
namespace Go.Proofs.YtnhcfkiejldicaaGreat
open Go.RowKit Go.Shelf Go.Maps
set_option maxRecDepth 100000

set_option maxHeartbeats 2000000 in
theorem backD_in (n : Nat) (hn : 1 ≤ n) (l Bs n₀ b cap : Nat) (xs : List Idn) (hreach : xs.length ≤ 1099511627776) (hb : b < n₀) (hbs : Bs < n₀) (J Jx : List Idn → World → Prop)
    (hY : ∀ pre x (i : Int) W, x ∈ xs → J pre W → pre.length < xs.length → YieldAt Fence.wide (n - 1) Tryz.prog l #[.int .i64 i, idV x] W fun e W' =>
      (e = .returned (.bool true) ∧ J (pre ++ [x]) W' ∧ Below n₀ W W') ∨ (e = .returned (.bool false) ∧ Jx (pre ++ [x]) W'))
    (W : World) (hBs : W.cell? ⟨Bs, 0, none⟩ = some (.slice (some ⟨b, 0, none⟩) xs.length cap))
    (hc : ∀ j (hj : j < xs.length), W.cell? ⟨b, j * 4, none⟩ = some (.int .i64 xs[j].c) ∧ W.cell? ⟨b, j * 4 + 1, none⟩ = some (.int .i64 xs[j].l) ∧ W.cell? ⟨b, j * 4 + 2, none⟩ = some (.int .i64 xs[j].n) ∧ W.cell? ⟨b, j * 4 + 3, none⟩ = some (.int .i64 xs[j].i)) (h0 : J [] W) :
    CallsIn Fence.wide n Tryz.prog 66 #[.func (.yield l) #[] #[], .pointer (some ⟨Bs, 0, none⟩)] W fun e W' => (∃ v, e = .returned v) ∧
      (J xs.reverse W' ∨ (∃ pre, Jx pre W')) := by
  refine callsIn_of_wp Tryz.func66 rfl trivial ?_ rfl
  simp only [Tryz.ntmps66, List.size_toArray, List.length_cons, List.length_nil, Nat.reduceAdd, Nat.reduceSub, Array.replicate_succ, Array.replicate_zero, List.push_toArray, List.append_toArray, List.nil_append, List.cons_append]
  have HC := hid hc
  have HY := hid hY
  have HB := hid hBs
  clear hc hY
  gi_wp2
  gi_loopw [3] (fun i wr => ∃ k : Nat, k ≤ xs.length ∧ i = .int .i64 ((k : Int) - 1) ∧ J (xs.drop k).reverse wr ∧ Below n₀ W wr)
    (fun i _ => (intOf i + 1).toNat)
  case atStart => exact ⟨xs.length, Nat.le_refl _, by go_num, by simpa using h0, Below.refl _ _⟩
  case round =>
    obtain ⟨k, hk, rfl, hJs, hnx⟩ := hrel
    have HJ := hid hJs
    have HN := hid hnx
    clear hJs hnx
    have cB : wr.cell? ⟨Bs, 0, none⟩ = some (.slice (some ⟨b, 0, none⟩) xs.length cap) := (HN.out.cell (p := ⟨Bs, 0, none⟩) hbs).trans HB.out
    cases k with
    | zero =>
      gi_wp2
      go_end0
      exact ⟨⟨_, rfl⟩, .inl (by simpa using HJ.out)⟩
    | succ j =>
      have hlt : j < xs.length := by omega
      have ej : ((j + 1 : Nat) : Int) - 1 = (j : Int) := by omega
      rw [ej]
      have EJ := hid ej
      clear ej
      obtain ⟨d0, d1, d2, d3⟩ := HC.out j hlt
      have c0 := (HN.out.cell (p := ⟨b, j * 4, none⟩) hb).trans d0
      have c1 := (HN.out.cell (p := ⟨b, j * 4 + 1, none⟩) hb).trans d1
      have c2 := (HN.out.cell (p := ⟨b, j * 4 + 2, none⟩) hb).trans d2
      have c3 := (HN.out.cell (p := ⟨b, j * 4 + 3, none⟩) hb).trans d3
      clear d0 d1 d2 d3
      obtain ⟨fn, tmps, assign, body, hy, hR⟩ := HY.out _ xs[j] j wr (List.getElem_mem hlt) HJ.out (by rw [List.length_reverse, List.length_drop]; omega)
      have HT : Hid ((xs.drop (j + 1)).reverse ++ [xs[j]] = (xs.drop j).reverse) := hid (by rw [← List.getElem_cons_drop (h := hlt), List.reverse_cons])
      generalize xs[j] = x at *
      have HR := hid hR
      clear hR
      unfold idV at hy
      gi_wp2
      refine HR.out.mono ?_
      rintro e W3 (⟨rfl, hJ3, hk3⟩ | ⟨rfl, hJx3⟩)
      · have HJ3 := hid hJ3
        have HK3 := hid hk3
        clear hJ3 hk3
        gi_wp2
        go_roundw
        case rel => exact ⟨j, by omega, by go_num, by rw [← HT.out]; exact HJ3.out, HN.out.trans HK3.out⟩
        case measure => simp [intOf]
      · have HJ3 := hid hJx3
        clear hJx3
        gi_wp2
        refine bodyPost_ret (results_none rfl _ _ _) rfl ?_
        exact ⟨⟨_, rfl⟩, .inr ⟨_, HJ3.out⟩⟩

theorem backD_any (w : World) (a : Option Addr) (n c : Nat) : Calls Tryz.prog 39 #[.slice a n c] w fun e w' => e = .returned (.func (.func 66) #[] #[.pointer (some ⟨w.heap.size, 0, none⟩)]) ∧ w.alloc (.cells #[.slice a n c] 39) = w' := by
  go_enter Tryz.func39, Tryz.ntmps39
  go_wp2_with fail
  go_ret
  exact ⟨rfl, rfl⟩
end Go.Proofs.YtnhcfkiejldicaaGreat


/- store: Latest where there is one fragment. -/
namespace Go.Proofs.YtnhcfkiejldicaaGreat
open Go.RowKit Go.Shelf Go.Maps
set_option maxRecDepth 100000
set_option linter.unusedSimpArgs false

theorem backD_stops (n : Nat) (hn : 1 ≤ n) (Bs n₀ b cap : Nat) (xs : List Idn) (hreach : xs.length ≤ 1099511627776) (hb : b < n₀) (hbs : Bs < n₀) (w : World) (hn0 : n₀ ≤ w.heap.size)
    (hBs : w.cell? ⟨Bs, 0, none⟩ = some (.slice (some ⟨b, 0, none⟩) xs.length cap))
    (hc : ∀ j (hj : j < xs.length), w.cell? ⟨b, j * 4, none⟩ = some (.int .i64 xs[j].c) ∧ w.cell? ⟨b, j * 4 + 1, none⟩ = some (.int .i64 xs[j].l) ∧ w.cell? ⟨b, j * 4 + 2, none⟩ = some (.int .i64 xs[j].n) ∧ w.cell? ⟨b, j * 4 + 3, none⟩ = some (.int .i64 xs[j].i)) :
    SeqStopsK Fence.wide n Tryz.prog 66 #[.pointer (some ⟨Bs, 0, none⟩)] (fun x : {x : Int × Idn // x.2 ∈ xs} => #[.int .i64 x.1.1, idV x.1.2]) (KpS [] n₀) (fun ys => ys.map (·.1.2) = xs.reverse) (fun _ => True) xs.length w := fun l J Jx W hW hA _ hY h0 => by
  have K0 : KpS [] w.heap.size w W := KpS.below hW (Nat.le_refl _)
  refine (backD_in n hn l Bs n₀ b cap xs hreach hb hbs (fun pre W => ∃ ps, ps.map (·.1.2) = pre ∧ J ps W) (fun pre W => ∃ ps, ps.map (·.1.2) = pre ∧ Jx ps W) ?_ W
    (K0.cell hBs (World.block_lt_of_cell? w _ hBs) (by simp)) (fun j hj => ?_) ⟨[], rfl, h0⟩).mono ?_
  · rintro pre x i W1 hx ⟨ps, rfl, hs⟩ hl
    obtain ⟨fn, tmps, assign, body, hy, hR⟩ := hY ps ⟨(i, x), hx⟩ W1 hs (by simpa using hl)
    refine ⟨fn, tmps, assign, body, hy, hR.mono ?_⟩
    rintro e W2 (⟨rfl, h1, h2⟩ | ⟨rfl, h1⟩)
    · exact .inl ⟨rfl, ⟨_, by simp, h1⟩, ⟨h2.os, h2.tape, h2.output, h2.size, fun k hk => h2.block k hk (by simp)⟩⟩
    · exact .inr ⟨rfl, _, by simp, h1⟩
  · obtain ⟨d0, d1, d2, d3⟩ := hc j hj
    have hbw : b < w.heap.size := by omega
    exact ⟨K0.cell d0 hbw (by simp), K0.cell d1 hbw (by simp), K0.cell d2 hbw (by simp), K0.cell d3 hbw (by simp)⟩
  · rintro e W' ⟨h1, (⟨ps, hps, hs⟩ | ⟨pre, ps, hps, hs⟩)⟩
    · exact ⟨h1, .inl ⟨ps, hps, hs⟩⟩
    · exact ⟨h1, .inr ⟨ps, trivial, hs⟩⟩

theorem run_storeId {w : World} {g : Nat} {z r : Idn} (hb : w.heap[g]? = some (.cells (idA z) 36 (0, 0))) : (Instr.storeAt 36 (.pointer (some ⟨g, 0, none⟩)) (idV r)).run Tryz.prog w = .ok () (w.setRow g (idA r)) := by
  have hst := run_storeCells_at Tryz.prog g 0 36 r.cells 0 (idA z) w hb (by simp [Idn.cells, idA]) (fun v hv => by
    have := idA_one r
    rw [Array.all_eq_true_iff_forall_mem] at this
    exact this v (by simpa [idA, Idn.cells] using hv))
  have e4 : r.cells.length = 4 := rfl
  have e6 : ((idA z).toList.take 0 ++ r.cells ++ (idA z).toList.drop (0 + r.cells.length)).toArray = idA r := by simp [Idn.cells, idA]
  have hs := sId
  cases hq : Tryz.prog.info? 36 with
  | none => rw [hq] at hs; cases hs
  | some i0 =>
    rw [hq] at hs
    have hz1 : i0.size = 4 := by simpa using hs
    have e3 : (idV r).cells = r.cells.toArray := rfl
    have e5 : r.cells.toArray.size = 4 := rfl
    simp only [Nat.add_zero, e6] at hst
    simp only [Instr.storeAt, Instr.sureAddr, Sem.run_bind, Sem.run_pure, Result.andThen_ok, storeVar]
    simp [sizeOf, typeInfo, hq, hz1, e3, e4, e5, hst]
section
variable {F : Fence} {n : Nat} {ops : Array Oper} {rest : List Oper} {o : Oper} {a : Act} {w : World} {Q : Exit → Act → World → Prop}
theorem wpListIn_storeIdAt (hgd : o.guard = none) (x y : Operand) (ho : o.op = .store 36 x y) (g : Nat) (z r : Idn) (hb : w.heap[g]? = some (.cells (idA z) 36 (0, 0))) (hx : a.eval x = .pointer (some ⟨g, 0, none⟩))
    (hy : a.eval y = idV r) (h : wpListIn F n Tryz.prog ops Q rest (a.put o.dst undef) (w.setRow g (idA r))) : wpListIn F n Tryz.prog ops Q (o :: rest) a w := by
  have hd' : ∀ c, o.op ≠ .defer c := fun c e => by simp [ho] at e
  refine wpListIn_plain hgd fun K hK => ?_
  unfold Oper.wpIn
  have hr := run_storeId (r := r) hb
  refine ⟨fun f hf => by simp [Oper.about, ho] at hf, ?_⟩
  rw [Oper.semAt_eq _ _ _ hd']
  unfold execOp
  simp only [ho, hx, hy, hr, Sem.run_bind, Result.andThen_ok]
  exact hK _ _ h
end
theorem run_storeBool {w : World} {g : Nat} {z r : Bool} (c : w.cell? ⟨g, 0, none⟩ = some (.bool z)) (f : w.frozen? ⟨g, 0, none⟩ = false) : (Instr.storeAt 4 (.pointer (some ⟨g, 0, none⟩)) (.bool r)).run Tryz.prog w = .ok () (w.setCell ⟨g, 0, none⟩ (.bool r)) := by
  go_simp
section
variable {F : Fence} {n : Nat} {ops : Array Oper} {rest : List Oper} {o : Oper} {a : Act} {w : World} {Q : Exit → Act → World → Prop}
theorem wpListIn_storeBoolAt (hgd : o.guard = none) (x y : Operand) (ho : o.op = .store 4 x y) (g : Nat) (z r : Bool) (c : w.cell? ⟨g, 0, none⟩ = some (.bool z)) (f : w.frozen? ⟨g, 0, none⟩ = false) (hx : a.eval x = .pointer (some ⟨g, 0, none⟩))
    (hy : a.eval y = .bool r) (h : wpListIn F n Tryz.prog ops Q rest (a.put o.dst undef) (w.setCell ⟨g, 0, none⟩ (.bool r))) : wpListIn F n Tryz.prog ops Q (o :: rest) a w := by
  have hd' : ∀ c, o.op ≠ .defer c := fun c e => by simp [ho] at e
  refine wpListIn_plain hgd fun K hK => ?_
  unfold Oper.wpIn
  have hr := run_storeBool (r := r) c f
  refine ⟨fun f hf => by simp [Oper.about, ho] at hf, ?_⟩
  rw [Oper.semAt_eq _ _ _ hd']
  unfold execOp
  simp only [ho, hx, hy, hr, Sem.run_bind, Result.andThen_ok]
  exact hK _ _ h
end
theorem loadId_var {w : World} {b : Nat} {x : Idn} (hb : w.heap[b]? = some (.cells (idA x) 36 (0, 0))) : (loadVar 36 ⟨b, 0, none⟩).run Tryz.prog w = .ok (idV x) w :=
  run_loadVar_mid w b 0 36 x.cells _ (fun j u hu => by rw [Nat.zero_add, cell_of_row w b j _ _ (0, 0) hb, ← Array.getElem?_toList]; simpa [idA, Idn.cells] using hu) Tryz.underlying36 rfl (by rw [sId]; rfl)
theorem loadBool_var {w : World} {b : Nat} {x : Bool} (hc : w.cell? ⟨b, 0, none⟩ = some (.bool x)) : (loadVar 4 ⟨b, 0, none⟩).run Tryz.prog w = .ok (.bool x) w :=
  by simp [loadVar, agg_no 4 (by kernel_rfl), hc, Result.andThen]

set_option maxHeartbeats 6400000 in
theorem latest1_in (n : Nat) (hn : 4 ≤ n) (w : World) (t : Nat) (cl : Int) (x : Idn) (hxc : x.c = cl)
    (HL : ∀ W, Keeps [] w W → Calls Tryz.prog 12 #[.pointer (some ⟨t, 0, none⟩)] W fun e W' => ∃ g cp, e = .returned (.slice (some ⟨g, 0, none⟩) 1 cp) ∧ (∀ j v, (idA x)[j]? = some v → W'.cell? ⟨g, j, none⟩ = some v) ∧ Keeps [] W W') :
    CallsIn Fence.wide n Tryz.prog 14 #[.pointer (some ⟨t, 0, none⟩), .int .i64 cl] w fun e w' => e = .returned (.tuple #[idV x, .bool true]) ∧ Keeps [] w w' := by
  have h1 : 1 ≤ n := by omega
  have HLL := hid HL
  have HXC := hid hxc
  clear HL hxc
  refine callsIn_of_wp_marks Tryz.func14 rfl trivial ?_ rfl
  simp only [Tryz.ntmps14, List.size_toArray, List.length_cons, List.length_nil, Nat.reduceAdd, Nat.reduceSub, Array.replicate_succ, Array.replicate_zero, List.push_toArray, List.append_toArray, List.nil_append, List.cons_append]
  gi_wp2_with (first | (refine wpListIn_allocId rfl rfl ?_) | fail)
  have kA : Keeps [] w (((w.alloc (.cells #[.int .i64 cl] 3)).alloc (.cells (idA ⟨0, 0, 0, 0⟩) 36)).alloc (.cells #[.bool false] 4)) := (((Keeps.refl [] w).alloc _).alloc _).alloc _
  have zA : (((w.alloc (.cells #[.int .i64 cl] 3)).alloc (.cells (idA ⟨0, 0, 0, 0⟩) 36)).alloc (.cells #[.bool false] 4)).heap.size = w.heap.size + 3 := by simp
  have b0 : (((w.alloc (.cells #[.int .i64 cl] 3)).alloc (.cells (idA ⟨0, 0, 0, 0⟩) 36)).alloc (.cells #[.bool false] 4)).heap[w.heap.size]? = some (.cells #[.int .i64 cl] 3 (0, 0)) := (Below.heap_alloc _ _ _ (by simp; omega)).trans ((Below.heap_alloc _ _ _ (by simp)).trans (heap_alloc_new w _))
  have b1 : (((w.alloc (.cells #[.int .i64 cl] 3)).alloc (.cells (idA ⟨0, 0, 0, 0⟩) 36)).alloc (.cells #[.bool false] 4)).heap[w.heap.size + 1]? = some (.cells (idA ⟨0, 0, 0, 0⟩) 36 (0, 0)) := by
    refine (Below.heap_alloc _ _ _ (by simp)).trans ?_
    have := heap_alloc_new (w.alloc (.cells #[.int .i64 cl] 3)) (.cells (idA ⟨0, 0, 0, 0⟩) 36)
    simpa using this
  have b2 : (((w.alloc (.cells #[.int .i64 cl] 3)).alloc (.cells (idA ⟨0, 0, 0, 0⟩) 36)).alloc (.cells #[.bool false] 4)).heap[w.heap.size + 2]? = some (.cells #[.bool false] 4 (0, 0)) := by
    have := heap_alloc_new ((w.alloc (.cells #[.int .i64 cl] 3)).alloc (.cells (idA ⟨0, 0, 0, 0⟩) 36)) (.cells #[.bool false] 4)
    simpa using this
  generalize ((w.alloc (.cells #[.int .i64 cl] 3)).alloc (.cells (idA ⟨0, 0, 0, 0⟩) 36)).alloc (.cells #[.bool false] 4) = wA at kA zA b0 b1 b2 ⊢
  refine ⟨trivial, (callsIn_wide.2 (HLL.out wA kA)).mono ?_⟩
  rintro e w1 ⟨g, cp, rfl, hcells, k1⟩
  gi_wp2
  refine ⟨trivial, (callsIn_wide.2 (backD_any w1 (some ⟨g, 0, none⟩) 1 cp)).mono ?_⟩
  rintro e w2 ⟨rfl, hw2⟩
  have k2 : Keeps [] w1 w2 := by rw [← hw2]; exact (Keeps.refl [] w1).alloc _
  have hbs : w2.heap[w1.heap.size]? = some (.cells #[.slice (some ⟨g, 0, none⟩) 1 cp] 39 (0, 0)) := by rw [← hw2]; exact heap_alloc_new w1 _
  have k12 := k1.trans k2
  have b0' := (k12.block _ (lt_of_block b0) (by simp)).trans b0
  have b1' := (k12.block _ (lt_of_block b1) (by simp)).trans b1
  have b2' := (k12.block _ (lt_of_block b2) (by simp)).trans b2
  have hc2 : ∀ j v, (idA x)[j]? = some v → w2.cell? ⟨g, j, none⟩ = some v := fun j v hv => k2.cell (hcells j v hv) (by simp)
  have hgl : g < w2.heap.size := World.block_lt_of_cell? _ _ (hc2 0 _ rfl)
  have KW := hid (kA.trans k12)
  have z2 : w.heap.size + 3 ≤ w2.heap.size := by have := k12.size; omega
  have hb1l := lt_of_block hbs
  have SEQ := hid (backD_stops (n - 1) (by omega) w1.heap.size w2.heap.size g cp [x] (by simp) hgl hb1l w2 (Nat.le_refl _) (cell_of_row _ _ 0 _ _ (0, 0) hbs) (fun j hj => by
    obtain rfl : j = 0 := by simpa using hj
    exact ⟨hc2 0 _ rfl, hc2 1 _ rfl, hc2 2 _ rfl, hc2 3 _ rfl⟩))
  clear hw2 k1 k2 hbs k12 b0 b1 b2 hc2 hcells hgl kA zA
  gi_wp2
  refine wpIn_rangeFunc_ownH rfl h1 (gf := 66) (lb := #[.pointer (some ⟨w1.heap.size, 0, none⟩)]) rfl trivial (fun _ _ => rfl) SEQ.out KpS.trans (KpS.putObj (Nat.le_refl _)) (Below.refl _ _) (fun _ => rfl)
    (fun pre W => pre = [] ∧ KpS [] w2.heap.size w2 W)
    (fun c pre W => c = .ret ∧ W.heap[w.heap.size + 1]? = some (.cells (idA x) 36 (0, 0)) ∧ W.heap[w.heap.size + 2]? = some (.cells #[.bool true] 4 (0, 0)) ∧ KpS [w.heap.size + 1, w.heap.size + 2] w2.heap.size w2 W)
    ?own ?ownx ⟨rfl, KpS.refl _ _ _⟩
    (fun y a' W => ∃ b, a' = { tmps := #[.pointer (some ⟨t, 0, none⟩), .int .i64 cl, undef, .pointer (some ⟨w.heap.size, 0, none⟩), .pointer (some ⟨w.heap.size + 1, 0, none⟩), .pointer (some ⟨w.heap.size + 1 + 1, 0, none⟩), undef, .pointer (some ⟨b, 0, none⟩), .pointer (some ⟨t, 0, none⟩), .slice (some ⟨g, 0, none⟩) 1 cp, .func (.func 66) #[] #[.pointer (some ⟨w1.heap.size, 0, none⟩)], .int .i64 y.1.1, idV y.1.2, undef, undef, undef, undef, undef, undef, undef], defers := [] } ∧ IdVar w2.heap.size b y.1.2 W)
    (fun y a' => ownFrom_ex2 fun b => fun u A A' row hs hg hr => idvar_from w2.heap.size b y.1.2 _ u A A' row hs hg (fun r e => hr r e)) ?assign ?body ?done ?stop
  case own =>
    rintro pre A B' row ⟨rfl, h⟩ hg hr
    exact ⟨rfl, h.trans ⟨hg.os, hg.tape, hg.output, hg.size, fun k hk _ => hg.block k (by have := h.size; omega) (fun e => by have := (hr k e.symm).1; omega)⟩⟩
  case ownx =>
    rintro c pre A B' row ⟨hc, g1, g2, h⟩ hg hr
    have hlow : ∀ k, k < w2.heap.size → B'.heap[k]? = A.heap[k]? := fun k hk => hg.block k (by have := h.size; omega) (fun e => by have := (hr k e.symm).1; omega)
    exact ⟨hc, (hlow _ (by omega)).trans g1, (hlow _ (by omega)).trans g2, h.trans ⟨hg.os, hg.tape, hg.output, hg.size, fun k hk _ => hlow k hk⟩⟩
  case assign =>
    rintro l pre y W K hI hC
    refine round_plain (by kernel_rfl) noOut_then ?_
    simp only [List.zip_toArray, List.zip_cons_cons, List.zip_nil_right, List.foldl_toArray, List.foldl_cons, List.foldl_nil, List.setIfInBounds_toArray, List.set_cons_zero, List.set_cons_succ]
    refine wpList_allocId rfl rfl ?_
    refine wpList_storeIdNew rfl _ _ rfl W _ y.1.2 rfl _ rfl rfl rfl ?_
    refine wpList_nil ?_
    have hz := hI.2.size
    exact hC _ _ ⟨by simp, fun k o _ hk _ => (Below.heap_alloc _ _ _ (lt_of_block hk)).trans hk⟩ ((KpS.refl _ _ _).alloc hz _) ⟨hI.1, hI.2.alloc hz _⟩ ⟨W.heap.size, rfl, hz, heap_alloc_new W _⟩
  case body =>
    rintro l pre ⟨⟨iv, yv⟩, hyv⟩ a' W hl2 _ ⟨rfl, hK⟩ ⟨b, rfl, hv⟩ hlen
    have hyx : x = yv := by have : yv = x := by simpa using hyv
                            exact this.symm
    subst hyx
    have hsz := hK.size
    have hvb := hv.2
    simp only at hvb
    have hbb := hv.1
    have a0 := (hK.block (w.heap.size) (by omega) (by simp)).trans b0'
    have a1 := (hK.block (w.heap.size + 1) (by omega) (by simp)).trans b1'
    have a2 := (hK.block (w.heap.size + 2) (by omega) (by simp)).trans b2'
    have cc : W.cell? ⟨b, 0, none⟩ = some (.int .i64 cl) := by rw [← HXC.out]; exact cell_of_row _ _ 0 _ _ (0, 0) hvb
    have cq : W.cell? ⟨w.heap.size, 0, none⟩ = some (.int .i64 cl) := cell_of_row _ _ 0 _ _ (0, 0) a0
    obtain ⟨W3, hW3⟩ : ∃ W3, W3 = W.setRow (w.heap.size + 1) (idA x) := ⟨_, rfl⟩
    have d1 : W3.heap[w.heap.size + 1]? = some (.cells (idA x) 36 (0, 0)) := by rw [hW3]; exact setRow_heap _ _ _ _ _ _ a1
    have do3 : ∀ j, j ≠ w.heap.size + 1 → W3.heap[j]? = W.heap[j]? := fun j hj => by rw [hW3]; exact setRow_other _ _ _ _ hj
    have d2 : W3.heap[w.heap.size + 2]? = some (.cells #[.bool false] 4 (0, 0)) := (do3 _ (by omega)).trans a2
    have dz : W3.heap.size = W.heap.size := by rw [hW3]; simp [World.setRow]
    have de : W3.os = W.os ∧ W3.tape = W.tape ∧ W3.output = W.output := by rw [hW3]; exact ⟨rfl, rfl, rfl⟩
    have c2 : W3.cell? ⟨w.heap.size + 1 + 1, 0, none⟩ = some (.bool false) := cell_of_row _ _ 0 _ _ (0, 0) d2
    have f2 : W3.frozen? ⟨w.heap.size + 1 + 1, 0, none⟩ = false := by
      have d2' : W3.heap[w.heap.size + 1 + 1]? = some (.cells #[.bool false] 4 (0, 0)) := d2
      simp [World.frozen?, d2']
    have A1 := hid a1
    have VB := hid hvb
    have HW3 := hid hW3
    clear a0 a1 a2 hvb hW3
    refine wpIn_block (wpIn_seq (round_plain (by kernel_rfl) (fun h => by obtain ⟨_, _, h⟩ := h; exact h) ?_))
    refine wpList_is rfl (.pointer (some ⟨b, 0, none⟩)) W (by go_simp) ?_
    refine wpList_is rfl (.pointer (some ⟨b, 0, none⟩)) W (by go_simp) ?_
    refine wpList_is rfl (.int .i64 cl) W (exec_load _ _ _ _ rfl rfl (run_loadCell W _ _ _ cc (agg_no _ (by kernel_rfl)))) ?_
    refine wpList_is rfl (.int .i64 cl) W (exec_load _ _ _ _ rfl rfl (run_loadCell W _ _ _ cq (agg_no _ (by kernel_rfl)))) ?_
    refine wpList_is rfl (.bool true) W (by go_simp) ?_
    refine wpList_nil ?_
    refine show Code.wpIn _ _ _ _ _ _ _ from ?_
    simp only [Act.put, List.setIfInBounds_toArray, List.set_cons_zero, List.set_cons_succ]
    gi_wp2_with (first | (refine wpListIn_loadIdA rfl _ rfl b rfl x VB.out ?_) | (refine wpListIn_storeIdAt rfl _ _ rfl (w.heap.size + 1) ⟨0, 0, 0, 0⟩ x A1.out rfl rfl ?_; rw [← HW3.out]) | (refine wpListIn_storeBoolAt rfl _ _ rfl (w.heap.size + 1 + 1) false true c2 f2 rfl rfl ?_) | fail)
    have e2 : ∀ j, j ≠ w.heap.size + 1 + 1 → (W3.setCell ⟨w.heap.size + 1 + 1, 0, none⟩ (.bool true)).heap[j]? = W3.heap[j]? := fun j hj => Below.heap_setCell _ _ _ _ hj
    have ez : (W3.setCell ⟨w.heap.size + 1 + 1, 0, none⟩ (.bool true)).heap.size = W3.heap.size := by simp [World.setCell]
    refine ⟨⟨by omega, fun j o hB hj _ => ?_⟩, rfl, (e2 _ (by omega)).trans d1, heap_setCell_same _ _ _ _ _ _ d2, de.1.trans hK.os, de.2.1.trans hK.tape, de.2.2.trans hK.output, by omega, fun k hk hm => ?_⟩
    · exact (e2 _ (by omega)).trans ((do3 _ (by omega)).trans hj)
    · have hm' : k ≠ w.heap.size + 1 ∧ k ≠ w.heap.size + 2 := by simpa using hm
      exact (e2 _ hm'.2).trans ((do3 _ hm'.1).trans (hK.block k hk (by simp)))
  case done =>
    rintro D ys W hD hys ⟨rfl, _⟩ hDD
    simp at hys
  case stop =>
    rintro D c pre W hD _ ⟨rfl, g1, g2, h⟩ hDD
    gi_wp2
    have yk : Keeps [] w W := KW.out.trans' h.toKeeps (fun j hj hm => by simp at hm; omega)
    have hs := h.size
    refine ⟨by simp, .inl ⟨_, _, rfl, run_takeDeferred hDD, ?_⟩⟩
    refine ⟨_, results_cells2 rfl _ _ ⟨w.heap.size + 1, 0, none⟩ ⟨w.heap.size + 1 + 1, 0, none⟩ (idV x) (.bool true) rfl rfl
      (loadId_var ((World.putObj_heap_other (by omega)).trans g1)) (loadBool_var (cell_of_row _ _ 0 _ _ (0, 0) ((World.putObj_heap_other (by omega)).trans g2))), rfl, yk.putObj (by omega) _⟩
end Go.Proofs.YtnhcfkiejldicaaGreat


/- store: Get and Delete of an id that is not there, Put of one that may not be. -/
namespace Go.Proofs.YtnhcfkiejldicaaGreat
open Go.RowKit Go.Shelf Go.Maps
set_option maxRecDepth 100000

set_option maxHeartbeats 3200000 in
theorem oGet_none (w : World) (t q p g m : Nat) (hs : List Hd) (s : DS) (F : List Nat) (K : Nat) (wh : Bool) (G : Idn → Option Nat) (S : StAt w t q p g m hs s F K wh G) (x : Idn) (hm : mayI x = true) (hg : G x = none) :
    Calls Tryz.prog 15 #[.pointer (some ⟨t, 0, none⟩), idV x] w fun e w' => e = .returned (.tuple #[.slice none 0 0, .int .i64 6]) ∧ Keeps [] w w' := by
  have hin := mayI_In hm
  have KA := hid ((Keeps.refl [] w).alloc (.cells #[.int .i64 x.c, .int .i64 x.l, .int .i64 x.n, .int .i64 x.i] 36))
  have B1 := hid (heap_alloc_new w (.cells #[.int .i64 x.c, .int .i64 x.l, .int .i64 x.n, .int .i64 x.i] 36))
  have SA := hid (S.keep KA.out)
  have HG := hid hg
  have HM := hid hm
  clear S hg hm
  unfold idV
  go_enter Tryz.func15, Tryz.ntmps15
  go_wp2_with (first | (refine wpList_loadId rfl _ rfl _ rfl x B1.out ?_) | fail)
  have hz0 : w.heap.size < (w.alloc (.cells #[.int .i64 x.c, .int .i64 x.l, .int .i64 x.n, .int .i64 x.i] 36)).heap.size := by simp
  generalize w.alloc (.cells #[.int .i64 x.c, .int .i64 x.l, .int .i64 x.n, .int .i64 x.i] 36) = wA at KA B1 SA hz0 ⊢
  have HZ0 := hid hz0
  clear hz0
  have ak := ask_any wA t p q m wh SA.out.blk x
  rw [HM.out] at ak
  simp only [if_true] at ak
  refine ak.mono ?_
  rintro e wB ⟨rfl, kk⟩
  have KB := hid (KA.out.trans kk)
  have SB := hid (SA.out.keep kk)
  have BB := hid ((kk.block _ HZ0.out (by simp)).trans B1.out)
  clear kk ak
  go_wp2_with (first | (refine wpList_loadId rfl _ rfl _ rfl x BB.out ?_) | fail)
  have hh := has_any6 wB t p q m wh SB.out.blk _ _ _ _ SB.out.mp x hin
  rw [HG.out] at hh
  refine hh.mono ?_
  rintro e wC ⟨rfl, kk⟩
  have KC := hid (KB.out.trans kk)
  clear kk hh
  go_wp2_with fail
  go_ret2
  exact ⟨rfl, KC.out⟩

set_option maxHeartbeats 3200000 in
theorem oPut_arg (w : World) (t q p m : Nat) (wh : Bool) (B : StBlk w t p q m wh) (x : Idn) (hm : mayI x = false) (bv : Value) :
    Calls Tryz.prog 9 #[.pointer (some ⟨t, 0, none⟩), idV x, bv] w fun e w' => e = .returned (.int .i64 1) ∧ Keeps [] w w' := by
  have KA := hid ((Keeps.refl [] w).alloc (.cells #[.int .i64 x.c, .int .i64 x.l, .int .i64 x.n, .int .i64 x.i] 36))
  have B1 := hid (heap_alloc_new w (.cells #[.int .i64 x.c, .int .i64 x.l, .int .i64 x.n, .int .i64 x.i] 36))
  have BA := hid (B.keep KA.out (by simp))
  have HM := hid hm
  clear B hm
  unfold idV
  go_enter Tryz.func9, Tryz.ntmps9
  go_wp2_with fail
  generalize w.alloc (.cells #[.int .i64 x.c, .int .i64 x.l, .int .i64 x.n, .int .i64 x.i] 36) = wA at KA B1 BA ⊢
  refine (made6_any wA t p q m wh BA.out).mono ?_
  rintro e _ ⟨rfl, rfl⟩
  go_wp2_with (first | (refine wpList_loadId rfl _ rfl _ rfl x B1.out ?_) | fail)
  have ky := key_any wA x
  rw [HM.out] at ky
  simp only [Bool.false_eq_true, if_false] at ky
  refine ky.mono ?_
  rintro e wB ⟨ka, kc, rfl, rk, nk, kk⟩
  have KB := hid (KA.out.trans kk)
  clear kk ky rk nk
  go_wp2_with fail
  go_ret
  exact ⟨rfl, KB.out⟩

theorem three_alloc (w : World) (X1 X2 X3 : Obj) : (((w.alloc X1).alloc X2).alloc X3).heap[w.heap.size]? = some X1 ∧ (((w.alloc X1).alloc X2).alloc X3).heap[w.heap.size + 1]? = some X2 ∧
    (((w.alloc X1).alloc X2).alloc X3).heap[w.heap.size + 1 + 1]? = some X3 ∧ Keeps [] w (((w.alloc X1).alloc X2).alloc X3) := by
  have b1 := heap_alloc_new w X1
  have b2 := heap_alloc_new (w.alloc X1) X2
  have b3 := heap_alloc_new ((w.alloc X1).alloc X2) X3
  have k3 := (Keeps.refl [] ((w.alloc X1).alloc X2)).alloc X3
  have k2 := ((Keeps.refl [] (w.alloc X1)).alloc X2).trans k3
  have z1 : (w.alloc X1).heap.size = w.heap.size + 1 := by simp
  have z2 : ((w.alloc X1).alloc X2).heap.size = w.heap.size + 1 + 1 := by simp
  have c1 := (k2.block _ (lt_of_block b1) (by simp)).trans b1
  have c2 := (k3.block _ (lt_of_block b2) (by simp)).trans b2
  rw [z1] at c2
  rw [z2] at b3
  exact ⟨c1, c2, b3, ((Keeps.refl [] w).alloc X1).trans k2⟩

set_option maxHeartbeats 3200000 in
theorem oDelete_none (w : World) (t q p g m : Nat) (hs : List Hd) (s : DS) (F : List Nat) (K : Nat) (wh : Bool) (G : Idn → Option Nat) (S : StAt w t q p g m hs s F K wh G) (x : Idn) (hm : mayI x = true) (hg : G x = none) :
    Calls Tryz.prog 11 #[.pointer (some ⟨t, 0, none⟩), idV x] w fun e w' => e = .returned (.int .i64 0) ∧ Keeps [] w w' := by
  have hin := mayI_In hm
  have HG := hid hg
  have HM := hid hm
  obtain ⟨b1, b2, b3, ka⟩ := three_alloc w (.cells #[.pointer (some ⟨t, 0, none⟩)] 28) (.cells #[.int .i64 x.c, .int .i64 x.l, .int .i64 x.n, .int .i64 x.i] 36) (.cells #[.int .i64 0] 25)
  have SA := hid (S.keep ka)
  have KA := hid ka
  have A1 := hid b1
  have A2 := hid b2
  have A3 := hid b3
  clear S hg hm ka b1 b2 b3
  unfold idV
  go_enter Tryz.func11, Tryz.ntmps11
  go_wp2_with fail
  generalize ((w.alloc (.cells #[.pointer (some ⟨t, 0, none⟩)] 28)).alloc (.cells #[.int .i64 x.c, .int .i64 x.l, .int .i64 x.n, .int .i64 x.i] 36)).alloc (.cells #[.int .i64 0] 25) = wA at SA KA A1 A2 A3 ⊢
  have ak := ask_any wA t p q m wh SA.out.blk x
  rw [HM.out] at ak
  simp only [if_true] at ak
  refine ak.mono ?_
  rintro e wB ⟨rfl, kk⟩
  have KB := hid (KA.out.trans kk)
  have SB := hid (SA.out.keep kk)
  have B1 := hid ((kk.block _ (lt_of_block A1.out) (by simp)).trans A1.out)
  have B2 := hid ((kk.block _ (lt_of_block A2.out) (by simp)).trans A2.out)
  have B3 := hid ((kk.block _ (lt_of_block A3.out) (by simp)).trans A3.out)
  clear kk ak A1 A2 A3 SA KA
  have c1 : wB.cell? ⟨w.heap.size, 0, none⟩ = some (.pointer (some ⟨t, 0, none⟩)) := by simp [World.cell?, B1.out]
  go_wp2_with (first | (refine wpList_loadId rfl _ rfl _ rfl x B2.out ?_) | fail)
  have hh := has_any6 wB t p q m wh SB.out.blk _ _ _ _ SB.out.mp x hin
  rw [HG.out] at hh
  refine hh.mono ?_
  rintro e wC ⟨rfl, kk⟩
  have KC := hid (KB.out.trans kk)
  have C3 := hid ((kk.block _ (lt_of_block B3.out) (by simp)).trans B3.out)
  clear kk hh c1
  have c3 : wC.cell? ⟨w.heap.size + 1 + 1, 0, none⟩ = some (.int .i64 0) := by simp [World.cell?, C3.out]
  have f3 : wC.frozen? ⟨w.heap.size + 1 + 1, 0, none⟩ = false := by simp [World.frozen?, C3.out]
  go_wp2_with fail
  refine bodyPost_ret (results_cell1 rfl _ _ ⟨w.heap.size + 1 + 1, 0, none⟩ (.int .i64 0) rfl (loadErr_var (cell_of_one (heap_setCell_same _ _ _ _ _ _ C3.out)))) rfl ?_
  exact ⟨rfl, KC.out.trans' ((Keeps.refl [w.heap.size + 1 + 1] wC).setCell (Or.inl (by simp)) _) (fun i hi hmm => by simp at hmm; omega)⟩
end Go.Proofs.YtnhcfkiejldicaaGreat
