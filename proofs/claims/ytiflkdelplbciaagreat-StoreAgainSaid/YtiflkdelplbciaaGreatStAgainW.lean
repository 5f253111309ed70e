/- store: the walk of the law StoreAgain. -/
import Derived.Test.YtiflkdelplbciaaGreatStMj
namespace Go.Proofs.YtiflkdelplbciaaGreat
open Go.RowKit Go.Shelf
set_option maxRecDepth 100000
set_option linter.unusedSimpArgs false

theorem row_lt6 {w : World} {v : Value} {b : List Int} (h : RowAt w v b) : ∀ ad n c, v = .slice (some ad) n c → b ≠ [] → ad.block < w.heap.size := by
  intro ad n c e hne
  have hp : 0 < b.length := by
    cases b with
    | nil => exact absurd rfl hne
    | cons _ _ => simp
  obtain ⟨g', off', cap', e2, _, hcc⟩ := h.open hp
  rw [e] at e2
  injection e2 with e2 _ _
  have e3 := Option.some.inj e2
  subst e3
  exact World.block_lt_of_cell? w _ (hcc 0 hp)
theorem loadId_mid (W : World) (b off : Nat) (x : Idn) (hc : W.rangeAt b off x.cells) : (Instr.loadAt 34 (.pointer (some ⟨b, off, none⟩))).run Tryz.prog W = .ok (idV x) W :=
  run_loadAt_mid W b off 34 x.cells _ hc Tryz.underlying34 rfl (by rw [sId]; rfl)

theorem wpList_loadIdMid {ops : Array Oper} {rest : List Oper} {o : Oper} {a : Act} {w : World} {Q : Exit → Act → World → Prop} (hgd : o.guard = none) (X : Operand) (ho : o.op = .load 34 X) (b off : Nat) (hx : a.eval X = .pointer (some ⟨b, off, none⟩)) (x : Idn)
    (hc : w.rangeAt b off x.cells) (h : wpList Tryz.prog ops Q rest (a.put o.dst (idV x)) w) : wpList Tryz.prog ops Q (o :: rest) a w :=
  wpList_is hgd _ _ (exec_load _ _ _ _ ho hx (loadId_mid w b off x hc)) h
theorem kpS_live {w0 W : World} {t q p g m K : Nat} {hs : List Hd} {s : DS} {G : Idn → Option Nat} (L : LiveSt w0 W t q p g m K hs s G) : KpS [] w0.heap.size w0 W :=
  ⟨L.kp.os, L.kp.tape, L.kp.output, L.kp.size, fun j hj hm => L.kp.block j hj hm⟩
set_option maxHeartbeats 25600000 in
theorem qAgain_any (w : World) (v : Value) (ds : List D6) (hv : D6sAt w v ds) (x : Idn) : Calls Tryz.prog 4 #[v, idV x] w fun e w' => e = .returned (.bool true) ∧ Keeps [] w w' := by
  have kX : Keeps [] w (w.alloc (.cells #[.int .i64 x.c, .int .i64 x.l, .int .i64 x.n, .int .i64 x.i] 34)) := (Keeps.refl [] w).alloc _
  have bX := heap_alloc_new w (.cells #[.int .i64 x.c, .int .i64 x.l, .int .i64 x.n, .int .i64 x.i] 34)
  have KX := hid kX
  have BX := hid bX
  have HV := hid (hv.keep kX)
  obtain ⟨va, vc, rfl⟩ : ∃ a c, v = .slice a ds.length c := by
    obtain ⟨a, c, e, _⟩ := hv
    exact ⟨a, c, e⟩
  clear kX bX hv
  unfold idV
  go_enter Tryz.func4, Tryz.ntmps4
  go_wp2_with fail
  have LX := hid (lt_of_block BX.out)
  generalize w.alloc (.cells #[.int .i64 x.c, .int .i64 x.l, .int .i64 x.n, .int .i64 x.i] 34) = wX at KX BX HV LX ⊢
  refine (awake6_any wX).mono ?_
  rintro e w0 ⟨rfl, k0⟩
  have V0 := hid (HV.out.keep k0)
  have B0 := hid ((k0.block _ LX.out (by simp)).trans BX.out)
  have K0 := hid (KX.out.trans k0)
  clear k0 HV BX LX KX
  go_wp2_with fail
  refine (roomL_any w0 _ ds V0.out 40 (by omega)).mono ?_
  rintro e _ ⟨b, rfl, rfl, hb⟩
  cases b with
  | false =>
    go_wp2_with fail
    go_ret
    exact ⟨rfl, K0.out⟩
  | true =>
  have HLEN := hid (hb rfl).1
  clear hb
  go_wp2_with fail
  refine (newAt_any 65 (by omega) (by omega) w0).mono ?_
  rintro e w1 ⟨p, F1, rfl, d1, l1, k1⟩
  have D1 := hid d1
  have L1 := hid l1
  have K1 := hid k1
  clear d1 l1 k1
  have h65 : (blankS 65).cnt = 65 := rfl
  have ha0 : Alive (blankS 65) := blank_alive 65
  have fo := format_any w1 p (blankS 65) F1 0 D1.out (by omega) ha0 (by omega)
  have fa := fmtS_alive ha0 (by omega)
  have fc := fmtS_cnt (blankS 65)
  have e3 : ((blankS 65).cnt - 1) / 8 = 8 := rfl
  rw [e3] at fo
  rw [h65] at fc
  have FA := hid (And.intro fa.1 fc)
  generalize fmtS (blankS 65) = s2 at fo FA
  have FO := hid fo
  clear fo fa fc h65 ha0 e3
  go_wp2_with fail
  refine FO.out.mono ?_
  rintro e w2 ⟨t, q, g, m, F2, rfl, ns, ht, hm, k2, f2⟩
  have hrep := usedN_rep 8
  have S2 := newSt_at ns ht hm hrep
  have k02 : Keeps [] w0 w2 := K1.out.trans' k2 (fun i hi hmm => by have := L1.out i hmm; omega)
  have LV : LiveSt w0 w2 t q p g m 3000 (List.replicate 8 hd0) s2 (fun _ => none) := by
    have hz := K1.out.size
    obtain ⟨_, _, _, n1, n2, n3, n4, _⟩ := ns
    refine ⟨⟨F2, false, (by simpa using S2), fun b hb => ?_⟩, by omega, FA.out.1, by rw [FA.out.2, List.length_replicate]; omega, fun y z i _ _ h => by (cases h), k02⟩
    rcases f2 b hb with h | h
    · exact L1.out b h
    · omega
  have HLV := hid LV
  clear ns ht hm k2 f2 S2 k02 LV hrep FO L1 D1 FA K1
  go_wp2_with fail
  go_loopw [9] (fun i wr => ∃ (k : Nat) (hs : List Hd) (s : DS) (G : Idn → Option Nat), k ≤ ds.length ∧ i = .int .i64 k ∧ LiveSt w0 wr t q p g m (3000 + 80 * k) hs s G ∧ hs.length = 8) (fun i _ => ds.length - (intOf i).toNat)
  case atStart => exact ⟨0, List.replicate 8 hd0, s2, fun _ => none, Nat.zero_le _, rfl, HLV.out, by simp⟩
  case round =>
    obtain ⟨k, hs, s, G, hk0, rfl, hL, h8⟩ := hrel
    have L := hid hL
    clear hL HLV
    have hk40 : k ≤ 40 := by have := HLEN.out; omega
    by_cases hlt : k < ds.length
    · obtain ⟨ga, off, rfl, D⟩ : ∃ ga off, va = some ⟨ga, off, none⟩ ∧ Hid (D6At w0 ga (off + k * 7) ds[k]) := by
        obtain ⟨a, cap, e, _, _, _, h3⟩ := V0.out
        injection e with e1 _ e3
        subst e1; subst e3
        obtain ⟨ga, off, e, h4⟩ := h3 (by intro e; rw [e] at hlt; simp at hlt)
        exact ⟨ga, off, e, hid (h4 k hlt)⟩
      have hlt' : (k : Int) < (ds.length : Int) := by omega
      generalize ds[k] = d at D
      by_cases h4 : d.act ≤ 4
      · have h6 : (d.act == 6) = false := by simp; omega
        go_wp2_with fail
        refine wp_region_any (by kernel_rfl) (wpAny_of_held (S := KpS [] w0.heap.size w0) _ _ _ _ ?_)
        change wpAnyH _ _ _ _ _ _ _ _ (wr).drew
        have S0 : KpS [] w0.heap.size w0 (wr).drew := kpS_live ((L.out).keep (Keeps.refl [] _).drew)
        have hk : ∀ W1, KpS [] w0.heap.size w0 W1 → Keeps [] w0 W1 := fun W1 h => ⟨h.os, h.tape, h.output, h.size, fun j hj hm => h.block j hj hm⟩
        refine held_take (i := 0) (v := .slice (some ⟨ga, off, none⟩) ds.length vc) rfl (by kernel_rfl) (by kernel_rfl) (by kernel_rfl) (fun _ _ _ h => h) rfl (fun W1 hW1 => rfl) (S0) ?_
        simp only [Act.put, List.setIfInBounds_toArray, List.set_cons_zero, List.set_cons_succ]
        refine held_take (i := 1) (v := .int .i64 k) rfl (by kernel_rfl) (by kernel_rfl) (by kernel_rfl) (fun _ _ _ h => h) rfl (fun W1 hW1 => rfl) (S0) ?_
        simp only [Act.put, List.setIfInBounds_toArray, List.set_cons_zero, List.set_cons_succ]
        refine held_take (i := 2) (v := .pointer (some ⟨ga, off + k * 7, none⟩)) rfl (by kernel_rfl) (by kernel_rfl) (by kernel_rfl) (fun _ _ _ h => h) rfl (fun W1 hW1 => by go_simp) (S0) ?_
        simp only [Act.put, List.setIfInBounds_toArray, List.set_cons_zero, List.set_cons_succ]
        refine held_take (i := 3) (v := .pointer (some ⟨ga, off + k * 7, none⟩)) rfl (by kernel_rfl) (by kernel_rfl) (by kernel_rfl) (fun _ _ _ h => h) rfl (fun W1 hW1 => by go_simp) (S0) ?_
        simp only [Act.put, List.setIfInBounds_toArray, List.set_cons_zero, List.set_cons_succ]
        refine held_take (i := 4) (v := .int .i64 d.act) rfl (by kernel_rfl) (by kernel_rfl) (by kernel_rfl) (fun _ _ _ h => h) rfl (fun W1 hW1 => exec_load _ _ _ _ rfl rfl (run_loadCell W1 _ _ _ ((hk W1 hW1).cell D.out.c0 (by simp)) (agg_no _ (by kernel_rfl)))) (S0) ?_
        simp only [Act.put, List.setIfInBounds_toArray, List.set_cons_zero, List.set_cons_succ]
        refine held_take (i := 5) (v := .bool true) rfl (by kernel_rfl) (by kernel_rfl) (by kernel_rfl) (fun _ _ _ h => h) rfl (fun W1 hW1 => by go_simp) (S0) ?_
        simp only [Act.put, List.setIfInBounds_toArray, List.set_cons_zero, List.set_cons_succ]
        refine held_take (i := 6) (v := .bool true) rfl (by kernel_rfl) (by kernel_rfl) (by kernel_rfl) (fun _ _ _ h => h) rfl (fun W1 hW1 => rfl) (S0) ?_
        simp only [Act.put, List.setIfInBounds_toArray, List.set_cons_zero, List.set_cons_succ]
        refine held_takeW (i := 7) (v := .pointer (some ⟨t, 0, none⟩)) rfl (by kernel_rfl) (by kernel_rfl) (by kernel_rfl) (fun _ _ _ h => h) rfl (fun W1 hW1 => rfl) (S0) ?_
        simp only [Act.put, List.setIfInBounds_toArray, List.set_cons_zero, List.set_cons_succ]
        refine held_takeW (i := 8) (v := .slice (some ⟨ga, off, none⟩) ds.length vc) rfl (by kernel_rfl) (by kernel_rfl) (by kernel_rfl) (fun _ _ _ h => h) rfl (fun W1 hW1 => rfl) (S0) ?_
        simp only [Act.put, List.setIfInBounds_toArray, List.set_cons_zero, List.set_cons_succ]
        refine held_takeW (i := 9) (v := .int .i64 k) rfl (by kernel_rfl) (by kernel_rfl) (by kernel_rfl) (fun _ _ _ h => h) rfl (fun W1 hW1 => rfl) (S0) ?_
        simp only [Act.put, List.setIfInBounds_toArray, List.set_cons_zero, List.set_cons_succ]
        refine held_takeW (i := 10) (v := .pointer (some ⟨ga, off + k * 7, none⟩)) rfl (by kernel_rfl) (by kernel_rfl) (by kernel_rfl) (fun _ _ _ h => h) rfl (fun W1 hW1 => by go_simp) (S0) ?_
        simp only [Act.put, List.setIfInBounds_toArray, List.set_cons_zero, List.set_cons_succ]
        refine held_takeW (i := 11) (v := .pointer (some ⟨ga, off + k * 7 + 2, none⟩)) rfl (by kernel_rfl) (by kernel_rfl) (by kernel_rfl) (fun _ _ _ h => h) rfl (fun W1 hW1 => by go_simp) (S0) ?_
        simp only [Act.put, List.setIfInBounds_toArray, List.set_cons_zero, List.set_cons_succ]
        refine held_takeW (i := 12) (v := idV d.x) rfl (by kernel_rfl) (by kernel_rfl) (by kernel_rfl) (fun _ _ _ h => h) rfl (fun W1 hW1 => exec_load _ _ _ _ rfl rfl (loadId_mid W1 ga (off + k * 7 + 2) d.x (fun j u hu => (hk W1 hW1).cell (D.out.cx j u hu) (by simp)))) (S0) ?_
        simp only [Act.put, List.setIfInBounds_toArray, List.set_cons_zero, List.set_cons_succ]
        refine held_takeW (i := 13) (v := .slice (some ⟨ga, off, none⟩) ds.length vc) rfl (by kernel_rfl) (by kernel_rfl) (by kernel_rfl) (fun _ _ _ h => h) rfl (fun W1 hW1 => rfl) (S0) ?_
        simp only [Act.put, List.setIfInBounds_toArray, List.set_cons_zero, List.set_cons_succ]
        refine held_takeW (i := 14) (v := .int .i64 k) rfl (by kernel_rfl) (by kernel_rfl) (by kernel_rfl) (fun _ _ _ h => h) rfl (fun W1 hW1 => rfl) (S0) ?_
        simp only [Act.put, List.setIfInBounds_toArray, List.set_cons_zero, List.set_cons_succ]
        refine held_takeW (i := 15) (v := .pointer (some ⟨ga, off + k * 7, none⟩)) rfl (by kernel_rfl) (by kernel_rfl) (by kernel_rfl) (fun _ _ _ h => h) rfl (fun W1 hW1 => by go_simp) (S0) ?_
        simp only [Act.put, List.setIfInBounds_toArray, List.set_cons_zero, List.set_cons_succ]
        refine held_takeW (i := 16) (v := .pointer (some ⟨ga, off + k * 7 + 6, none⟩)) rfl (by kernel_rfl) (by kernel_rfl) (by kernel_rfl) (fun _ _ _ h => h) rfl (fun W1 hW1 => by go_simp) (S0) ?_
        simp only [Act.put, List.setIfInBounds_toArray, List.set_cons_zero, List.set_cons_succ]
        refine held_takeW (i := 17) (v := d.bv) rfl (by kernel_rfl) (by kernel_rfl) (by kernel_rfl) (fun _ _ _ h => h) rfl (fun W1 hW1 => exec_load _ _ _ _ rfl rfl (run_loadCell W1 _ _ _ ((hk W1 hW1).cell D.out.c6 (by simp)) (agg_no _ (by kernel_rfl)))) (S0) ?_
        simp only [Act.put, List.setIfInBounds_toArray, List.set_cons_zero, List.set_cons_succ]
        refine held_doW (i := 18) (by kernel_rfl) rfl rfl (wp_enter (f := 9) (args := #[.pointer (some ⟨t, 0, none⟩), idV d.x, d.bv]) (by go_simp) (put_live w0 wr.drew t q p g m (3000 + 80 * k) hs s G (L.out.keep (Keeps.refl [] _).drew) (by omega) d.x d.bv d.b (D.out.rb.keep (hk _ S0) (by intro _ _ _ _ _; simp)) (row_lt6 D.out.rb)) ?_)
        rintro e W2 ⟨r, hs2, s2, G2, rfl, L2, hl2, hok⟩
        have S2 := kpS_live L2
        refine ⟨_, rfl, S2, ?_⟩
        simp only [Act.put, List.setIfInBounds_toArray, List.set_cons_zero, List.set_cons_succ]
        have L2H := hid L2
        have HOK := hid hok
        have hl8 := hl2.trans h8
        have HL8 := hid hl8
        clear L2 hok hl2 hl8
        by_cases hr : r = 0
        · subst hr
          have HK := hid (HOK.out rfl)
          refine held_takeW (i := 19) (v := .bool true) rfl (by kernel_rfl) (by kernel_rfl) (by kernel_rfl) (fun _ _ _ h => h) rfl (fun W1 hW1 => by go_simp) (S2) ?_
          simp only [Act.put, List.setIfInBounds_toArray, List.set_cons_zero, List.set_cons_succ]
          refine held_take (i := 20) (v := .bool true) rfl (by kernel_rfl) (by kernel_rfl) (by kernel_rfl) (fun _ _ _ h => h) rfl (fun W1 hW1 => rfl) (S2) ?_
          simp only [Act.put, List.setIfInBounds_toArray, List.set_cons_zero, List.set_cons_succ]
          refine wpAnyH_done (by kernel_rfl) ?_ _
          clear hk S0 S2
          go_wp2_with fail
          refine (ops_live L2H.out).mono ?_
          rintro e _ ⟨rfl, rfl⟩
          go_wp2_with fail
          refine wp_region_any (by kernel_rfl) (wpAny_of_held (S := KpS [] w0.heap.size w0) _ _ _ _ ?_)
          change wpAnyH _ _ _ _ _ _ _ _ (W2).drew
          have S0 : KpS [] w0.heap.size w0 (W2).drew := kpS_live ((L2H.out).keep (Keeps.refl [] _).drew)
          have hk : ∀ W1, KpS [] w0.heap.size w0 W1 → Keeps [] w0 W1 := fun W1 h => ⟨h.os, h.tape, h.output, h.size, fun j hj hm => h.block j hj hm⟩
          refine held_take (i := 0) (v := .pointer (some ⟨t, 0, none⟩)) rfl (by kernel_rfl) (by kernel_rfl) (by kernel_rfl) (fun _ _ _ h => h) rfl (fun W1 hW1 => rfl) (S0) ?_
          simp only [Act.put, List.setIfInBounds_toArray, List.set_cons_zero, List.set_cons_succ]
          refine held_take (i := 1) (v := .slice (some ⟨ga, off, none⟩) ds.length vc) rfl (by kernel_rfl) (by kernel_rfl) (by kernel_rfl) (fun _ _ _ h => h) rfl (fun W1 hW1 => rfl) (S0) ?_
          simp only [Act.put, List.setIfInBounds_toArray, List.set_cons_zero, List.set_cons_succ]
          refine held_take (i := 2) (v := .int .i64 k) rfl (by kernel_rfl) (by kernel_rfl) (by kernel_rfl) (fun _ _ _ h => h) rfl (fun W1 hW1 => rfl) (S0) ?_
          simp only [Act.put, List.setIfInBounds_toArray, List.set_cons_zero, List.set_cons_succ]
          refine held_take (i := 3) (v := .pointer (some ⟨ga, off + k * 7, none⟩)) rfl (by kernel_rfl) (by kernel_rfl) (by kernel_rfl) (fun _ _ _ h => h) rfl (fun W1 hW1 => by go_simp) (S0) ?_
          simp only [Act.put, List.setIfInBounds_toArray, List.set_cons_zero, List.set_cons_succ]
          refine held_take (i := 4) (v := .pointer (some ⟨ga, off + k * 7 + 2, none⟩)) rfl (by kernel_rfl) (by kernel_rfl) (by kernel_rfl) (fun _ _ _ h => h) rfl (fun W1 hW1 => by go_simp) (S0) ?_
          simp only [Act.put, List.setIfInBounds_toArray, List.set_cons_zero, List.set_cons_succ]
          refine held_take (i := 5) (v := idV d.x) rfl (by kernel_rfl) (by kernel_rfl) (by kernel_rfl) (fun _ _ _ h => h) rfl (fun W1 hW1 => exec_load _ _ _ _ rfl rfl (loadId_mid W1 ga (off + k * 7 + 2) d.x (fun j u hu => (hk W1 hW1).cell (D.out.cx j u hu) (by simp)))) (S0) ?_
          simp only [Act.put, List.setIfInBounds_toArray, List.set_cons_zero, List.set_cons_succ]
          refine held_take (i := 6) (v := .slice (some ⟨ga, off, none⟩) ds.length vc) rfl (by kernel_rfl) (by kernel_rfl) (by kernel_rfl) (fun _ _ _ h => h) rfl (fun W1 hW1 => rfl) (S0) ?_
          simp only [Act.put, List.setIfInBounds_toArray, List.set_cons_zero, List.set_cons_succ]
          refine held_take (i := 7) (v := .int .i64 k) rfl (by kernel_rfl) (by kernel_rfl) (by kernel_rfl) (fun _ _ _ h => h) rfl (fun W1 hW1 => rfl) (S0) ?_
          simp only [Act.put, List.setIfInBounds_toArray, List.set_cons_zero, List.set_cons_succ]
          refine held_take (i := 8) (v := .pointer (some ⟨ga, off + k * 7, none⟩)) rfl (by kernel_rfl) (by kernel_rfl) (by kernel_rfl) (fun _ _ _ h => h) rfl (fun W1 hW1 => by go_simp) (S0) ?_
          simp only [Act.put, List.setIfInBounds_toArray, List.set_cons_zero, List.set_cons_succ]
          refine held_take (i := 9) (v := .pointer (some ⟨ga, off + k * 7 + 6, none⟩)) rfl (by kernel_rfl) (by kernel_rfl) (by kernel_rfl) (fun _ _ _ h => h) rfl (fun W1 hW1 => by go_simp) (S0) ?_
          simp only [Act.put, List.setIfInBounds_toArray, List.set_cons_zero, List.set_cons_succ]
          refine held_take (i := 10) (v := d.bv) rfl (by kernel_rfl) (by kernel_rfl) (by kernel_rfl) (fun _ _ _ h => h) rfl (fun W1 hW1 => exec_load _ _ _ _ rfl rfl (run_loadCell W1 _ _ _ ((hk W1 hW1).cell D.out.c6 (by simp)) (agg_no _ (by kernel_rfl)))) (S0) ?_
          simp only [Act.put, List.setIfInBounds_toArray, List.set_cons_zero, List.set_cons_succ]
          obtain ⟨hmay, hb4, i, hi, hg, hbb⟩ := HK.out
          have AG := again_live (L2H.out.keep (Keeps.refl [] _).drew) d.x hmay d.bv d.b (D.out.rb.keep (hk _ S0) (by intro _ _ _ _ _; simp)) hb4 i hi hg hbb
          have AGH := hid AG
          clear AG hmay hb4 hi hg hbb
          refine held_do (i := 11) (by kernel_rfl) rfl rfl (wp_enter (f := 9) (args := #[.pointer (some ⟨t, 0, none⟩), idV d.x, d.bv]) (by go_simp) (AGH.out) ?_)
          rintro e W3 ⟨rfl, k3⟩
          have L3 := hid ((L2H.out.keep (Keeps.refl [] _).drew).keep k3)
          have S4 := kpS_live L3.out
          refine ⟨_, rfl, S4, ?_⟩
          simp only [Act.put, List.setIfInBounds_toArray, List.set_cons_zero, List.set_cons_succ]
          clear k3 AGH
          refine held_take (i := 12) (v := .bool false) rfl (by kernel_rfl) (by kernel_rfl) (by kernel_rfl) (fun _ _ _ h => h) rfl (fun W1 hW1 => by go_simp) (S4) ?_
          simp only [Act.put, List.setIfInBounds_toArray, List.set_cons_zero, List.set_cons_succ]
          refine held_take (i := 13) (v := .bool false) rfl (by kernel_rfl) (by kernel_rfl) (by kernel_rfl) (fun _ _ _ h => h) rfl (fun W1 hW1 => rfl) (S4) ?_
          simp only [Act.put, List.setIfInBounds_toArray, List.set_cons_zero, List.set_cons_succ]
          refine held_takeW (i := 14) (v := .pointer (some ⟨p, 0, none⟩)) rfl (by kernel_rfl) (by kernel_rfl) (by kernel_rfl) (fun _ _ _ h => h) rfl (fun W1 hW1 => rfl) (S4) ?_
          simp only [Act.put, List.setIfInBounds_toArray, List.set_cons_zero, List.set_cons_succ]
          refine held_takeW (i := 16) (v := .int .i64 s2.ops) rfl (by kernel_rfl) (by kernel_rfl) (by kernel_rfl) (fun _ _ _ h => h) rfl (fun W1 hW1 => rfl) (S4) ?_
          simp only [Act.put, List.setIfInBounds_toArray, List.set_cons_zero, List.set_cons_succ]
          refine held_doW (i := 15) (by kernel_rfl) rfl rfl (wp_enter (f := 16) (args := #[.pointer (some ⟨p, 0, none⟩)]) (by go_simp) (ops_live L3.out) ?_)
          rintro e _ ⟨rfl, rfl⟩
          refine ⟨_, rfl, S4, ?_⟩
          simp only [Act.put, List.setIfInBounds_toArray, List.set_cons_zero, List.set_cons_succ]
          refine held_takeW (i := 17) (v := .bool false) rfl (by kernel_rfl) (by kernel_rfl) (by kernel_rfl) (fun _ _ _ h => h) rfl (fun W1 hW1 => by go_simp) (S4) ?_
          simp only [Act.put, List.setIfInBounds_toArray, List.set_cons_zero, List.set_cons_succ]
          refine held_take (i := 18) (v := .bool false) rfl (by kernel_rfl) (by kernel_rfl) (by kernel_rfl) (fun _ _ _ h => h) rfl (fun W1 hW1 => rfl) (S4) ?_
          simp only [Act.put, List.setIfInBounds_toArray, List.set_cons_zero, List.set_cons_succ]
          refine wpAnyH_done (by kernel_rfl) ?_ _
          clear hk S0 S4
          have cA : (W3).cell? ⟨ga, off + k * 7, none⟩ = some (.int .i64 d.act) := (L3.out).kp.cell D.out.c0 (by simp)
          go_wp2_with fail
          go_roundw
          case rel => exact ⟨k + 1, hs2, s2, G2, by omega, by go_num, (L3.out).mono (by omega), HL8.out⟩
          case measure => simp [intOf]; omega
        · have hr' : (r == 0) = false := by simpa using hr
          clear hr
          refine held_takeW (i := 19) (v := .bool false) rfl (by kernel_rfl) (by kernel_rfl) (by kernel_rfl) (fun _ _ _ h => h) rfl (fun W1 hW1 => by go_simp) (S2) ?_
          simp only [Act.put, List.setIfInBounds_toArray, List.set_cons_zero, List.set_cons_succ]
          refine held_take (i := 20) (v := .bool false) rfl (by kernel_rfl) (by kernel_rfl) (by kernel_rfl) (fun _ _ _ h => h) rfl (fun W1 hW1 => rfl) (S2) ?_
          simp only [Act.put, List.setIfInBounds_toArray, List.set_cons_zero, List.set_cons_succ]
          refine wpAnyH_done (by kernel_rfl) ?_ _
          clear hk S0 S2 hr'
          have cA : (W2).cell? ⟨ga, off + k * 7, none⟩ = some (.int .i64 d.act) := (L2H.out).kp.cell D.out.c0 (by simp)
          go_wp2_with fail
          go_roundw
          case rel => exact ⟨k + 1, hs2, s2, G2, by omega, by go_num, (L2H.out).mono (by omega), HL8.out⟩
          case measure => simp [intOf]; omega
      · have h4' : (4 : Int) < d.act := by omega
        go_wp2_with fail
        refine wp_region_any (by kernel_rfl) (wpAny_of_held (S := KpS [] w0.heap.size w0) _ _ _ _ ?_)
        change wpAnyH _ _ _ _ _ _ _ _ (wr).drew
        have S0 : KpS [] w0.heap.size w0 (wr).drew := kpS_live ((L.out).keep (Keeps.refl [] _).drew)
        have hk : ∀ W1, KpS [] w0.heap.size w0 W1 → Keeps [] w0 W1 := fun W1 h => ⟨h.os, h.tape, h.output, h.size, fun j hj hm => h.block j hj hm⟩
        refine held_take (i := 0) (v := .slice (some ⟨ga, off, none⟩) ds.length vc) rfl (by kernel_rfl) (by kernel_rfl) (by kernel_rfl) (fun _ _ _ h => h) rfl (fun W1 hW1 => rfl) (S0) ?_
        simp only [Act.put, List.setIfInBounds_toArray, List.set_cons_zero, List.set_cons_succ]
        refine held_take (i := 1) (v := .int .i64 k) rfl (by kernel_rfl) (by kernel_rfl) (by kernel_rfl) (fun _ _ _ h => h) rfl (fun W1 hW1 => rfl) (S0) ?_
        simp only [Act.put, List.setIfInBounds_toArray, List.set_cons_zero, List.set_cons_succ]
        refine held_take (i := 2) (v := .pointer (some ⟨ga, off + k * 7, none⟩)) rfl (by kernel_rfl) (by kernel_rfl) (by kernel_rfl) (fun _ _ _ h => h) rfl (fun W1 hW1 => by go_simp) (S0) ?_
        simp only [Act.put, List.setIfInBounds_toArray, List.set_cons_zero, List.set_cons_succ]
        refine held_take (i := 3) (v := .pointer (some ⟨ga, off + k * 7, none⟩)) rfl (by kernel_rfl) (by kernel_rfl) (by kernel_rfl) (fun _ _ _ h => h) rfl (fun W1 hW1 => by go_simp) (S0) ?_
        simp only [Act.put, List.setIfInBounds_toArray, List.set_cons_zero, List.set_cons_succ]
        refine held_take (i := 4) (v := .int .i64 d.act) rfl (by kernel_rfl) (by kernel_rfl) (by kernel_rfl) (fun _ _ _ h => h) rfl (fun W1 hW1 => exec_load _ _ _ _ rfl rfl (run_loadCell W1 _ _ _ ((hk W1 hW1).cell D.out.c0 (by simp)) (agg_no _ (by kernel_rfl)))) (S0) ?_
        simp only [Act.put, List.setIfInBounds_toArray, List.set_cons_zero, List.set_cons_succ]
        refine held_take (i := 5) (v := .bool false) rfl (by kernel_rfl) (by kernel_rfl) (by kernel_rfl) (fun _ _ _ h => h) rfl (fun W1 hW1 => by go_simp) (S0) ?_
        simp only [Act.put, List.setIfInBounds_toArray, List.set_cons_zero, List.set_cons_succ]
        refine held_take (i := 6) (v := .bool false) rfl (by kernel_rfl) (by kernel_rfl) (by kernel_rfl) (fun _ _ _ h => h) rfl (fun W1 hW1 => rfl) (S0) ?_
        simp only [Act.put, List.setIfInBounds_toArray, List.set_cons_zero, List.set_cons_succ]
        refine held_skip (i := 7) rfl (by kernel_rfl) (by kernel_rfl) (by kernel_rfl) (fun _ _ _ h => h) rfl (S0) ?_
        simp only [Act.put, List.setIfInBounds_toArray, List.set_cons_zero, List.set_cons_succ]
        refine held_skip (i := 8) rfl (by kernel_rfl) (by kernel_rfl) (by kernel_rfl) (fun _ _ _ h => h) rfl (S0) ?_
        simp only [Act.put, List.setIfInBounds_toArray, List.set_cons_zero, List.set_cons_succ]
        refine held_skip (i := 9) rfl (by kernel_rfl) (by kernel_rfl) (by kernel_rfl) (fun _ _ _ h => h) rfl (S0) ?_
        simp only [Act.put, List.setIfInBounds_toArray, List.set_cons_zero, List.set_cons_succ]
        refine held_skip (i := 10) rfl (by kernel_rfl) (by kernel_rfl) (by kernel_rfl) (fun _ _ _ h => h) rfl (S0) ?_
        simp only [Act.put, List.setIfInBounds_toArray, List.set_cons_zero, List.set_cons_succ]
        refine held_skip (i := 11) rfl (by kernel_rfl) (by kernel_rfl) (by kernel_rfl) (fun _ _ _ h => h) rfl (S0) ?_
        simp only [Act.put, List.setIfInBounds_toArray, List.set_cons_zero, List.set_cons_succ]
        refine held_skip (i := 12) rfl (by kernel_rfl) (by kernel_rfl) (by kernel_rfl) (fun _ _ _ h => h) rfl (S0) ?_
        simp only [Act.put, List.setIfInBounds_toArray, List.set_cons_zero, List.set_cons_succ]
        refine held_skip (i := 13) rfl (by kernel_rfl) (by kernel_rfl) (by kernel_rfl) (fun _ _ _ h => h) rfl (S0) ?_
        simp only [Act.put, List.setIfInBounds_toArray, List.set_cons_zero, List.set_cons_succ]
        refine held_skip (i := 14) rfl (by kernel_rfl) (by kernel_rfl) (by kernel_rfl) (fun _ _ _ h => h) rfl (S0) ?_
        simp only [Act.put, List.setIfInBounds_toArray, List.set_cons_zero, List.set_cons_succ]
        refine held_skip (i := 15) rfl (by kernel_rfl) (by kernel_rfl) (by kernel_rfl) (fun _ _ _ h => h) rfl (S0) ?_
        simp only [Act.put, List.setIfInBounds_toArray, List.set_cons_zero, List.set_cons_succ]
        refine held_skip (i := 16) rfl (by kernel_rfl) (by kernel_rfl) (by kernel_rfl) (fun _ _ _ h => h) rfl (S0) ?_
        simp only [Act.put, List.setIfInBounds_toArray, List.set_cons_zero, List.set_cons_succ]
        refine held_skip (i := 17) rfl (by kernel_rfl) (by kernel_rfl) (by kernel_rfl) (fun _ _ _ h => h) rfl (S0) ?_
        simp only [Act.put, List.setIfInBounds_toArray, List.set_cons_zero, List.set_cons_succ]
        refine held_skip (i := 18) rfl (by kernel_rfl) (by kernel_rfl) (by kernel_rfl) (fun _ _ _ h => h) rfl (S0) ?_
        simp only [Act.put, List.setIfInBounds_toArray, List.set_cons_zero, List.set_cons_succ]
        refine held_skip (i := 19) rfl (by kernel_rfl) (by kernel_rfl) (by kernel_rfl) (fun _ _ _ h => h) rfl (S0) ?_
        simp only [Act.put, List.setIfInBounds_toArray, List.set_cons_zero, List.set_cons_succ]
        refine held_take (i := 20) (v := .bool false) rfl (by kernel_rfl) (by kernel_rfl) (by kernel_rfl) (fun _ _ _ h => h) rfl (fun W1 hW1 => rfl) (S0) ?_
        simp only [Act.put, List.setIfInBounds_toArray, List.set_cons_zero, List.set_cons_succ]
        refine wpAnyH_done (by kernel_rfl) ?_ _
        have L1 := hid (L.out.keep (Keeps.refl [] _).drew)
        clear hk S0 h4'
        obtain ⟨wr1, hwr1⟩ : ∃ z, z = wr.drew := ⟨_, rfl⟩
        rw [← hwr1] at L1 ⊢
        clear hwr1
        by_cases h6 : d.act = 6
        · have h6' : (d.act == 6) = true := by simpa using h6
          clear h6
          have cA : (wr1).cell? ⟨ga, off + k * 7, none⟩ = some (.int .i64 d.act) := L1.out.kp.cell D.out.c0 (by simp)
          have hx : wr1.rangeAt ga (off + k * 7 + 2) d.x.cells := fun j u hu => L1.out.kp.cell (D.out.cx j u hu) (by simp)
          have x0 : wr1.cell? ⟨ga, off + k * 7 + 2, none⟩ = some (.int .i64 d.x.c) := hx 0 _ rfl
          have x1 : wr1.cell? ⟨ga, off + k * 7 + 2 + 1, none⟩ = some (.int .i64 d.x.l) := hx 1 _ rfl
          have x2 : wr1.cell? ⟨ga, off + k * 7 + 2 + 2, none⟩ = some (.int .i64 d.x.n) := hx 2 _ rfl
          have x3 : wr1.cell? ⟨ga, off + k * 7 + 2 + 3, none⟩ = some (.int .i64 d.x.i) := hx 3 _ rfl
          clear hx
          go_wp2_with fail
          refine (del_live w0 wr1 t q p g m (3000 + 80 * k) hs s G L1.out (by omega) d.x).mono ?_
          rintro e W2 ⟨r, hs2, s2, G2, rfl, L2, hl2, hok⟩
          have L2H := hid L2
          have HOK := hid hok
          have hl8 := hl2.trans h8
          have HL8 := hid hl8
          clear L2 hok hl2 hl8 x0 x1 x2 x3 cA
          by_cases hr : r = 0
          · subst hr
            have HK := hid (HOK.out rfl)
            go_wp2_with fail
            refine (ops_live L2H.out).mono ?_
            rintro e _ ⟨rfl, rfl⟩
            have hx : W2.rangeAt ga (off + k * 7 + 2) d.x.cells := fun j u hu => L2H.out.kp.cell (D.out.cx j u hu) (by simp)
            have x0 : W2.cell? ⟨ga, off + k * 7 + 2, none⟩ = some (.int .i64 d.x.c) := hx 0 _ rfl
            have x1 : W2.cell? ⟨ga, off + k * 7 + 2 + 1, none⟩ = some (.int .i64 d.x.l) := hx 1 _ rfl
            have x2 : W2.cell? ⟨ga, off + k * 7 + 2 + 2, none⟩ = some (.int .i64 d.x.n) := hx 2 _ rfl
            have x3 : W2.cell? ⟨ga, off + k * 7 + 2 + 3, none⟩ = some (.int .i64 d.x.i) := hx 3 _ rfl
            clear hx
            go_wp2_with fail
            refine (gone_live L2H.out d.x HK.out.1 HK.out.2).mono ?_
            rintro e W3 ⟨rfl, k3⟩
            have L3 := hid (L2H.out.keep k3)
            clear k3 x0 x1 x2 x3
            go_wp2_with fail
            refine (ops_live L3.out).mono ?_
            rintro e _ ⟨rfl, rfl⟩
            go_wp2_with fail
            go_roundw
            case rel => exact ⟨k + 1, hs2, s2, G2, by omega, by go_num, (L3.out).mono (by omega), HL8.out⟩
            case measure => simp [intOf]; omega
          · have hr' : (r == 0) = false := by simpa using hr
            clear hr
            go_wp2_with fail
            go_roundw
            case rel => exact ⟨k + 1, hs2, s2, G2, by omega, by go_num, (L2H.out).mono (by omega), HL8.out⟩
            case measure => simp [intOf]; omega
        · have h6' : (d.act == 6) = false := by simpa using h6
          clear h6
          have cA : (wr1).cell? ⟨ga, off + k * 7, none⟩ = some (.int .i64 d.act) := (L1.out).kp.cell D.out.c0 (by simp)
          go_wp2_with fail
          go_roundw
          case rel => exact ⟨k + 1, hs, s, G, by omega, by go_num, (L1.out).mono (by omega), h8⟩
          case measure => simp [intOf]; omega
    · obtain rfl : k = ds.length := by omega
      go_wp2_with fail
      refine (ops_live L.out).mono ?_
      rintro e _ ⟨rfl, rfl⟩
      have BW := hid ((L.out.kp.block _ (lt_of_block B0.out) (by simp)).trans B0.out)
      go_wp2_with (first | (refine wpList_loadId rfl _ rfl _ rfl x BW.out ?_) | fail)
      refine (get_live L.out x).mono ?_
      rintro e W2 ⟨⟨v1, er, rfl⟩, ka⟩
      have L2 := hid (L.out.keep ka)
      clear ka
      go_wp2_with fail
      refine (list_live L2.out (by omega)).mono ?_
      rintro e W3 ⟨v2, xs, rfl, -, -, -, kb⟩
      have L3 := hid (L2.out.keep kb)
      clear kb
      have cX : W3.cell? ⟨w.heap.size, 0, none⟩ = some (.int .i64 x.c) := cell_of_row _ _ 0 _ _ (0, 0) ((L3.out.kp.block _ (lt_of_block B0.out) (by simp)).trans B0.out)
      go_wp2_with fail
      refine (latest_live L3.out (by omega) x.c).mono ?_
      rintro e W4 ⟨xs2, -, rfl, kc⟩
      have L4 := hid (L3.out.keep kc)
      clear kc cX
      go_wp2_with fail
      refine (ops_live L4.out).mono ?_
      rintro e _ ⟨rfl, rfl⟩
      go_wp2_with fail
      go_ret
      exact ⟨by simp, K0.out.trans L4.out.kp⟩
end Go.Proofs.YtiflkdelplbciaaGreat
