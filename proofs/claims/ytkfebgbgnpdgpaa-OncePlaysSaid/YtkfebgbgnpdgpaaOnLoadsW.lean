/- The walk of the law OnceLoads. -/
import Derived.Test.YtkfebgbgnpdgpaaOnM
import Derived.Test.YtkfebgbgnpdgpaaKitB
namespace Go.Proofs.Ytkfebgbgnpdgpaa
open Go.RowKit Go.Shelf
set_option maxRecDepth 100000
set_option linter.unusedSimpArgs false

/-- One row that came in, in the law's own words. -/
structure RowIn (W : World) (rs : List Rw) (g off i : Nat) (r : Rw) (ra : Option Addr) (rc : Nat) : Prop where
  at4 : R4At W g (off + i * 4) r
  d3 : W.cell? ⟨g, off + i * 4 + 3, none⟩ = some (.slice ra r.bs.length rc)
  row : RowAt W (.slice ra r.bs.length rc) r.bs
  gl : g < W.heap.size
  fit : r.bs.length ≤ 100
  mem : r ∈ rs
theorem R4sAt.in {W : World} {a : Option Addr} {c : Nat} {rs : List Rw} (h : R4sAt W (.slice a rs.length c) rs) (hf : ∀ r ∈ rs, r.bs.length ≤ 100) (i : Nat) (hi : i < rs.length) :
    ∃ g off ra rc, a = some ⟨g, off, none⟩ ∧ RowIn W rs g off i rs[i] ra rc := by
  obtain ⟨g, off, ha, gl, -, rA⟩ := h.at i hi
  obtain ⟨ra, rc, hrow, -⟩ := rA.row
  have d3 := rA.c3
  have rr := rA.row
  rw [hrow] at d3 rr
  exact ⟨g, off, ra, rc, ha, rA, d3, rr, gl, hf _ (List.getElem_mem _), List.getElem_mem _⟩
theorem RowIn.keep {W W' : World} {rs : List Rw} {g off i : Nat} {r : Rw} {ra : Option Addr} {rc : Nat} (h : RowIn W rs g off i r ra rc) (k : Keeps [] W W') : RowIn W' rs g off i r ra rc :=
  ⟨h.at4.keep k, k.cell' h.d3 (by simp), h.row.keep k (by intro _ _ _ _ _; simp), Nat.lt_of_lt_of_le h.gl k.size, h.fit, h.mem⟩

theorem Keeps.news {W w w' : World} {S : List Nat} (k : Keeps [] W w) (k2 : Keeps S w w') (h : ∀ b ∈ S, W.heap.size ≤ b) : Keeps [] W w' := k.trans' k2 (fun j hj hm => by have := h j hm; omega)

set_option maxHeartbeats 12800000 in
theorem j8Loads_any (W : World) (u v : Value) (ls ks : List Rw) (hx : R4sAt W u ls) (hy : R4sAt W v ks) : Calls Try.prog 8 #[u, v] W fun e w' => e = .returned (.bool true) ∧ Keeps [] W w' := by
  obtain ⟨a, ca, rfl, -⟩ := id hx
  obtain ⟨b, cb, rfl, -⟩ := id hy
  have HX := hid hx
  have HY := hid hy
  clear hx hy
  have AW := hid (fun w => j8Awake_any w)
  go_enter Try.func8, Try.ntmps8
  go_wp2_with fail
  refine (AW.out W).mono ?_
  rintro e w1 ⟨rfl, k1⟩
  have K1 := hid k1
  clear k1
  have SL := hid (j8Small_any w1 _ ls (HX.out.keep K1.out))
  have SK := hid (j8Small_any w1 _ ks (HY.out.keep K1.out))
  go_wp2_with fail
  refine SL.out.mono ?_
  rintro e _ ⟨⟨b1, rfl, hb1⟩, rfl⟩
  cases b1 with
  | false =>
    go_wp2_with fail
    go_ret
    exact ⟨rfl, K1.out⟩
  | true =>
    have LS := hid (hb1 rfl)
    clear hb1
    go_wp2_with fail
    refine SK.out.mono ?_
    rintro e _ ⟨⟨b2, rfl, hb2⟩, rfl⟩
    cases b2 with
    | false =>
      go_wp2_with fail
      go_ret
      exact ⟨rfl, K1.out⟩
    | true =>
      have KS := hid (hb2 rfl)
      clear hb2 SL SK
      go_wp2_with fail
      refine (newF w1 [] (by simp)).mono ?_
      rintro e w2 ⟨p, hp, rfl, h2, k2⟩
      have H2 := hid h2
      have K2 := hid (K1.out.trans k2)
      have HP : Hid (W.heap.size ≤ p) := hid (Nat.le_trans K1.out.size hp)
      have l1 := LS.out.1
      have l2 := KS.out.1
      clear h2 k2 hp
      go_wp2_with fail
      go_loopw [6] (fun iv wr => ∃ (i : Nat) (T : Tab), i ≤ ls.length ∧ iv = .int .i64 i ∧ WinF wr p [p] T ∧ Keeps [] W wr) (fun iv _ => ls.length - (intOf iv).toNat)
      case atStart => exact ⟨0, tab0, by omega, rfl, H2.out, K2.out⟩
      case round =>
        obtain ⟨i, T, hi, rfl, hw, kk⟩ := hrel
        have HW := hid hw
        have KK := hid kk
        clear hw kk
        by_cases hlt : i < ls.length
        · obtain ⟨g, off, ra, rc, ha, rin⟩ := HX.out.in LS.out.2 i hlt
          subst ha
          have rW := rin.keep KK.out
          obtain ⟨r, hr⟩ : ∃ r, r = ls[i] := ⟨_, rfl⟩
          rw [← hr] at rW
          have RR := hid rW.at4
          have D3W := hid rW.d3
          have RROW := hid rW.row
          have GL := hid rW.gl
          have FIT := hid rW.fit
          have ST := hid (fun w => j8Stamp_any w r.c r.l r.s)
          clear rW rin hr
          unfold stV at ST
          go_wp2_with fail
          refine wp_region_any (by kernel_rfl) (wpAny_of_late (late := [12]) (S := KpS [] wr.heap.size wr.drew) _ _ _ _ ?_)
          change wpAnyT _ _ _ _ _ _ _ _ _ wr.drew
          have D0 : ∀ W1, KpS [] wr.heap.size wr.drew W1 → W1.cell? ⟨g, off + i * 4, none⟩ = some (.int .i64 r.c) := fun W1 h => h.cell (by rw [World.cell?_drew]; exact RR.out.c0) GL.out (by simp)
          have D1 : ∀ W1, KpS [] wr.heap.size wr.drew W1 → W1.cell? ⟨g, off + i * 4 + 1, none⟩ = some (.int .i64 r.l) := fun W1 h => h.cell (by rw [World.cell?_drew]; exact RR.out.c1) GL.out (by simp)
          have D2 : ∀ W1, KpS [] wr.heap.size wr.drew W1 → W1.cell? ⟨g, off + i * 4 + 2, none⟩ = some (.int .i64 r.s) := fun W1 h => h.cell (by rw [World.cell?_drew]; exact RR.out.c2) GL.out (by simp)
          have D3 : ∀ W1, KpS [] wr.heap.size wr.drew W1 → W1.cell? ⟨g, off + i * 4 + 3, none⟩ = some (.slice ra r.bs.length rc) := fun W1 h => h.cell (by rw [World.cell?_drew]; exact D3W.out) GL.out (by simp)
          refine late_take (i := 0) (v := .pointer (some ⟨p, 0, none⟩)) rfl (by kernel_rfl) (by kernel_rfl) (by kernel_rfl) (by kernel_rfl) (by kernel_rfl) (fun _ _ _ h => h) rfl (fun W1 hW1 => rfl) (KpS.refl _ _ _) ?_
          simp only [Act.put, List.setIfInBounds_toArray, List.set_cons_zero, List.set_cons_succ]
          refine late_take (i := 1) (v := .slice (some ⟨g, off, none⟩) ls.length ca) rfl (by kernel_rfl) (by kernel_rfl) (by kernel_rfl) (by kernel_rfl) (by kernel_rfl) (fun _ _ _ h => h) rfl (fun W1 hW1 => rfl) (KpS.refl _ _ _) ?_
          simp only [Act.put, List.setIfInBounds_toArray, List.set_cons_zero, List.set_cons_succ]
          refine late_take (i := 2) (v := .int .i64 i) rfl (by kernel_rfl) (by kernel_rfl) (by kernel_rfl) (by kernel_rfl) (by kernel_rfl) (fun _ _ _ h => h) rfl (fun W1 hW1 => rfl) (KpS.refl _ _ _) ?_
          simp only [Act.put, List.setIfInBounds_toArray, List.set_cons_zero, List.set_cons_succ]
          refine late_take (i := 3) (v := .pointer (some ⟨g, off + i * 4, none⟩)) rfl (by kernel_rfl) (by kernel_rfl) (by kernel_rfl) (by kernel_rfl) (by kernel_rfl) (fun _ _ _ h => h) rfl (fun W1 hW1 => by go_simp) (KpS.refl _ _ _) ?_
          simp only [Act.put, List.setIfInBounds_toArray, List.set_cons_zero, List.set_cons_succ]
          refine late_take (i := 4) (v := .pointer (some ⟨g, off + i * 4, none⟩)) rfl (by kernel_rfl) (by kernel_rfl) (by kernel_rfl) (by kernel_rfl) (by kernel_rfl) (fun _ _ _ h => h) rfl (fun W1 hW1 => by go_simp) (KpS.refl _ _ _) ?_
          simp only [Act.put, List.setIfInBounds_toArray, List.set_cons_zero, List.set_cons_succ]
          refine late_take (i := 5) (v := .agg #[.int .i64 r.c, .int .i64 r.l, .int .i64 r.s]) rfl (by kernel_rfl) (by kernel_rfl) (by kernel_rfl) (by kernel_rfl) (by kernel_rfl) (fun _ _ _ h => h) rfl (fun W1 hW1 => exec_load _ _ _ _ rfl rfl (loadV8 (D0 W1 hW1) (D1 W1 hW1) (D2 W1 hW1))) (KpS.refl _ _ _) ?_
          simp only [Act.put, List.setIfInBounds_toArray, List.set_cons_zero, List.set_cons_succ]
          refine late_take (i := 7) (v := .slice (some ⟨g, off, none⟩) ls.length ca) rfl (by kernel_rfl) (by kernel_rfl) (by kernel_rfl) (by kernel_rfl) (by kernel_rfl) (fun _ _ _ h => h) rfl (fun W1 hW1 => rfl) (KpS.refl _ _ _) ?_
          simp only [Act.put, List.setIfInBounds_toArray, List.set_cons_zero, List.set_cons_succ]
          refine late_take (i := 8) (v := .int .i64 i) rfl (by kernel_rfl) (by kernel_rfl) (by kernel_rfl) (by kernel_rfl) (by kernel_rfl) (fun _ _ _ h => h) rfl (fun W1 hW1 => rfl) (KpS.refl _ _ _) ?_
          simp only [Act.put, List.setIfInBounds_toArray, List.set_cons_zero, List.set_cons_succ]
          refine late_take (i := 9) (v := .pointer (some ⟨g, off + i * 4, none⟩)) rfl (by kernel_rfl) (by kernel_rfl) (by kernel_rfl) (by kernel_rfl) (by kernel_rfl) (fun _ _ _ h => h) rfl (fun W1 hW1 => by go_simp) (KpS.refl _ _ _) ?_
          simp only [Act.put, List.setIfInBounds_toArray, List.set_cons_zero, List.set_cons_succ]
          refine late_take (i := 10) (v := .pointer (some ⟨g, off + i * 4 + 3, none⟩)) rfl (by kernel_rfl) (by kernel_rfl) (by kernel_rfl) (by kernel_rfl) (by kernel_rfl) (fun _ _ _ h => h) rfl (fun W1 hW1 => by go_simp) (KpS.refl _ _ _) ?_
          simp only [Act.put, List.setIfInBounds_toArray, List.set_cons_zero, List.set_cons_succ]
          refine late_take (i := 11) (v := .slice ra r.bs.length rc) rfl (by kernel_rfl) (by kernel_rfl) (by kernel_rfl) (by kernel_rfl) (by kernel_rfl) (fun _ _ _ h => h) rfl (fun W1 hW1 => exec_load _ _ _ _ rfl rfl (run_loadCell W1 _ _ _ (D3 W1 hW1) (agg_no _ (by kernel_rfl)))) (KpS.refl _ _ _) ?_
          simp only [Act.put, List.setIfInBounds_toArray, List.set_cons_zero, List.set_cons_succ]
          refine late_do (i := 6) (by kernel_rfl) rfl rfl (wp_enter (f := 24) (args := #[.agg #[.int .i64 r.c, .int .i64 r.l, .int .i64 r.s]]) (by go_simp) (ST.out wr.drew) ?_)
          rintro e w3 ⟨rfl, k3⟩
          have sC : KpS [] wr.heap.size wr.drew w3 := (KpS.refl _ _ _).keeps k3 (by simp) (by simp)
          refine ⟨_, rfl, Or.inr sC, ?_⟩
          simp only [Act.put, List.setIfInBounds_toArray, List.set_cons_zero, List.set_cons_succ]
          have kD : Keeps [] wr w3 := (Keeps.refl [] wr).drew.trans k3
          have DN := doneF (HW.out.later kD) r.c r.l r.s ra rc _ r.bs rfl (RROW.out.keep kD (by intro _ _ _ _ _; simp)) FIT.out
          unfold stV at DN
          refine late_do (i := 12) (by kernel_rfl) rfl rfl (wp_enter (f := 21) (args := #[.pointer (some ⟨p, 0, none⟩), .agg #[.int .i64 r.c, .int .i64 r.l, .int .i64 r.s], .slice ra r.bs.length rc]) (by go_simp) (DN) ?_)
          rintro e w4 ⟨rfl, h4, k4⟩
          refine ⟨_, rfl, Or.inl rfl, ?_⟩
          simp only [Act.put, List.setIfInBounds_toArray, List.set_cons_zero, List.set_cons_succ]
          refine wpAnyT_done (by kernel_rfl) ?_ _
          have H4 := hid h4
          have K4 : Hid (Keeps [p] wr w4) := hid ((kD.mono (S' := [p]) (by simp)).trans k4)
          clear D0 D1 D2 D3 sC kD h4 k4 DN k3
          go_wp2_with fail
          go_roundw
          case rel => exact ⟨i + 1, _, by omega, by go_num, H4.out, KK.out.news K4.out (by simpa using HP.out)⟩
          case measure => simp [intOf]; omega
        · obtain rfl : i = ls.length := by omega
          clear hlt
          have TB := hid (HW.out.tab)
          go_wp2_with fail
          refine (rowsF HW.out).mono ?_
          rintro e w3 ⟨a3, c3, rs3, rfl, rs3At, hc3, k3⟩
          have R3 := hid rs3At
          have C3 := hid hc3
          have HW3 := hid (HW.out.later k3)
          have KW3 := hid (KK.out.trans k3)
          have F3 : rs3.length ≤ 4 := by
            have := congrArg List.length hc3
            have h2 := refLk_length T 4
            simp [refL] at this
            omega
          clear rs3At hc3 k3
          go_wp2_with fail
          refine (j8Model_any w3 [p] HW3.out.lt _ rs3 R3.out (by omega)).mono ?_
          rintro e w4 ⟨a4, c4, rfl, r4At, k4⟩
          have WAS := hid r4At
          have HW4 := hid (HW3.out.later k4)
          have KW4 := hid (KW3.out.trans k4)
          clear r4At k4 R3
          go_wp2_with fail
          refine (rowsF HW4.out).mono ?_
          rintro e w5 ⟨a5, c5, rs5, rfl, rs5At, hc5, k5⟩
          have R5 := hid rs5At
          have C5 := hid hc5
          have HW5 := hid (HW4.out.later k5)
          have KW5 := hid (KW4.out.trans k5)
          have WAS5 := hid (WAS.out.later k5)
          have F5 : rs5.length ≤ 4 := by
            have := congrArg List.length hc5
            have h2 := refLk_length T 4
            simp [refL] at this
            omega
          clear rs5At hc5 k5 WAS
          have LD := nLoad_any w5 [p] HW5.out.lt _ rs5 R5.out (by omega)
          rw [load_rows TB.out C5.out] at LD
          have LD' := hid LD
          clear LD
          go_wp2_with fail
          refine LD'.out.mono ?_
          rintro e w6 (⟨h, _⟩ | ⟨T6, q, h6, hq, rfl, hq6, k6⟩)
          · cases h
          obtain rfl := Option.some.inj h6
          have PQ : Hid (p ≠ q ∧ W.heap.size ≤ q) := hid (by
            have h1 := HW5.out.lt p (by simp)
            have h2 := KW5.out.size
            exact ⟨by omega, by omega⟩)
          have HP6 : Hid (WinF w6 p [p, q] T) := hid (HW5.out.grow k6 (by simp) (by simp) (by simp) (fun b hb => by
            simp at hb
            rcases hb with rfl | rfl
            · exact Or.inl (by simp)
            · exact Or.inr hq) (fun b hb => by
            simp at hb
            rcases hb with rfl | rfl
            · exact hq6.lt _ (by simp)
            · exact hq6.lt _ (by simp)))
          have HQ6 := hid hq6
          have KW6 := hid (KW5.out.trans k6)
          have WAS6 := hid ((WAS5.out.more (N := [p, q]) (fun b hb => by
            simp at hb
            rcases hb with rfl | rfl
            · exact Or.inl (by simp)
            · exact Or.inr hq)).later k6)
          clear hq6 k6 hq h6 WAS5 HW5 HW4 HW3 R5
          go_wp2_with fail
          refine (rowsF HQ6.out).mono ?_
          rintro e w7 ⟨a7, c7, rs7, rfl, rs7At, hc7, k7⟩
          rw [refL_cut] at hc7
          have R7 := hid rs7At
          have C7 := hid hc7
          have HQ7 := hid (HQ6.out.later k7)
          have HP7 := hid (HP6.out.later k7)
          have KW7 := hid (KW6.out.trans k7)
          have WAS7 := hid (WAS6.out.later k7)
          have F7 : rs7.length ≤ 4 := by
            have := congrArg List.length hc7
            have h2 := refLk_length T 4
            simp [refL] at this
            omega
          clear rs7At hc7 k7
          go_wp2_with fail
          refine (j8Model_any w7 [q, p] HQ7.out.lt _ rs7 R7.out (by omega)).mono ?_
          rintro e w8 ⟨a8, c8, rfl, r8At, k8⟩
          have R8 := hid r8At
          have HQ8 := hid (HQ7.out.later k8)
          have HP8 := hid (HP7.out.later k8)
          have KW8 := hid (KW7.out.trans k8)
          have WAS8 := hid (WAS7.out.later k8)
          clear r8At k8
          go_wp2_with fail
          refine (vSameRows_any w8 _ _ _ _ rs7 rs3 R8.out WAS8.out (by omega) (C7.out.trans C3.out.symm)).mono ?_
          rintro e w9 ⟨rfl, n9, rfl⟩
          have k9 := (Keeps.refl [] w8).drewN n9
          have HQ9 := hid (HQ8.out.later k9)
          have HP9 := hid (HP8.out.later k9)
          have KW9 := hid (KW8.out.trans k9)
          have WAS9 := hid (WAS8.out.later k9)
          clear k9
          generalize w8.drewN n9 = w9 at HQ9 HP9 KW9 WAS9 ⊢
          go_wp2_with fail
          go_loopw [10] (fun iv wr => ∃ (i : Nat) (T2 : Tab), i ≤ ks.length ∧ iv = .int .i64 i ∧ WinF wr p [p, q] T ∧ WinF wr q [q, p] T2 ∧ RwsAt wr [p, q] (.slice a4 rs3.length c4) rs3 ∧ Keeps [] W wr) (fun iv _ => ks.length - (intOf iv).toNat)
          case atStart => exact ⟨0, _, by omega, rfl, HP9.out, HQ9.out, WAS9.out, KW9.out⟩
          case round =>
            obtain ⟨i, T2, hi, rfl, hp2, hq2, hws, kk⟩ := hrel
            have HP2 := hid hp2
            have HQ2 := hid hq2
            have WS2 := hid hws
            have KK2 := hid kk
            clear hp2 hq2 hws kk
            by_cases hlt : i < ks.length
            · obtain ⟨g, off, ra, rc, ha, rin⟩ := HY.out.in KS.out.2 i hlt
              subst ha
              obtain ⟨r, hr⟩ : ∃ r, r = ks[i] := ⟨_, rfl⟩
              rw [← hr] at rin
              have RIN := hid rin
              have ST := hid (fun w => j8Stamp_any w r.c r.l r.s)
              obtain ⟨ko, hko⟩ : ∃ z, z = kindS T r.c r.l r.s := ⟨_, rfl⟩
              have KO := hid hko.symm
              have L1 := hid (RIN.out.keep KK2.out)
              clear rin hr hko
              unfold stV at ST
              go_wp2_with (first | (refine wpList_is rfl _ _ (exec_load _ _ _ _ rfl rfl (loadV8 L1.out.at4.c0 L1.out.at4.c1 L1.out.at4.c2)) ?_) | (go_at_call 24; refine (ST.out _).mono ?_; rintro e w3 ⟨rfl, k3⟩; have KA := hid k3; have AK := hid (askF (HP2.out.later k3) r.c r.l r.s); unfold stV AskPost at AK; rw [KO.out] at AK; clear k3) | (go_at_call 20; refine AK.out.mono ?_; rintro e wx ⟨ax, nx, rfl, -, -, kx⟩; have KB := hid (KA.out.trans kx); clear kx) | fail)
              have KWX := hid (KK2.out.trans KB.out)
              have HPX := hid (HP2.out.later KB.out)
              have HQX := hid (HQ2.out.later KB.out)
              have WSX := hid (WS2.out.later KB.out)
              have rW := RIN.out.keep KWX.out
              have RR := hid rW.at4
              have D3W := hid rW.d3
              have RROW := hid rW.row
              have GL := hid rW.gl
              have FIT := hid rW.fit
              clear rW AK KA KB
              refine wp_region_any (by kernel_rfl) (wpAny_of_late (late := [12]) (S := KpS [] wx.heap.size wx.drew) _ _ _ _ ?_)
              change wpAnyT _ _ _ _ _ _ _ _ _ wx.drew
              have D0 : ∀ W1, KpS [] wx.heap.size wx.drew W1 → W1.cell? ⟨g, off + i * 4, none⟩ = some (.int .i64 r.c) := fun W1 h => h.cell (by rw [World.cell?_drew]; exact RR.out.c0) GL.out (by simp)
              have D1 : ∀ W1, KpS [] wx.heap.size wx.drew W1 → W1.cell? ⟨g, off + i * 4 + 1, none⟩ = some (.int .i64 r.l) := fun W1 h => h.cell (by rw [World.cell?_drew]; exact RR.out.c1) GL.out (by simp)
              have D2 : ∀ W1, KpS [] wx.heap.size wx.drew W1 → W1.cell? ⟨g, off + i * 4 + 2, none⟩ = some (.int .i64 r.s) := fun W1 h => h.cell (by rw [World.cell?_drew]; exact RR.out.c2) GL.out (by simp)
              have D3 : ∀ W1, KpS [] wx.heap.size wx.drew W1 → W1.cell? ⟨g, off + i * 4 + 3, none⟩ = some (.slice ra r.bs.length rc) := fun W1 h => h.cell (by rw [World.cell?_drew]; exact D3W.out) GL.out (by simp)
              refine late_take (i := 0) (v := .pointer (some ⟨q, 0, none⟩)) rfl (by kernel_rfl) (by kernel_rfl) (by kernel_rfl) (by kernel_rfl) (by kernel_rfl) (fun _ _ _ h => h) rfl (fun W1 hW1 => rfl) (KpS.refl _ _ _) ?_
              simp only [Act.put, List.setIfInBounds_toArray, List.set_cons_zero, List.set_cons_succ]
              refine late_take (i := 1) (v := .slice (some ⟨g, off, none⟩) ks.length cb) rfl (by kernel_rfl) (by kernel_rfl) (by kernel_rfl) (by kernel_rfl) (by kernel_rfl) (fun _ _ _ h => h) rfl (fun W1 hW1 => rfl) (KpS.refl _ _ _) ?_
              simp only [Act.put, List.setIfInBounds_toArray, List.set_cons_zero, List.set_cons_succ]
              refine late_take (i := 2) (v := .int .i64 i) rfl (by kernel_rfl) (by kernel_rfl) (by kernel_rfl) (by kernel_rfl) (by kernel_rfl) (fun _ _ _ h => h) rfl (fun W1 hW1 => rfl) (KpS.refl _ _ _) ?_
              simp only [Act.put, List.setIfInBounds_toArray, List.set_cons_zero, List.set_cons_succ]
              refine late_take (i := 3) (v := .pointer (some ⟨g, off + i * 4, none⟩)) rfl (by kernel_rfl) (by kernel_rfl) (by kernel_rfl) (by kernel_rfl) (by kernel_rfl) (fun _ _ _ h => h) rfl (fun W1 hW1 => by go_simp) (KpS.refl _ _ _) ?_
              simp only [Act.put, List.setIfInBounds_toArray, List.set_cons_zero, List.set_cons_succ]
              refine late_take (i := 4) (v := .pointer (some ⟨g, off + i * 4, none⟩)) rfl (by kernel_rfl) (by kernel_rfl) (by kernel_rfl) (by kernel_rfl) (by kernel_rfl) (fun _ _ _ h => h) rfl (fun W1 hW1 => by go_simp) (KpS.refl _ _ _) ?_
              simp only [Act.put, List.setIfInBounds_toArray, List.set_cons_zero, List.set_cons_succ]
              refine late_take (i := 5) (v := .agg #[.int .i64 r.c, .int .i64 r.l, .int .i64 r.s]) rfl (by kernel_rfl) (by kernel_rfl) (by kernel_rfl) (by kernel_rfl) (by kernel_rfl) (fun _ _ _ h => h) rfl (fun W1 hW1 => exec_load _ _ _ _ rfl rfl (loadV8 (D0 W1 hW1) (D1 W1 hW1) (D2 W1 hW1))) (KpS.refl _ _ _) ?_
              simp only [Act.put, List.setIfInBounds_toArray, List.set_cons_zero, List.set_cons_succ]
              refine late_take (i := 7) (v := .slice (some ⟨g, off, none⟩) ks.length cb) rfl (by kernel_rfl) (by kernel_rfl) (by kernel_rfl) (by kernel_rfl) (by kernel_rfl) (fun _ _ _ h => h) rfl (fun W1 hW1 => rfl) (KpS.refl _ _ _) ?_
              simp only [Act.put, List.setIfInBounds_toArray, List.set_cons_zero, List.set_cons_succ]
              refine late_take (i := 8) (v := .int .i64 i) rfl (by kernel_rfl) (by kernel_rfl) (by kernel_rfl) (by kernel_rfl) (by kernel_rfl) (fun _ _ _ h => h) rfl (fun W1 hW1 => rfl) (KpS.refl _ _ _) ?_
              simp only [Act.put, List.setIfInBounds_toArray, List.set_cons_zero, List.set_cons_succ]
              refine late_take (i := 9) (v := .pointer (some ⟨g, off + i * 4, none⟩)) rfl (by kernel_rfl) (by kernel_rfl) (by kernel_rfl) (by kernel_rfl) (by kernel_rfl) (fun _ _ _ h => h) rfl (fun W1 hW1 => by go_simp) (KpS.refl _ _ _) ?_
              simp only [Act.put, List.setIfInBounds_toArray, List.set_cons_zero, List.set_cons_succ]
              refine late_take (i := 10) (v := .pointer (some ⟨g, off + i * 4 + 3, none⟩)) rfl (by kernel_rfl) (by kernel_rfl) (by kernel_rfl) (by kernel_rfl) (by kernel_rfl) (fun _ _ _ h => h) rfl (fun W1 hW1 => by go_simp) (KpS.refl _ _ _) ?_
              simp only [Act.put, List.setIfInBounds_toArray, List.set_cons_zero, List.set_cons_succ]
              refine late_take (i := 11) (v := .slice ra r.bs.length rc) rfl (by kernel_rfl) (by kernel_rfl) (by kernel_rfl) (by kernel_rfl) (by kernel_rfl) (fun _ _ _ h => h) rfl (fun W1 hW1 => exec_load _ _ _ _ rfl rfl (run_loadCell W1 _ _ _ (D3 W1 hW1) (agg_no _ (by kernel_rfl)))) (KpS.refl _ _ _) ?_
              simp only [Act.put, List.setIfInBounds_toArray, List.set_cons_zero, List.set_cons_succ]
              refine late_do (i := 6) (by kernel_rfl) rfl rfl (wp_enter (f := 24) (args := #[.agg #[.int .i64 r.c, .int .i64 r.l, .int .i64 r.s]]) (by go_simp) (ST.out wx.drew) ?_)
              rintro e wy ⟨rfl, k3⟩
              have sC : KpS [] wx.heap.size wx.drew wy := (KpS.refl _ _ _).keeps k3 (by simp) (by simp)
              refine ⟨_, rfl, Or.inr sC, ?_⟩
              simp only [Act.put, List.setIfInBounds_toArray, List.set_cons_zero, List.set_cons_succ]
              have kD : Keeps [] wx wy := (Keeps.refl [] wx).drew.trans k3
              have DN := doneF (HQX.out.later kD) r.c r.l r.s ra rc _ r.bs rfl (RROW.out.keep kD (by intro _ _ _ _ _; simp)) FIT.out
              unfold stV at DN
              refine late_do (i := 12) (by kernel_rfl) rfl rfl (wp_enter (f := 21) (args := #[.pointer (some ⟨q, 0, none⟩), .agg #[.int .i64 r.c, .int .i64 r.l, .int .i64 r.s], .slice ra r.bs.length rc]) (by go_simp) (DN) ?_)
              rintro e wz ⟨rfl, h4, k4⟩
              refine ⟨_, rfl, Or.inl rfl, ?_⟩
              simp only [Act.put, List.setIfInBounds_toArray, List.set_cons_zero, List.set_cons_succ]
              refine wpAnyT_done (by kernel_rfl) ?_ _
              have H4 := hid h4
              have K4 : Hid (Keeps [q] wx wz) := hid ((kD.mono (S' := [q]) (by simp)).trans k4)
              clear D0 D1 D2 D3 sC kD h4 k4 DN k3
              have HPZ := hid (HPX.out.keep K4.out (by simp) (by simpa using PQ.out.1))
              have WSZ := hid (WSX.out.keep K4.out (by simp))
              have KWZ := hid (KWX.out.news K4.out (by simpa using PQ.out.2))
              have L2 := hid (RIN.out.keep KWZ.out)
              go_wp2_with (first | (refine wpList_is rfl _ _ (exec_load _ _ _ _ rfl rfl (loadV8 L2.out.at4.c0 L2.out.at4.c1 L2.out.at4.c2)) ?_) | (go_at_call 24; refine (ST.out _).mono ?_; rintro e w3 ⟨rfl, k3⟩; have KA := hid k3; have AK := hid (askF (HPZ.out.later k3) r.c r.l r.s); unfold stV AskPost at AK; rw [KO.out] at AK; clear k3) | (go_at_call 20; refine AK.out.mono ?_; rintro e wv ⟨av, nv, rfl, -, -, kv⟩; have KB := hid (KA.out.trans kv); clear kv) | fail)
              go_roundw
              case rel => exact ⟨i + 1, _, by omega, by go_num, HPZ.out.later KB.out, H4.out.later KB.out, WSZ.out.later KB.out, KWZ.out.trans KB.out⟩
              case measure => simp [intOf]; omega
            · obtain rfl : i = ks.length := by omega
              go_wp2_with fail
              refine (rowsF HP2.out).mono ?_
              rintro e w11 ⟨a11, c11, rs11, rfl, rs11At, hc11, k11⟩
              have R11 := hid rs11At
              have C11 := hid hc11
              have KW11 := hid (KK2.out.trans k11)
              have WAS11 := hid (WS2.out.later k11)
              have LT11 : Hid (∀ b ∈ [p, q], b < w11.heap.size) := hid ((HP2.out.later k11).lt)
              have F11 : rs11.length ≤ 4 := by
                have := congrArg List.length hc11
                have h2 := refLk_length T 4
                simp [refL] at this
                omega
              clear rs11At hc11 k11
              go_wp2_with fail
              refine (j8Model_any w11 [p, q] LT11.out _ rs11 R11.out (by omega)).mono ?_
              rintro e w12 ⟨a12, c12, rfl, r12At, k12⟩
              have R12 := hid r12At
              have KW12 := hid (KW11.out.trans k12)
              have WAS12 := hid (WAS11.out.later k12)
              clear r12At k12
              go_wp2_with fail
              refine (vSameRows_any w12 _ _ _ _ rs11 rs3 R12.out WAS12.out (by omega) (C11.out.trans C3.out.symm)).mono ?_
              rintro e w13 ⟨rfl, n13, rfl⟩
              have KW13 := hid (KW12.out.drewN n13)
              generalize w12.drewN n13 = w13 at KW13 ⊢
              go_wp2_with fail
              go_ret
              exact ⟨rfl, KW13.out⟩
end Go.Proofs.Ytkfebgbgnpdgpaa
