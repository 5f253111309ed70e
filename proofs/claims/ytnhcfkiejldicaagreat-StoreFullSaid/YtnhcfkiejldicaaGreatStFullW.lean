/- store: the walk of the law StoreFull. -/
import Derived.Test.YtnhcfkiejldicaaGreatStFl
namespace Go.Proofs.YtnhcfkiejldicaaGreat
open Go.RowKit Go.Shelf
set_option maxRecDepth 100000
set_option linter.unusedSimpArgs false
set_option linter.unusedVariables false

theorem row_ltF {w : World} {v : Value} {b : List Int} (h : RowAt w v b) : ∀ ad n c, v = .slice (some ad) n c → b ≠ [] → ad.block < w.heap.size := by
  intro ad n c e hne
  have hp : 0 < b.length := by
    cases b with
    | nil => exact absurd rfl hne
    | cons _ _ => simp
  obtain ⟨g', off', cap', e2, _, hcc⟩ := h.open hp
  rw [e] at e2
  injection e2 with e2 _ _
  have e3 := Option.some.inj e2
  subst e3
  exact World.block_lt_of_cell? w _ (hcc 0 hp)
/-- The ids that are put. -/
def idF (j : Nat) : Idn := ⟨1, 0, (j : Int), 0⟩
theorem idF_may {j : Nat} (h : j ≤ 12) : mayI (idF j) = true := mayI_is.2 (by unfold idF; simp; omega)
theorem idF_inj {i j : Nat} (h : idF i = idF j) : i = j := by
  unfold idF at h
  injection h with _ _ h _
  exact Int.ofNat.inj h
theorem live_room {w0 W : World} {t q p g m K : Nat} {hs : List Hd} {s : DS} {G : Idn → Option Nat} (L : LiveSt w0 W t q p g m K hs s G) (c : Int) (hc : (hs.length : Int) - (usedN hs : Int) = c) :
    Calls Tryz.prog 8 #[.pointer (some ⟨t, 0, none⟩)] W fun e W' => e = .returned (.int .i64 c) ∧ Keeps [] W W' := by
  rw [← hc]
  exact room_live L
set_option maxHeartbeats 25600000 in
theorem qFull_any (w : World) (z : Nat) (hz : z ≤ 255) (u : Value) (bs : List Int) (hb : RowAt w u bs) : Calls Tryz.prog 3 #[.int .u8 (z : Int), u] w fun e w' => e = .returned (.bool true) ∧ Keeps [] w w' := by
  obtain ⟨ua, uc, rfl⟩ : ∃ a c, u = .slice a bs.length c := by obtain ⟨a, c, e, _⟩ := hb; exact ⟨a, c, e⟩
  obtain ⟨r, hr⟩ : ∃ r, r = z % 12 := ⟨_, rfl⟩
  obtain ⟨nn, hn⟩ : ∃ n, n = r + 1 := ⟨_, rfl⟩
  have hn12 : 1 ≤ nn ∧ nn ≤ 12 := by omega
  have hmod : (z : Int).tmod 12 = (r : Int) := by rw [hr]; rfl
  have hnn : 1 + (r : Int) = (nn : Int) := by omega
  obtain ⟨y, hy⟩ : ∃ y, y = z % nn := ⟨_, rfl⟩
  have hyn : y < nn := by rw [hy]; exact Nat.mod_lt _ (by omega)
  have hmod2 : (z : Int).tmod (nn : Int) = (y : Int) := by rw [hy]; rfl
  have HY := hid hyn
  have HN := hid hn12
  have HM2 := hid hmod2
  have HB := hid hb
  clear hr hn hyn hy hb hmod2
  have hr12 : r ≤ 11 := by omega
  go_enter Tryz.func3, Tryz.ntmps3
  go_wp2_with fail
  refine (awake6_any w).mono ?_
  rintro e w0 ⟨rfl, k0⟩
  have HB0 := hid (HB.out.keep k0 (by intro _ _ _ _ _; simp))
  have OF := hid (fun ad n c e hne => Nat.lt_of_lt_of_le (row_ltF HB.out ad n c e hne) k0.size)
  have K0 := hid k0
  clear k0
  by_cases hbl : bs.length ≤ 448
  case neg =>
    have d1 : decide ((448 : Int) < (bs.length : Int)) = true := by simp; omega
    have d2 : decide (448 < bs.length) = true := by simp; omega
    go_wp2_with fail
    go_ret
    exact ⟨rfl, K0.out⟩
  have d1 : decide ((448 : Int) < (bs.length : Int)) = false := by simp; omega
  have d2 : decide (448 < bs.length) = false := by simp; omega
  have HBL := hid hbl
  clear hbl
  have h1n : 1 ≤ nn := HN.out.1
  have h2n : nn ≤ 12 := HN.out.2
  have NA := newAt_any (1 + 8 * nn) (by omega) (by omega) w0
  rw [show (((1 + 8 * nn : Nat)) : Int) = 1 + 8 * (nn : Int) by omega] at NA
  have NH := hid NA
  clear NA
  go_wp2_with fail
  refine NH.out.mono ?_
  rintro e w1 ⟨p, F1, rfl, d1', l1, k1⟩
  have D1 := hid d1'
  have L1 := hid l1
  have K1 := hid k1
  clear d1' l1 k1 d1 d2
  have hbk : (blankS (1 + 8 * nn)).cnt = 1 + 8 * nn := rfl
  have ha0 : Alive (blankS (1 + 8 * nn)) := blank_alive (1 + 8 * nn)
  have fo := format_any w1 p (blankS (1 + 8 * nn)) F1 0 D1.out (by omega) ha0 (by rw [hbk]; omega)
  have fa := fmtS_alive ha0 (by rw [hbk]; omega)
  have fc := fmtS_cnt (blankS (1 + 8 * nn))
  have e3 : ((blankS (1 + 8 * nn)).cnt - 1) / 8 = nn := by rw [hbk]; omega
  rw [e3] at fo
  rw [hbk] at fc
  have FA := hid (And.intro fa.1 fc)
  generalize fmtS (blankS (1 + 8 * nn)) = s2 at fo FA
  have FO := hid fo
  clear fo fa fc hbk ha0 e3 NH
  go_wp2_with fail
  refine FO.out.mono ?_
  rintro e w2 ⟨t, q, g, m, F2, rfl, ns, ht, hm, k2, f2⟩
  have hrep := usedN_rep nn
  have S2 := newSt_at ns ht hm hrep
  have k02 : Keeps [] w0 w2 := K1.out.trans' k2 (fun i hi hmm => by have := L1.out i hmm; omega)
  have LV : LiveSt w0 w2 t q p g m 3000 (List.replicate nn hd0) s2 (fun _ => none) := by
    have hz := K1.out.size
    obtain ⟨_, _, _, n1, n2, n3, n4, _⟩ := ns
    refine ⟨⟨F2, false, (by simpa using S2), fun b hb => ?_⟩, by omega, FA.out.1, by rw [FA.out.2, List.length_replicate]; omega, fun y z i _ _ h => by (cases h), k02⟩
    rcases f2 b hb with h | h
    · exact L1.out b h
    · omega
  have HLV := hid LV
  have HREP := hid hrep
  clear ns ht hm k2 f2 S2 k02 LV hrep FO L1 D1 FA K1
  go_wp2_with fail
  refine (live_room HLV.out (nn : Int) (by rw [HREP.out, List.length_replicate]; omega)).mono ?_
  rintro e w3 ⟨rfl, k3⟩
  have HL3 := hid (HLV.out.keep k3)
  clear k3 HLV
  have en : ((nn : Int) != (nn : Int)) = false := by simp
  go_wp2_with fail
  go_loopw [10] (fun i wr => ∃ (k : Nat) (hs : List Hd) (s : DS) (G : Idn → Option Nat), k ≤ nn ∧ i = .int .i64 k ∧ Hid (LiveSt w0 wr t q p g m (3000 + 40 * k) hs s G) ∧ Hid (hs.length = nn) ∧ Hid (usedN hs = k) ∧ Hid (∀ j, j < k → (G (idF j)).isSome = true) ∧ Hid (∀ j, k ≤ j → G (idF j) = none)) (fun i _ => nn - (intOf i).toNat)
  case atStart => exact ⟨0, List.replicate nn hd0, s2, fun _ => none, Nat.zero_le _, rfl, hid (HL3.out.mono (by omega)), hid (by simp), HREP, hid (fun j h => absurd h (Nat.not_lt_zero j)), hid (fun _ _ => rfl)⟩
  case round =>
    obtain ⟨k, hs, s, G, hk0, rfl, L, HL, HU, H1, H2⟩ := hrel
    clear HL3
    by_cases hlt : k < nn
    · have hlt' : (k : Int) < (nn : Int) := by omega
      have HLT := hid hlt
      have hk12 : k ≤ 12 := by omega
      go_wp2_with fail
      refine (qid_any wr 1 0 (k : Int) 0).mono ?_
      rintro e wa ⟨rfl, ka⟩
      have PN := hid (put_new_live w0 wr wa t q p g m (3000 + 40 * k) hs s G L.out ka (by omega) (idF k) (.slice ua bs.length uc) bs (HB0.out.keep (L.out.kp.trans ka) (by intro _ _ _ _ _; simp)) (fun ad n c e hne => Or.inl (OF.out ad n c e hne)) (idF_may hk12) HBL.out (H2.out k (Nat.le_refl _)) (by rw [HU.out, HL.out]; exact hlt))
      clear ka
      go_wp2_with fail
      refine PN.out.mono ?_
      rintro e wb ⟨i, s', rfl, ⟨hi, hu⟩, lb⟩
      have LB := hid lb
      have HL' := hid (show (hs.set i ⟨true, bs.length, keyI (idF k)⟩).length = nn by rw [List.length_set]; exact HL.out)
      have HU' := hid (show usedN (hs.set i ⟨true, bs.length, keyI (idF k)⟩) = k + 1 by rw [usedN_set hs i hi _ hu rfl, HU.out])
      have H1' := hid (show ∀ j, j < k + 1 → (setG G (idF k) (some i) (idF j)).isSome = true from fun j hj => by
        by_cases e : j = k
        · subst e; simp [setG]
        · have hne : idF j ≠ idF k := fun h => e (idF_inj h)
          simp only [setG, if_neg hne]
          exact H1.out j (by omega))
      have H2' := hid (show ∀ j, k + 1 ≤ j → setG G (idF k) (some i) (idF j) = none from fun j hj => by
        have hne : idF j ≠ idF k := fun h => by have := idF_inj h; omega
        simp only [setG, if_neg hne]
        exact H2.out j (by omega))
      clear lb PN hu hi
      generalize hs.set i ⟨true, bs.length, keyI (idF k)⟩ = hs' at LB HL' HU'
      generalize setG G (idF k) (some i) = G' at LB H1' H2'
      have ee : ((nn : Int) - 1 - (k : Int) != (nn : Int) - 1 - (k : Int)) = false := by simp
      go_wp2_with fail
      refine (live_room LB.out ((nn : Int) - 1 - (k : Int)) (by rw [HL'.out, HU'.out]; have := HLT.out; omega)).mono ?_
      rintro e wc ⟨rfl, kc⟩
      have LC := hid ((LB.out.keep kc).mono (show 3000 + 40 * k + 40 ≤ 3000 + 40 * (k + 1) by omega))
      clear kc
      go_wp2_with fail
      go_roundw
      case rel => exact ⟨k + 1, hs', s', G', by have := HLT.out; omega, by go_num, LC, HL', HU', H1', H2'⟩
      case measure => have := HLT.out; simp [intOf] <;> omega
    · obtain rfl : k = nn := by omega
      clear hlt hk0
      have hlt : k ≤ 12 := h2n
      go_wp2_with fail
      refine (qid_any wr 1 0 (k : Int) 0).mono ?_
      rintro e wa ⟨rfl, ka⟩
      have LA := hid (L.out.keep ka)
      clear ka
      have FL := hid (full_live LA.out (idF k) (idF_may hlt) ua bs.length uc HBL.out (H2.out k (Nat.le_refl _)) (by rw [HU.out, HL.out]))
      go_wp2_with fail
      refine FL.out.mono ?_
      rintro e wb ⟨rfl, kb⟩
      have LB := hid (LA.out.keep kb)
      clear kb FL LA
      have hm2 := HM2.out
      go_wp2_with fail
      refine (qid_any wb 1 0 (y : Int) 0).mono ?_
      rintro e wc ⟨rfl, kc⟩
      have LC := hid (LB.out.keep kc)
      clear kc LB hm2
      obtain ⟨iy, hiy⟩ := Option.isSome_iff_exists.1 (H1.out y HY.out)
      have DL := hid (del_yes_live w0 wc t q p g m (3000 + 40 * k) hs s G LC.out (by omega) (idF y) (idF_may (by have := HY.out; omega)) iy hiy)
      clear hiy
      go_wp2_with fail
      refine DL.out.mono ?_
      rintro e wd ⟨rfl, ⟨hi, hu⟩, s3, ld⟩
      have LD := hid ld
      have HU3 := hid (show usedN (hs.set iy hd0) + 1 = k by rw [usedN_unset hs iy hi hd0 hu rfl]; exact HU.out)
      have HL3 := hid (show (hs.set iy hd0).length = k by rw [List.length_set]; exact HL.out)
      have H23 := hid (show setG G (idF y) none (idF k) = none by
        have hne : idF k ≠ idF y := fun h => by have := idF_inj h; have := HY.out; omega
        simp only [setG, if_neg hne]
        exact H2.out k (Nat.le_refl _))
      clear ld DL hu hi
      generalize hs.set iy hd0 = hs3 at LD HU3 HL3
      generalize setG G (idF y) none = G3 at LD H23
      go_wp2_with fail
      refine (qid_any wd 1 0 (k : Int) 0).mono ?_
      rintro e we ⟨rfl, ke⟩
      have PN := hid (put_new_live w0 wd we t q p g m (3000 + 40 * k + 40) hs3 s3 G3 LD.out ke (by omega) (idF k) (.slice ua bs.length uc) bs (HB0.out.keep (LD.out.kp.trans ke) (by intro _ _ _ _ _; simp)) (fun ad n c e hne => Or.inl (OF.out ad n c e hne)) (idF_may hlt) HBL.out H23.out (by have := HU3.out; rw [HL3.out]; omega))
      clear ke
      go_wp2_with fail
      refine PN.out.mono ?_
      rintro e wf ⟨i, s4, rfl, ⟨hi, hu⟩, lf⟩
      have LF := hid lf
      have HL4 := hid (show (hs3.set i ⟨true, bs.length, keyI (idF k)⟩).length = k by rw [List.length_set]; exact HL3.out)
      have HU4 := hid (show usedN (hs3.set i ⟨true, bs.length, keyI (idF k)⟩) = k by rw [usedN_set hs3 i hi _ hu rfl, HU3.out])
      clear lf PN hu hi
      generalize hs3.set i ⟨true, bs.length, keyI (idF k)⟩ = hs4 at LF HL4 HU4
      generalize setG G3 (idF k) (some i) = G4 at LF
      go_wp2_with fail
      refine (live_room LF.out 0 (by rw [HL4.out, HU4.out]; omega)).mono ?_
      rintro e wg ⟨rfl, kg⟩
      have LG := hid (LF.out.keep kg)
      clear kg
      go_wp2_with fail
      refine (list_live LG.out (by rw [HL4.out]; omega)).mono ?_
      rintro e wh ⟨v, xs, rfl, ⟨_, _, _, hx⟩, _, ix, kh⟩
      obtain ⟨xa, xc, rfl, _⟩ := ix
      have HX := hid (show xs.length = k by rw [hx, HU4.out])
      have KH := hid (LG.out.kp.trans kh)
      clear hx kh
      rw [HX.out]
      go_wp2_with fail
      go_ret
      exact ⟨by simp, K0.out.trans KH.out⟩
theorem qFullZ_any (w : World) (z : Int) (hz : (Lit.int .u8 z).wf = true) (u : Value) (bs : List Int) (hb : RowAt w u bs) : Calls Tryz.prog 3 #[.int .u8 z, u] w fun e w' => e = .returned (.bool true) ∧ Keeps [] w w' := by
  have h : 0 ≤ z ∧ z ≤ 255 := by
    have h1 : (decide (IntKind.u8.min ≤ z) && decide (z ≤ IntKind.u8.max)) = true := hz
    rw [Bool.and_eq_true, decide_eq_true_eq, decide_eq_true_eq] at h1
    exact h1
  obtain ⟨n, rfl⟩ := Int.eq_ofNat_of_zero_le h.1
  exact qFull_any w n (by omega) u bs hb
end Go.Proofs.YtnhcfkiejldicaaGreat
