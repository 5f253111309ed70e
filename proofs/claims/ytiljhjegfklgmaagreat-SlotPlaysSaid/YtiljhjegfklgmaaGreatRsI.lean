/- The reference's slots: Put. -/
import Derived.Test.YtiljhjegfklgmaaGreatRsH
namespace Go.Proofs.YtiljhjegfklgmaaGreat
open Go.RowKit Go.Shelf
set_option maxRecDepth 100000
set_option linter.unusedSimpArgs false

set_option maxHeartbeats 16000000 in
theorem rput_any (w : World) (q p first : Nat) (hs : List Hd) (s : DS) (M G : List Nat) (K : Nat) (H : RdAt w q p first hs s M G K) (hK : K ≤ 90000) (i : Int) (kv bv : Value) (key b : List Int) (hkr : RowAt w kv key) (hbr : RowAt w bv b) (hko : Off (M ++ G) kv key) (hbo : Off (M ++ G) bv b) (hkl : key.length ≤ 100000) (hbl : b.length ≤ 100000) :
    Calls Tryz.prog 11 #[.pointer (some ⟨q, 0, none⟩), .int .i64 i, kv, bv] w (RdPost w q p first (putH hs first s i key b) (putS hs first s i key b) M G (K + 10) (putE hs first s i key b)) := by
  have HH := hid H
  have hcnt := H.fit.ok.hi
  have hroom := H.room
  have d6 := H.dk.cells.2.1
  have KR := hid hkr
  have BR := hid hbr
  have KO := hid hko
  have BO := hid hbo
  obtain ⟨ka, kc, rfl, -⟩ := id hkr
  obtain ⟨ba, bc, rfl, -⟩ := id hbr
  have SAME : ∀ er, Hid (putS hs first s i key b = s) → Hid (putH hs first s i key b = hs) → RdPost w q p first (putH hs first s i key b) (putS hs first s i key b) M G (K + 10) er (.returned (.int .i64 er)) w := fun er h1 h2 => by
    rw [h1.out, h2.out]
    exact ⟨rfl, M, G, ⟨HH.out.sl, HH.out.dk, HH.out.dis, HH.out.fit.mono (by omega), HH.out.room, HH.out.ok⟩, Keeps.refl _ _, fun _ h => .inl h, fun _ h => .inl h⟩
  obtain ⟨Lv, rs, R, ehs, eM⟩ := H.sl
  have hlen : hs.length = rs.length := by rw [ehs, List.length_map]
  obtain ⟨la, lc, rfl⟩ := R.shape
  have c2 := R.c2
  have c0 := R.c0
  have c1 := R.c1
  have RR := hid R
  clear H hkr hbr hko hbo
  rcases hasS_cases hs i with hno | ⟨k, rfl, hk, hyes⟩
  · have he : putE hs first s i key b = 1 := by unfold putE; rw [if_pos hno]
    have h0 : putOk hs i key b = false := by unfold putOk; rw [hno]; rfl
    have h1 : putS hs first s i key b = s := by unfold putS; rw [h0]; rfl
    have h2 : putH hs first s i key b = hs := by unfold putH; rw [h0]; rfl
    have POST := hid (SAME 1 (hid h1) (hid h2))
    rw [he]
    simp [hasS] at hno
    clear SAME R ehs eM he h1 h2 h0
    by_cases hi0 : i < 0
    · go_enter Tryz.func11, Tryz.ntmps11
      go_wp2_with fail
      go_ret
      exact POST.out
    · have hi1 : (rs.length : Int) ≤ i := by omega
      go_enter Tryz.func11, Tryz.ntmps11
      go_wp2_with fail
      go_ret
      exact POST.out
  · have hkr : k < rs.length := by omega
    have hkr' : (k : Int) < (rs.length : Int) := by omega
    have hk0 : decide ((k : Int) < 0) = false := by simp
    obtain ⟨g, c, eL, d0, d1, d2, hgl⟩ := R.at k hkr
    injection eL with e1 _ e3
    subst e1; subst e3
    have hhk : headS hs (k : Int) = rs[k].hd := by rw [headS_at hk]; subst ehs; rw [List.getElem_map]
    have hus : usedS hs (k : Int) = rs[k].u := by unfold usedS; rw [hhk]; rfl
    by_cases hlong : 40 < key.length ∨ 448 < b.length
    · have he : putE hs first s (k : Int) key b = 3 := by unfold putE; rw [if_neg (by rw [hyes]; decide), if_pos hlong]
      have h0 : putOk hs (k : Int) key b = false := by
        unfold putOk
        rcases hlong with h | h
        · have : decide (key.length ≤ 40) = false := by simp; omega
          rw [this]; simp
        · have : decide (b.length ≤ 448) = false := by simp; omega
          rw [this]; simp
      have h1 : putS hs first s (k : Int) key b = s := by unfold putS; rw [h0]; rfl
      have h2 : putH hs first s (k : Int) key b = hs := by unfold putH; rw [h0]; rfl
      have POST := hid (SAME 3 (hid h1) (hid h2))
      rw [he]
      clear SAME R ehs eM he h1 h2 h0 hus hhk d0 d1 d2
      by_cases hkk : 40 < key.length
      · have hkk' : (key.length : Int) > 40 := by omega
        go_enter Tryz.func11, Tryz.ntmps11
        go_wp2_with fail
        go_ret
        exact POST.out
      · have hbb : (b.length : Int) > 448 := by omega
        have hkk' : ¬ (key.length : Int) > 40 := by omega
        clear hlong
        go_enter Tryz.func11, Tryz.ntmps11
        go_wp2_with fail
        go_ret
        exact POST.out
    · have hk40 : key.length ≤ 40 := by omega
      have hb448 : b.length ≤ 448 := by omega
      have hkk' : ¬ (key.length : Int) > 40 := by omega
      have hbb' : ¬ (b.length : Int) > 448 := by omega
      have hpk : putOk hs (k : Int) key b = !rs[k].u := by unfold putOk; rw [hyes, hus, decide_eq_true hk40, decide_eq_true hb448]; rfl
      have hpe : putE hs first s (k : Int) key b = if rs[k].u then 7 else deadE (putD s (first + k * 8) key b) := by
        unfold putE
        rw [if_neg (by rw [hyes]; decide), if_neg hlong, hus]
        rfl
      clear hlong
      cases hu : rs[k].u with
      | true =>
        have he : putE hs first s (k : Int) key b = 7 := by rw [hpe, hu]; rfl
        have h1 : putS hs first s (k : Int) key b = s := by unfold putS; rw [hpk, hu]; rfl
        have h2 : putH hs first s (k : Int) key b = hs := by unfold putH; rw [hpk, hu]; rfl
        have POST := hid (SAME 7 (hid h1) (hid h2))
        rw [he]
        rw [hu] at d0
        clear SAME R ehs eM he h1 h2 hus hhk d1 d2 hu hpk hpe
        go_enter Tryz.func11, Tryz.ntmps11
        go_wp2_with fail
        go_ret
        exact POST.out
      | false =>
        rw [hu] at d0
        obtain ⟨bg, hbg⟩ : ∃ bg : Nat, bg = first + k * 8 := ⟨_, rfl⟩
        have hbc : bg + 8 ≤ s.cnt := by omega
        cases hdd : s.dead with
        | true =>
          rw [hdd] at d6
          have hpd : putD s (first + k * 8) key b = s := by
            have h1 : holdS s (first + k * 8 + 1) b = s := by rw [holdS_dead (k := 0) (by omega) hdd]; rfl
            unfold putD
            rw [h1, markS_dead hdd]
          have he : putE hs first s (k : Int) key b = 14 := by rw [hpe, hu, hpd]; simp [deadE, hdd]
          have h1 : putS hs first s (k : Int) key b = s := by unfold putS; rw [Int.toNat_natCast, hpd]; simp
          have h2 : putH hs first s (k : Int) key b = hs := by unfold putH; rw [Int.toNat_natCast, hpd, hdd]; simp
          have POST := hid (SAME 14 (hid h1) (hid h2))
          rw [he]
          clear SAME R ehs eM he h1 h2 hus hhk d1 d2 hu hpk hpe
          go_enter Tryz.func11, Tryz.ntmps11
          go_wp2_with fail
          go_ret
          exact POST.out
        | false =>
          rw [hdd] at d6
          obtain ⟨s3, es3⟩ : ∃ s3, s3 = putD s bg key b := ⟨_, rfl⟩
          obtain ⟨hF, ehF⟩ : ∃ hF, hF = if s3.dead then hs else hs.set k ⟨true, b.length, key⟩ := ⟨_, rfl⟩
          have he : putE hs first s (k : Int) key b = deadE s3 := by rw [hpe, hu, ← hbg, es3]; rfl
          have h1 : putS hs first s (k : Int) key b = s3 := by unfold putS; rw [Int.toNat_natCast, hpk, hu, ← hbg, es3]; rfl
          have h2 : putH hs first s (k : Int) key b = hF := by
            unfold putH
            rw [Int.toNat_natCast, hpk, hu, ← hbg, ehF, es3]
            cases (putD s bg key b).dead <;> rfl
          rw [he, h1, h2]
          have HF := hid ehF
          have ES3 := hid es3
          have EHS := hid ehs
          have EM := hid eM
          have hbi : (first : Int) + (k : Int) * 8 = (bg : Int) := by omega
          have hw8 : IntKind.i64.wrap ((k : Int) * 8) = (k : Int) * 8 := by rw [IntKind.wrap_i64]; omega
          have hwb : IntKind.i64.wrap ((first : Int) + (k : Int) * 8) = (bg : Int) := by rw [hbi, IntKind.wrap_i64]; omega
          have dis : ∀ b ∈ rsl q (.slice (some ⟨g, 0, none⟩) rs.length lc) rs, b ∉ G := by rw [← eM]; exact HH.out.dis
          have DIS := hid dis
          have MLT : Hid (∀ x ∈ M ++ G, x < w.heap.size) := hid (fun x hx => by
            rcases List.mem_append.1 hx with h | h
            · exact HH.out.sl.lt x h
            · exact HH.out.dk.lt x h)
          have HBI := hid hbi
          have HBG := hid hbg
          have HN := hid (show nch b.length ≤ 7 by unfold nch; omega)
          clear SAME R ehs eM hus hhk d1 d2 hu hpk hpe he h1 h2 ehF es3 dis hbi hbg
          go_enter Tryz.func11, Tryz.ntmps11
          go_wp2_with fail
          refine (rpadded_any w _ b BR.out (by omega)).mono ?_
          rintro e w1 ⟨lv, us, rfl, ro1, nw1, k1⟩
          have PU0 : Hid (PuAt w w1 q p first hs s M G K g lc rs lv us b bg 0 G) := hid
            ⟨HH.out.keep k1 (by simp) (by simp), RR.out.keep k1 (by simp), ro1, fun x hx => ⟨fun hm => by have := nw1 x hx; have := MLT.out x (List.mem_append.2 (.inr hm)); omega, (nw1 x hx).2⟩, k1.mono (by simp), fun _ h => .inl h, hdd⟩
          have NW := hid nw1
          obtain ⟨lva, lvc, elv⟩ := ownsRow_slice ro1.own
          rw [ro1.len, padR_len] at elv
          clear ro1 nw1 k1
          subst elv
          go_wp2_with fail
          go_loopw [11] (fun v wr => ∃ (j : Nat) (Gj : List Nat), j ≤ nch b.length ∧ v = .int .i64 (j : Int) ∧ Hid (PuAt w wr q p first hs s M G K g lc rs (.slice lva (nch b.length) lvc) us b bg j Gj)) (fun v _ => nch b.length - (intOf v).toNat)
          case atStart => exact ⟨0, G, by omega, rfl, PU0⟩
          case round =>
            obtain ⟨j, Gj, hj, rfl, PU⟩ := hrel
            clear PU0
            by_cases hlt : j < nch b.length
            · have hlt' : (j : Int) < (nch b.length : Int) := by omega
              have hn7 := HN.out
              obtain ⟨gl, cl, ra, ruc, el, ecell, erow, eblk⟩ := PU.out.ro.pad j hlt
              injection el with el1 _ el3
              subst el1; subst el3
              have hglG : gl ∉ Gj := (PU.out.out gl (.inl rfl)).1
              have hgll : gl < wr.heap.size := (PU.out.out gl (.inl rfl)).2
              have hqG : q ∉ Gj := by have := PU.out.rd.dis q; rw [EM.out] at this; exact this ((mem_rsl q).2 (.inl rfl))
              have c0r := PU.out.rl.c0
              have ROFF : Hid (Off Gj (.slice ra 64 ruc) (pad64 (chk b j))) := hid (fun ad n c e _ hm => (PU.out.out ad.block (.inr (eblk _ (by rw [e]; rfl)))).1 hm)
              have hwk : IntKind.i64.wrap ((bg : Int) + 1) = (bg : Int) + 1 := by rw [IntKind.wrap_i64]; omega
              have hwj : IntKind.i64.wrap ((bg : Int) + 1 + (j : Int)) = ((bg + 1 + j : Nat) : Int) := by rw [IntKind.wrap_i64]; omega
              have C0 := hid c0r
              have EC := hid ecell
              have ER := hid erow
              clear c0r ecell erow eblk
              go_wp2_with fail
              refine wp_region_noPanic (wp_region_any (by kernel_rfl) (wpAny_of_held (S := KpS Gj wr.heap.size wr.drew) _ _ _ _ ?_))
              have kd : ∀ W1, KpS Gj wr.heap.size wr.drew W1 → Keeps Gj wr W1 := fun W1 h => ⟨h.os, h.tape, h.output, h.size, fun k hk hs => h.block k hk hs⟩
              refine held_take (i := 0) (v := .pointer (some ⟨q, 0, none⟩)) rfl (by kernel_rfl) (by kernel_rfl) (by kernel_rfl) (fun _ _ _ h => h) rfl (fun W1 hW1 => rfl) (KpS.refl _ _ _) ?_
              simp only [Act.put, List.setIfInBounds_toArray, List.set_cons_zero, List.set_cons_succ]
              refine held_take (i := 1) (v := .pointer (some ⟨q, 0, none⟩)) rfl (by kernel_rfl) (by kernel_rfl) (by kernel_rfl) (fun _ _ _ h => h) rfl (fun W1 hW1 => by go_simp) (KpS.refl _ _ _) ?_
              simp only [Act.put, List.setIfInBounds_toArray, List.set_cons_zero, List.set_cons_succ]
              refine held_take (i := 2) (v := .pointer (some ⟨q, 0, none⟩)) rfl (by kernel_rfl) (by kernel_rfl) (by kernel_rfl) (fun _ _ _ h => h) rfl (fun W1 hW1 => by go_simp) (KpS.refl _ _ _) ?_
              simp only [Act.put, List.setIfInBounds_toArray, List.set_cons_zero, List.set_cons_succ]
              refine held_take (i := 3) (v := .pointer (some ⟨p, 0, none⟩)) rfl (by kernel_rfl) (by kernel_rfl) (by kernel_rfl) (fun _ _ _ h => h) rfl (fun W1 hW1 => exec_load _ _ _ _ rfl rfl (run_loadCell W1 _ _ _ (keeps_cell4 (kd W1 hW1) C0.out hqG) (agg_no _ (by kernel_rfl)))) (KpS.refl _ _ _) ?_
              simp only [Act.put, List.setIfInBounds_toArray, List.set_cons_zero, List.set_cons_succ]
              refine held_take (i := 4) (v := .int .i64 bg) rfl (by kernel_rfl) (by kernel_rfl) (by kernel_rfl) (fun _ _ _ h => h) rfl (fun W1 hW1 => rfl) (KpS.refl _ _ _) ?_
              simp only [Act.put, List.setIfInBounds_toArray, List.set_cons_zero, List.set_cons_succ]
              refine held_take (i := 5) (v := .int .i64 ((bg : Int) + 1)) rfl (by kernel_rfl) (by kernel_rfl) (by kernel_rfl) (fun _ _ _ h => h) rfl (fun W1 hW1 => by go_simp) (KpS.refl _ _ _) ?_
              simp only [Act.put, List.setIfInBounds_toArray, List.set_cons_zero, List.set_cons_succ]
              refine held_take (i := 6) (v := .int .i64 j) rfl (by kernel_rfl) (by kernel_rfl) (by kernel_rfl) (fun _ _ _ h => h) rfl (fun W1 hW1 => rfl) (KpS.refl _ _ _) ?_
              simp only [Act.put, List.setIfInBounds_toArray, List.set_cons_zero, List.set_cons_succ]
              refine held_take (i := 7) (v := .int .i64 ((bg + 1 + j : Nat) : Int)) rfl (by kernel_rfl) (by kernel_rfl) (by kernel_rfl) (fun _ _ _ h => h) rfl (fun W1 hW1 => by go_simp) (KpS.refl _ _ _) ?_
              simp only [Act.put, List.setIfInBounds_toArray, List.set_cons_zero, List.set_cons_succ]
              refine held_take (i := 8) (v := .slice (some ⟨gl, 0, none⟩) (nch b.length) lvc) rfl (by kernel_rfl) (by kernel_rfl) (by kernel_rfl) (fun _ _ _ h => h) rfl (fun W1 hW1 => rfl) (KpS.refl _ _ _) ?_
              simp only [Act.put, List.setIfInBounds_toArray, List.set_cons_zero, List.set_cons_succ]
              refine held_take (i := 9) (v := .int .i64 j) rfl (by kernel_rfl) (by kernel_rfl) (by kernel_rfl) (fun _ _ _ h => h) rfl (fun W1 hW1 => rfl) (KpS.refl _ _ _) ?_
              simp only [Act.put, List.setIfInBounds_toArray, List.set_cons_zero, List.set_cons_succ]
              refine held_take (i := 10) (v := .pointer (some ⟨gl, j, none⟩)) rfl (by kernel_rfl) (by kernel_rfl) (by kernel_rfl) (fun _ _ _ h => h) rfl (fun W1 hW1 => by go_simp) (KpS.refl _ _ _) ?_
              simp only [Act.put, List.setIfInBounds_toArray, List.set_cons_zero, List.set_cons_succ]
              refine held_take (i := 11) (v := .slice ra 64 ruc) rfl (by kernel_rfl) (by kernel_rfl) (by kernel_rfl) (fun _ _ _ h => h) rfl (fun W1 hW1 => exec_load _ _ _ _ rfl rfl (run_loadCell W1 _ _ _ (keeps_cell4 (kd W1 hW1) EC.out hglG) (agg_no _ (by kernel_rfl)))) (KpS.refl _ _ _) ?_
              simp only [Act.put, List.setIfInBounds_toArray, List.set_cons_zero, List.set_cons_succ]
              have rowd : RowAt wr.drew (.slice ra 64 ruc) (pad64 (chk b j)) := ER.out.keep ((Keeps.refl [] wr).drew) (by intro _ _ _ _ _; simp)
              have HHd := PU.out.rd.keep ((Keeps.refl [] wr).drew) (by simp) (by simp)
              refine held_do (i := 12) (by kernel_rfl) rfl rfl (wp_enter (f := 38) (args := #[.pointer (some ⟨p, 0, none⟩), .int .i64 ((bg + 1 + j : Nat) : Int), .slice ra 64 ruc]) (by go_simp) (rw_any wr.drew p (holdW s (bg + 1) b j) Gj HHd.dk (K + j) HHd.fit.ok (by omega) (by have := HHd.fit.ll; omega) ((bg + 1 + j : Nat) : Int) _ _ rowd ROFF.out) ?_)
              rintro e W2 ⟨rfl, R1⟩
              obtain ⟨sn, hsn⟩ : ∃ sn, sn = holdW s (bg + 1) b (j + 1) := ⟨_, rfl⟩
              have hE : writeE (holdW s (bg + 1) b j) ((bg + 1 + j : Nat) : Int) (pad64 (chk b j)).length = deadE sn := by
                rw [hsn]
                exact writeE_is (by rw [holdW_cnt]; omega) (pad64_len (chk_le b j))
              have R1' : RDone wr.drew p sn Gj W2 := by rw [hsn]; exact R1
              have hcn : sn.cnt = (holdW s (bg + 1) b j).cnt := by rw [hsn, holdW_cnt, holdW_cnt]
              have hfn : sn.Fit (K + (j + 1)) := by rw [hsn]; exact holdW_fit HH.out.fit _ _ _
              obtain ⟨G2, H2, _, fr2⟩ := HHd.disk R1' hfn hcn
              obtain ⟨_, _, kx, _⟩ := id R1'
              have kx' : Keeps Gj wr W2 := (((Keeps.refl [] wr).drew).mono (by simp)).trans kx
              rw [hE]
              have s6 : KpS Gj wr.heap.size wr.drew W2 := (KpS.refl _ _ wr.drew).keeps kx (by simp) (fun i hi _ => hi)
              refine ⟨_, rfl, s6, ?_⟩
              simp only [Act.put, List.setIfInBounds_toArray, List.set_cons_zero, List.set_cons_succ]
              refine held_take (i := 13) (v := .int .i64 (deadE sn)) rfl (by kernel_rfl) (by kernel_rfl) (by kernel_rfl) (fun _ _ _ h => h) rfl (fun W1 hW1 => rfl) (s6) ?_
              simp only [Act.put, List.setIfInBounds_toArray, List.set_cons_zero, List.set_cons_succ]
              refine wpAnyH_done (by kernel_rfl) (NoPanic.normal ?_) _
              have SN := hid hsn
              have H2' := hid H2
              have KP2 := hid (PU.out.kp.trans' kx' (fun i hi hm => by
                rcases PU.out.fr i hm with h | h
                · exact List.mem_append.2 (.inr h)
                · omega))
              have FR2 : Hid (Fresh w G G2) := hid (fun x hx => by
                rcases fr2 x hx with h | h
                · exact PU.out.fr x h
                · have := PU.out.kp.size; exact .inr (Nat.le_trans this h))
              have KX := hid kx'
              have FX := hid fr2
              clear R1 R1' H2 fr2 kx kx' s6 HHd rowd kd hE hcn hfn hsn
              cases hd1 : sn.dead with
              | true =>
                have hde : deadE sn = 14 := by unfold deadE; rw [hd1]; rfl
                have es : s3 = sn := by
                  rw [ES3.out, putD, holdS_dead (k := j + 1) (by omega) (by rw [← SN.out]; exact hd1), ← SN.out, markS_dead hd1]
                have ehF : hF = hs := by rw [HF.out, es, if_pos hd1]
                rw [hde]
                have POST : Hid (RdPost w q p first hF s3 M G (K + 10) (deadE s3) (.returned (.int .i64 14)) W2) := hid (by
                  rw [es, ehF, hde]
                  exact ⟨rfl, M, G2, ⟨H2'.out.sl, H2'.out.dk, H2'.out.dis, H2'.out.fit.mono (by omega), H2'.out.room, H2'.out.ok⟩, KP2.out, fun _ h => .inl h, FR2.out⟩)
                clear es ehF
                go_wp2_with fail
                go_ret
                exact POST.out
              | false =>
                have hde : deadE sn = 0 := by unfold deadE; rw [hd1]; rfl
                rw [hde]
                have PN : Hid (PuAt w W2 q p first hs s M G K g lc rs (.slice (some ⟨gl, 0, none⟩) (nch b.length) lvc) us b bg (j + 1) G2) := hid ⟨by rw [← SN.out]; exact H2'.out,
                  PU.out.rl.keep KX.out (by have := PU.out.rd.dis; rw [EM.out] at this; exact this),
                  PU.out.ro.same (fun x e => KX.out.block x (PU.out.out x (.inl e)).2 (PU.out.out x (.inl e)).1) (fun x hx => KX.out.block x (PU.out.out x (.inr hx)).2 (PU.out.out x (.inr hx)).1),
                  fun x hx => ⟨fun hm => by
                    rcases FX.out x hm with h | h
                    · exact (PU.out.out x hx).1 h
                    · have := (PU.out.out x hx).2; have h2 : wr.heap.size ≤ x := h; omega, by have := (PU.out.out x hx).2; have := KX.out.size; omega⟩,
                  KP2.out, FR2.out, by rw [← SN.out]; exact hd1⟩
                go_wp2_with fail
                go_roundw
                case rel => exact ⟨j + 1, G2, by omega, by go_num, PN⟩
                case measure => simp [intOf]; omega
            · have hje : j = nch b.length := by omega
              subst hje
              have hlt' : ¬ (nch b.length : Int) < (nch b.length : Int) := by omega
              have PV0 : Hid (PvAt w wr q p first hs M G g lc rs (holdW s (bg + 1) b (nch b.length)) Gj (K + 7)) := hid
                ⟨⟨PU.out.rd.sl, PU.out.rd.dk, PU.out.rd.dis, PU.out.rd.fit.mono (by have := HN.out; omega), PU.out.rd.room, PU.out.rd.ok⟩, PU.out.rl, PU.out.kp, PU.out.fr⟩
              obtain ⟨sh, esh⟩ : ∃ sh, sh = holdS s (bg + 1) b := ⟨_, rfl⟩
              have hsh : sh = syncS (holdW s (bg + 1) b (nch b.length)) := by rw [esh]; rfl
              have ESH := hid esh
              have HSH := hid hsh
              have hcw : (holdW s (bg + 1) b (nch b.length)).cnt = s.cnt := holdW_cnt _ _ _ _
              generalize holdW s (bg + 1) b (nch b.length) = sw at PV0 HSH hcw
              have HCW := hid hcw
              clear esh hsh hcw PU
              have c0r := PV0.out.rl.c0
              go_wp2_with fail
              refine (rs_any wr p sw Gj PV0.out.rd.dk _ PV0.out.rd.fit.ok (by omega)).mono ?_
              rintro e W1 ⟨rfl, R1⟩
              rw [← HSH.out] at R1
              have hE1 : syncE sw = deadE sh := by rw [HSH.out]; exact syncE_is sw
              rw [hE1]
              have hch : sh.cnt = s.cnt := by rw [HSH.out, syncS_cnt, HCW.out]
              obtain ⟨G1, PV1'⟩ := PV0.out.disk EM.out R1 (Kx' := K + 8) (by rw [HSH.out]; exact PV0.out.rd.fit.syncS) (by rw [hch, HCW.out])
              have PV1 := hid PV1'
              have HCH := hid hch
              clear PV1' R1 hE1 hch c0r PV0
              cases hd1 : sh.dead with
              | true =>
                have hde : deadE sh = 14 := by unfold deadE; rw [hd1]; rfl
                have es : s3 = sh := by rw [ES3.out, putD, ← ESH.out, markS_dead hd1]
                have ehF : hF = hs := by rw [HF.out, es, if_pos hd1]
                rw [hde]
                have POST : Hid (RdPost w q p first hF s3 M G (K + 10) (deadE s3) (.returned (.int .i64 14)) W1) := hid (by
                  rw [es, ehF, hde]
                  exact PV1.out.done (by omega))
                clear es ehF
                go_wp2_with fail
                go_ret
                exact POST.out
              | false =>
                have hde : deadE sh = 0 := by unfold deadE; rw [hd1]; rfl
                rw [hde]
                have kP := (Keeps.refl [] W1).alloc (.cells #[.slice none 0 0, .int .i64 0] 83)
                have PN0 : Hid (PenAt (W1.alloc (.cells #[.slice none 0 0, .int .i64 0] 83)) W1.heap.size 83 5 W1.heap.size (.slice none 0 0) [] 0) := hid
                  ⟨heap_alloc_new _ _, World.ownsRow_nil _ _ _ _, by simp [Value.ownBlock], Nat.le_refl _, by simp, by simp⟩
                have PV2 := hid (PV1.out.keep kP)
                have KP2 := hid kP
                clear kP
                go_wp2_with fail
                generalize W1.alloc (.cells #[.slice none 0 0, .int .i64 0] 83) = w2 at PN0 PV2 KP2 ⊢
                have hB1 : W1.heap.size ≤ W1.heap.size := Nat.le_refl _
                generalize hB : W1.heap.size = B at PN0 KP2 hB1 ⊢
                have HBW := hid hB
                clear hB hB1
                refine (rnum_any w2 B B _ _ _ 1 1 PN0.out (by have := KP2.out.size; have := HBW.out; omega)).mono ?_
                rintro e w3 ⟨rfl, v3, pn3, k3, -⟩
                rw [penR1] at pn3
                have KP3 : Hid (Keeps [] W1 w3) := hid (KP2.out.trans' k3 (fun i hi hm => by
                  simp [Value.ownBlock] at hm; have := HBW.out; omega))
                have PN3 := hid pn3
                clear pn3 k3 PN0 KP2
                go_wp2_with fail
                refine (rnum_any w3 B B _ _ _ b.length 2 PN3.out (by have := KP3.out.size; have := HBW.out; omega)).mono ?_
                rintro e w4 ⟨rfl, v4, pn4, k4, -⟩
                rw [penR2 hb448] at pn4
                have KP4 : Hid (Keeps [] W1 w4) := hid (KP3.out.trans' k4 (fun i hi hm => by
                  rcases List.mem_cons.1 hm with h | h
                  · have := HBW.out; omega
                  · have := (PN3.out.own.lt i (by simpa using h)).1; have := HBW.out; omega))
                have PN4 := hid pn4
                clear pn4 k4 PN3 KP3
                go_wp2_with fail
                have krow4 := (KR.out.keep PV1.out.kp KO.out).keep KP4.out (by intro _ _ _ _ _; simp)
                have koff4 : Off (B :: v4.ownBlock.toList) (.slice ka key.length kc) key := fun ad n c e hne hm => by
                  have h1 := row_blk KR.out e hne
                  have h2 := PV1.out.kp.size
                  rcases List.mem_cons.1 hm with h | h
                  · have := HBW.out; omega
                  · have := (PN4.out.own.lt _ (by simpa using h)).1; have := HBW.out; omega
                refine (rraw_any w4 B B _ _ _ _ key PN4.out krow4 koff4 (by have := KP4.out.size; have := HBW.out; omega) (by omega)).mono ?_
                rintro e w5 ⟨rfl, v5, pn5, k5, -⟩
                rw [penR3 key hk40] at pn5
                have KP5 : Hid (Keeps [] W1 w5) := hid (KP4.out.trans' k5 (fun i hi hm => by
                  rcases List.mem_cons.1 hm with h | h
                  · have := HBW.out; omega
                  · have := (PN4.out.own.lt i (by simpa using h)).1; have := HBW.out; omega))
                have PN5 := hid pn5
                clear pn5 k5 PN4 KP4 krow4 koff4
                have PV5 := hid (PV1.out.keep KP5.out)
                have HDR : Hid (RowAt w5 v5 (headB ⟨true, b.length, key⟩)) := hid (row_of_own PN5.out.own PN5.out.byte)
                obtain ⟨va5, vc5, ev5⟩ := ownsRow_slice PN5.out.own
                subst ev5
                have c0r := PV5.out.rl.c0
                have cpr := PN5.out.cell0
                have hqG : q ∉ G1 := by have := PV5.out.rd.dis q; rw [EM.out] at this; exact this ((mem_rsl q).2 (.inl rfl))
                have hBG : B ∉ G1 := fun hm => by have := PV1.out.rd.dk.lt B hm; have := HBW.out; omega
                obtain ⟨sm, esm⟩ : ∃ sm, sm = writeS sh (bg : Int) (pad64 (headB ⟨true, b.length, key⟩)) := ⟨_, rfl⟩
                have h3m : s3 = syncS sm := by rw [ES3.out, putD, ← ESH.out, esm]; rfl
                have hl64 : (headB ⟨true, b.length, key⟩).length ≤ 64 := by unfold headB; simp [be]; omega
                have hEm : writeE sh (bg : Int) (pad64 (headB ⟨true, b.length, key⟩)).length = deadE sm := by rw [esm]; exact writeE_is (by rw [HCH.out]; omega) (pad64_len hl64)
                have hcm : sm.cnt = sh.cnt := by rw [esm, writeS_cnt]
                have hfm : sm.Fit (K + 9) := by rw [esm]; exact PV5.out.rd.fit.writeS _ _
                have ESM := hid esm
                have H3M := hid h3m
                have HEM := hid hEm
                have HCM := hid hcm
                have HFM := hid hfm
                have C0 := hid c0r
                have CP := hid cpr
                have HNC := hid (headB_nch b.length key hk40)
                have HCK := hid (headB_chk b.length key hk40)
                clear esm h3m hEm hcm hfm c0r cpr PV1 PV2
                go_wp2_with fail
                refine wp_region_noPanic (wp_region_any (by kernel_rfl) (wpAny_of_held (S := KpS G1 w5.heap.size w5.drew) _ _ _ _ ?_))
                have kd : ∀ W1, KpS G1 w5.heap.size w5.drew W1 → Keeps G1 w5 W1 := fun W1 h => ⟨h.os, h.tape, h.output, h.size, fun k hk hs => h.block k hk hs⟩
                refine held_take (i := 0) (v := .pointer (some ⟨q, 0, none⟩)) rfl (by kernel_rfl) (by kernel_rfl) (by kernel_rfl) (fun _ _ _ h => h) rfl (fun W1 hW1 => rfl) (KpS.refl _ _ _) ?_
                simp only [Act.put, List.setIfInBounds_toArray, List.set_cons_zero, List.set_cons_succ]
                refine held_take (i := 1) (v := .pointer (some ⟨q, 0, none⟩)) rfl (by kernel_rfl) (by kernel_rfl) (by kernel_rfl) (fun _ _ _ h => h) rfl (fun W1 hW1 => by go_simp) (KpS.refl _ _ _) ?_
                simp only [Act.put, List.setIfInBounds_toArray, List.set_cons_zero, List.set_cons_succ]
                refine held_take (i := 2) (v := .pointer (some ⟨q, 0, none⟩)) rfl (by kernel_rfl) (by kernel_rfl) (by kernel_rfl) (fun _ _ _ h => h) rfl (fun W1 hW1 => by go_simp) (KpS.refl _ _ _) ?_
                simp only [Act.put, List.setIfInBounds_toArray, List.set_cons_zero, List.set_cons_succ]
                refine held_take (i := 3) (v := .pointer (some ⟨p, 0, none⟩)) rfl (by kernel_rfl) (by kernel_rfl) (by kernel_rfl) (fun _ _ _ h => h) rfl (fun W1 hW1 => exec_load _ _ _ _ rfl rfl (run_loadCell W1 _ _ _ (keeps_cell4 (kd W1 hW1) C0.out hqG) (agg_no _ (by kernel_rfl)))) (KpS.refl _ _ _) ?_
                simp only [Act.put, List.setIfInBounds_toArray, List.set_cons_zero, List.set_cons_succ]
                refine held_take (i := 4) (v := .int .i64 bg) rfl (by kernel_rfl) (by kernel_rfl) (by kernel_rfl) (fun _ _ _ h => h) rfl (fun W1 hW1 => rfl) (KpS.refl _ _ _) ?_
                simp only [Act.put, List.setIfInBounds_toArray, List.set_cons_zero, List.set_cons_succ]
                refine held_take (i := 5) (v := .pointer (some ⟨B, 0, none⟩)) rfl (by kernel_rfl) (by kernel_rfl) (by kernel_rfl) (fun _ _ _ h => h) rfl (fun W1 hW1 => rfl) (KpS.refl _ _ _) ?_
                simp only [Act.put, List.setIfInBounds_toArray, List.set_cons_zero, List.set_cons_succ]
                refine held_take (i := 6) (v := .pointer (some ⟨B, 0, none⟩)) rfl (by kernel_rfl) (by kernel_rfl) (by kernel_rfl) (fun _ _ _ h => h) rfl (fun W1 hW1 => by go_simp) (KpS.refl _ _ _) ?_
                simp only [Act.put, List.setIfInBounds_toArray, List.set_cons_zero, List.set_cons_succ]
                refine held_take (i := 7) (v := .pointer (some ⟨B, 0, none⟩)) rfl (by kernel_rfl) (by kernel_rfl) (by kernel_rfl) (fun _ _ _ h => h) rfl (fun W1 hW1 => by go_simp) (KpS.refl _ _ _) ?_
                simp only [Act.put, List.setIfInBounds_toArray, List.set_cons_zero, List.set_cons_succ]
                refine held_take (i := 8) (v := .slice va5 (headB ⟨true, b.length, key⟩).length vc5) rfl (by kernel_rfl) (by kernel_rfl) (by kernel_rfl) (fun _ _ _ h => h) rfl (fun W1 hW1 => exec_load _ _ _ _ rfl rfl (run_loadCell W1 _ _ _ (keeps_cell4 (kd W1 hW1) CP.out hBG) (agg_no _ (by kernel_rfl)))) (KpS.refl _ _ _) ?_
                simp only [Act.put, List.setIfInBounds_toArray, List.set_cons_zero, List.set_cons_succ]
                have hdrd := HDR.out.keep ((Keeps.refl [] w5).drew) (by intro _ _ _ _ _; simp)
                refine held_do (i := 9) (by kernel_rfl) rfl rfl (wp_enter (f := 37) (args := #[.slice va5 (headB ⟨true, b.length, key⟩).length vc5]) (by go_simp) (rpadded_any w5.drew _ _ hdrd (by omega)) ?_)
                rintro e w6 ⟨lv6, us6, rfl, ro6, nw6, k6⟩
                have s6 : KpS G1 w5.heap.size w5.drew w6 := (KpS.refl _ _ w5.drew).keeps k6 (by simp) (by simp)
                refine ⟨_, rfl, s6, ?_⟩
                simp only [Act.put, List.setIfInBounds_toArray, List.set_cons_zero, List.set_cons_succ]
                have k6' : Keeps [] w5 w6 := ((Keeps.refl [] w5).drew).trans k6
                have ro6' : RowsOwn w6 lv6 us6 (padR (headB ⟨true, b.length, key⟩) 1) := by rw [← HNC.out]; exact ro6
                obtain ⟨gl, cl, ra, ruc, el, ecell, erow, eblk⟩ := ro6'.pad 0 (by omega)
                rw [HCK.out] at erow
                subst el
                have hgl6 : w5.heap.size ≤ gl := (nw6 gl (.inl rfl)).1
                have hglG : gl ∉ G1 := fun hm => by have := PV5.out.rd.dk.lt gl hm; omega
                refine held_take (i := 10) (v := .pointer (some ⟨gl, 0, none⟩)) rfl (by kernel_rfl) (by kernel_rfl) (by kernel_rfl) (fun _ _ _ h => h) rfl (fun W1 hW1 => by go_simp) (s6) ?_
                simp only [Act.put, List.setIfInBounds_toArray, List.set_cons_zero, List.set_cons_succ]
                have PV6 := PV5.out.keep k6'
                refine held_do (i := 11) (by kernel_rfl) rfl rfl (wp_value (exec_load _ _ _ _ rfl rfl (run_loadCell w6 _ _ _ ecell (agg_no _ (by kernel_rfl)))) ?_)
                refine ⟨s6, ?_⟩
                simp only [Act.put, List.setIfInBounds_toArray, List.set_cons_zero, List.set_cons_succ]
                have hoff6 : Off G1 (.slice ra 64 ruc) (pad64 (headB ⟨true, b.length, key⟩)) := fun ad n c e _ hm => by
                  have h1 := (nw6 ad.block (.inr (eblk _ (by rw [e]; rfl)))).1
                  have h2 := PV5.out.rd.dk.lt _ hm
                  simp only [World.size_drew] at h1
                  omega
                refine held_do (i := 12) (by kernel_rfl) rfl rfl (wp_enter (f := 38) (args := #[.pointer (some ⟨p, 0, none⟩), .int .i64 bg, .slice ra 64 ruc]) (by go_simp) (rw_any w6 p sh G1 PV6.rd.dk (K + 8) PV6.rd.fit.ok (by omega) (by have := PV6.rd.fit.ll; omega) (bg : Int) _ _ erow hoff6) ?_)
                rintro e w7 ⟨rfl, R7⟩
                rw [HEM.out]
                rw [← ESM.out] at R7
                obtain ⟨G7, PV7'⟩ := PV6.disk EM.out R7 HFM.out HCM.out
                obtain ⟨_, _, kx, _⟩ := id R7
                have s7 : KpS G1 w5.heap.size w5.drew w7 := s6.keeps kx k6'.size (fun i hi _ => hi)
                refine ⟨_, rfl, s7, ?_⟩
                simp only [Act.put, List.setIfInBounds_toArray, List.set_cons_zero, List.set_cons_succ]
                refine held_take (i := 13) (v := .int .i64 (deadE sm)) rfl (by kernel_rfl) (by kernel_rfl) (by kernel_rfl) (fun _ _ _ h => h) rfl (fun W1 hW1 => rfl) (s7) ?_
                simp only [Act.put, List.setIfInBounds_toArray, List.set_cons_zero, List.set_cons_succ]
                refine wpAnyH_done (by kernel_rfl) (NoPanic.normal ?_) _
                have PV7 := hid PV7'
                have KW7 : Hid (Keeps [] w w7 → True) := hid (fun _ => trivial)
                clear PV7' R7 kx s7 s6 hoff6 PV6 eblk erow ecell ro6' ro6 nw6 k6 k6' hdrd kd KW7 hgl6 hglG
                cases hdm : sm.dead with
                | true =>
                  have hdem : deadE sm = 14 := by unfold deadE; rw [hdm]; rfl
                  have es : s3 = sm := by rw [H3M.out, syncS_dead hdm]
                  have ehF : hF = hs := by rw [HF.out, es, if_pos hdm]
                  rw [hdem]
                  have POST : Hid (RdPost w q p first hF s3 M G (K + 10) (deadE s3) (.returned (.int .i64 14)) w7) := hid (by
                    rw [es, ehF, hdem]
                    exact PV7.out.done (by omega))
                  clear es ehF
                  go_wp2_with fail
                  go_ret
                  exact POST.out
                | false =>
                  have hdem : deadE sm = 0 := by unfold deadE; rw [hdm]; rfl
                  rw [hdem]
                  have c0r := PV7.out.rl.c0
                  go_wp2_with fail
                  refine (rs_any w7 p sm G7 PV7.out.rd.dk _ PV7.out.rd.fit.ok (by omega)).mono ?_
                  rintro e w8 ⟨rfl, R8⟩
                  have hE8 : syncE sm = deadE s3 := by rw [H3M.out]; exact syncE_is sm
                  rw [hE8]
                  rw [← H3M.out] at R8
                  obtain ⟨G8, PV8'⟩ := PV7.out.disk EM.out R8 (Kx' := K + 10) (by rw [H3M.out]; exact PV7.out.rd.fit.syncS) (by rw [H3M.out, syncS_cnt])
                  have PV8 := hid PV8'
                  clear PV8' R8 hE8 c0r PV7
                  cases hd3 : s3.dead with
                  | true =>
                    have hde3 : deadE s3 = 14 := by unfold deadE; rw [hd3]; rfl
                    have ehF : hF = hs := by rw [HF.out, if_pos hd3]
                    rw [hde3]
                    have POST : Hid (RdPost w q p first hF s3 M G (K + 10) 14 (.returned (.int .i64 14)) w8) := hid (by
                      rw [ehF]
                      exact PV8.out.done (by omega))
                    clear ehF
                    go_wp2_with fail
                    go_ret
                    rw [hde3]
                    exact POST.out
                  | false =>
                    have hde3 : deadE s3 = 0 := by unfold deadE; rw [hd3]; rfl
                    have ehF : hF = hs.set k ⟨true, b.length, key⟩ := by rw [HF.out, if_neg (by rw [hd3]; decide)]
                    rw [hde3]
                    have c2r := PV8.out.rl.c2
                    go_wp2_with fail
                    have kr8 := KR.out.keep PV8.out.kp KO.out
                    have kr8d := kr8.keep ((Keeps.refl [] w8).drew) (by intro _ _ _ _ _; simp)
                    refine wp_region_any (by kernel_rfl) (wpAny_of_late (late := [11]) (S := KpS [] w8.heap.size w8.drew) _ _ _ _ ?_)
                    change wpAnyT _ _ _ _ _ _ _ _ _ w8.drew
                    have kd : ∀ W1, KpS [] w8.heap.size w8.drew W1 → Keeps [] w8 W1 := fun W1 h => ⟨h.os, h.tape, h.output, h.size, fun k hk hs => h.block k hk hs⟩
                    refine late_take (i := 0) (v := .pointer (some ⟨q, 0, none⟩)) rfl (by kernel_rfl) (by kernel_rfl) (by kernel_rfl) (by kernel_rfl) (by kernel_rfl) (fun _ _ _ h => h) rfl (fun W1 hW1 => rfl) (KpS.refl _ _ _) ?_
                    simp only [Act.put, List.setIfInBounds_toArray, List.set_cons_zero, List.set_cons_succ]
                    refine late_take (i := 1) (v := .pointer (some ⟨q, 0, none⟩)) rfl (by kernel_rfl) (by kernel_rfl) (by kernel_rfl) (by kernel_rfl) (by kernel_rfl) (fun _ _ _ h => h) rfl (fun W1 hW1 => by go_simp) (KpS.refl _ _ _) ?_
                    simp only [Act.put, List.setIfInBounds_toArray, List.set_cons_zero, List.set_cons_succ]
                    refine late_take (i := 2) (v := .pointer (some ⟨q, 2, none⟩)) rfl (by kernel_rfl) (by kernel_rfl) (by kernel_rfl) (by kernel_rfl) (by kernel_rfl) (fun _ _ _ h => h) rfl (fun W1 hW1 => by go_simp) (KpS.refl _ _ _) ?_
                    simp only [Act.put, List.setIfInBounds_toArray, List.set_cons_zero, List.set_cons_succ]
                    refine late_take (i := 3) (v := .slice (some ⟨g, 0, none⟩) rs.length lc) rfl (by kernel_rfl) (by kernel_rfl) (by kernel_rfl) (by kernel_rfl) (by kernel_rfl) (fun _ _ _ h => h) rfl (fun W1 hW1 => exec_load _ _ _ _ rfl rfl (run_loadCell W1 _ _ _ (keeps_cell4 (kd W1 hW1) c2r (by simp)) (agg_no _ (by kernel_rfl)))) (KpS.refl _ _ _) ?_
                    simp only [Act.put, List.setIfInBounds_toArray, List.set_cons_zero, List.set_cons_succ]
                    refine late_take (i := 4) (v := .int .i64 k) rfl (by kernel_rfl) (by kernel_rfl) (by kernel_rfl) (by kernel_rfl) (by kernel_rfl) (fun _ _ _ h => h) rfl (fun W1 hW1 => rfl) (KpS.refl _ _ _) ?_
                    simp only [Act.put, List.setIfInBounds_toArray, List.set_cons_zero, List.set_cons_succ]
                    refine late_take (i := 5) (v := .slice ka key.length kc) rfl (by kernel_rfl) (by kernel_rfl) (by kernel_rfl) (by kernel_rfl) (by kernel_rfl) (fun _ _ _ h => h) rfl (fun W1 hW1 => rfl) (KpS.refl _ _ _) ?_
                    simp only [Act.put, List.setIfInBounds_toArray, List.set_cons_zero, List.set_cons_succ]
                    refine late_take (i := 7) (v := .slice ba b.length bc) rfl (by kernel_rfl) (by kernel_rfl) (by kernel_rfl) (by kernel_rfl) (by kernel_rfl) (fun _ _ _ h => h) rfl (fun W1 hW1 => rfl) (KpS.refl _ _ _) ?_
                    simp only [Act.put, List.setIfInBounds_toArray, List.set_cons_zero, List.set_cons_succ]
                    refine late_take (i := 8) (v := .int .i64 b.length) rfl (by kernel_rfl) (by kernel_rfl) (by kernel_rfl) (by kernel_rfl) (by kernel_rfl) (fun _ _ _ h => h) rfl (fun W1 hW1 => by go_simp) (KpS.refl _ _ _) ?_
                    simp only [Act.put, List.setIfInBounds_toArray, List.set_cons_zero, List.set_cons_succ]
                    refine late_do (i := 6) (by kernel_rfl) rfl rfl (wp_enter (f := 42) (args := #[.slice ka key.length kc]) (by go_simp) (copy4_any w8.drew _ key kr8d (by omega)) ?_)
                    rintro e w9 ⟨a9, c9, rfl, ow9, k9⟩
                    have s9 : KpS [] w8.heap.size w8.drew w9 := (KpS.refl _ _ w8.drew).keeps k9 (by simp) (by simp)
                    refine ⟨_, rfl, Or.inr s9, ?_⟩
                    simp only [Act.put, List.setIfInBounds_toArray, List.set_cons_zero, List.set_cons_succ]
                    have k9' : Keeps [] w8 w9 := ((Keeps.refl [] w8).drew).trans k9
                    have PV9 := PV8.out.keep k9'
                    have row9 : RowAt w9 (.slice a9 key.length c9) key := row_of_own64 ow9 rfl KR.out.bytes
                    have new9 : ∀ x, (Value.slice a9 key.length c9).ownBlock = some x → w8.heap.size ≤ x ∧ x < w9.heap.size := fun x e => by
                      have h1 := ow9.lt x e
                      simp only [World.size_drew] at h1
                      exact h1
                    have hgM : g ∈ M := by rw [EM.out]; exact (mem_rsl g).2 (.inr (.inl rfl))
                    have hqM : q ∈ M := by rw [EM.out]; exact (mem_rsl q).2 (.inl rfl)
                    obtain ⟨RN, th⟩ := PV9.rl.setAt k hkr ⟨true, .slice a9 key.length c9, key, b.length⟩ row9 (fun x e => by
                      have h1 := new9 x (Rh.blk_iff.1 e).2
                      have h2 := PV8.out.rd.sl.lt g hgM
                      have h3 := PV8.out.rd.sl.lt q hqM
                      exact ⟨by omega, by omega, h1.2⟩)
                    have POST : Hid (RdPost w q p first hF s3 M G (K + 10) (deadE s3) (.returned (.int .i64 0)) (w9.setCells g (k * 3) [.bool true, .slice a9 key.length c9, .int .i64 b.length])) := hid (by
                      have hsub : ∀ x ∈ rsl q (.slice (some ⟨g, 0, none⟩) rs.length lc) (rs.set k ⟨true, .slice a9 key.length c9, key, b.length⟩), x ∈ M ∨ w8.heap.size ≤ x := fun x hx => by
                        rw [EM.out]
                        rcases (mem_rsl x).1 hx with rfl | e | ⟨r, hr, e⟩
                        · exact .inl ((mem_rsl _).2 (.inl rfl))
                        · exact .inl ((mem_rsl x).2 (.inr (.inl e)))
                        · rcases List.mem_or_eq_of_mem_set hr with hr | rfl
                          · exact .inl ((mem_rsl x).2 (.inr (.inr ⟨r, hr, e⟩)))
                          · exact .inr (new9 x (Rh.blk_iff.1 e).2).1
                      have hz8 := PV8.out.kp.size
                      rw [hde3]
                      refine ⟨rfl, rsl q (.slice (some ⟨g, 0, none⟩) rs.length lc) (rs.set k ⟨true, .slice a9 key.length c9, key, b.length⟩), G8, ⟨⟨_, _, RN, ?_, rfl⟩, PV9.rd.dk.keep (S := [g]) (set3_keeps (Keeps.refl _ _) _ _ _ (.inl (by simp))) (fun x hx hm => ?_), fun x hx hG => ?_, PV9.rd.fit, ?_, fun h hh => ?_⟩, set3_keeps PV9.kp _ _ _ (.inl (List.mem_append.2 (.inl hgM))), fun x hx => (hsub x hx).imp id (fun h => by omega), PV9.fr⟩
                      · rw [ehF, EHS.out, List.map_set]; rfl
                      · simp at hm; subst hm; exact PV9.rd.dis _ hgM hx
                      · rcases hsub x hx with h | h
                        · exact PV8.out.rd.dis x h hG
                        · have := PV8.out.rd.dk.lt x hG; omega
                      · rw [ehF, List.length_set]; exact PV9.rd.room
                      · rw [ehF] at hh
                        rcases List.mem_or_eq_of_mem_set hh with hh | rfl
                        · exact PV9.rd.ok h hh
                        · exact ⟨hk40, KR.out.bytes, hb448, fun h => by cases h⟩)
                    refine late_take (i := 9) (v := .agg #[.bool true, .slice a9 key.length c9, .int .i64 b.length]) rfl (by kernel_rfl) (by kernel_rfl) (by kernel_rfl) (by kernel_rfl) (by kernel_rfl) (fun _ _ _ h => h) rfl (fun W1 hW1 => by go_simp) (s9) ?_
                    simp only [Act.put, List.setIfInBounds_toArray, List.set_cons_zero, List.set_cons_succ]
                    refine late_take (i := 10) (v := .pointer (some ⟨g, k * 3, none⟩)) rfl (by kernel_rfl) (by kernel_rfl) (by kernel_rfl) (by kernel_rfl) (by kernel_rfl) (fun _ _ _ h => h) rfl (fun W1 hW1 => by go_simp) (s9) ?_
                    simp only [Act.put, List.setIfInBounds_toArray, List.set_cons_zero, List.set_cons_succ]
                    refine late_do (i := 11) (by kernel_rfl) rfl rfl (wp_storedD (exec_storeMid 73 _ _ rfl g (k * 3) #[.bool true, .slice a9 key.length c9, .int .i64 b.length] rfl rfl th iHeld (by simp [Value.oneCell'])) ⟨Or.inl rfl, ?_⟩)
                    simp only [Act.put]
                    refine wpAnyT_done (by kernel_rfl) ?_ _
                    clear RN th new9 row9 PV9 k9' s9 k9 ow9 kd kr8 kr8d ehF
                    go_wp2_with fail
                    go_ret
                    exact POST.out
end Go.Proofs.YtiljhjegfklgmaaGreat
