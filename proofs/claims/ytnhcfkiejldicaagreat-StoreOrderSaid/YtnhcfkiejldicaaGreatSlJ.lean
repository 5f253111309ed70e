/- Slots: Put and Clear. -/
import Derived.Test.YtnhcfkiejldicaaGreatSlI
namespace Go.Proofs.YtnhcfkiejldicaaGreat
open Go.RowKit Go.Shelf

/-- Slots over a disk. -/
structure SlAt (w : World) (q p g first : Nat) (hs : List Hd) (s : DS) (F : List Nat) (K : Nat) : Prop where
  sl : SlotsAt w q p g first hs
  dk : DiskAt w p s F K
  hq : q ∉ F
  hg : g ∉ F
  fit : first + hs.length * 8 ≤ s.cnt
theorem SlAt.cnt {w : World} {q p g first : Nat} {hs : List Hd} {s : DS} {F : List Nat} {K : Nat} (h : SlAt w q p g first hs s F K) : s.cnt ≤ 4160 := h.dk.1.hi
theorem SlAt.keep {w w' : World} {q p g first : Nat} {hs : List Hd} {s : DS} {F S : List Nat} {K : Nat} (h : SlAt w q p g first hs s F K) (k : Keeps S w w') (h1 : q ∉ S) (h2 : g ∉ S) (h3 : ∀ b ∈ F, b ∉ S) : SlAt w' q p g first hs s F K :=
  ⟨h.sl.keep k h1 h2, h.dk.keep k h3, h.hq, h.hg, h.fit⟩
theorem SlAt.mono {w : World} {q p g first : Nat} {hs : List Hd} {s : DS} {F : List Nat} {K K' : Nat} (h : SlAt w q p g first hs s F K) (hk : K ≤ K') : SlAt w q p g first hs s F K' :=
  ⟨h.sl, h.dk.mono hk, h.hq, h.hg, h.fit⟩

def putD (s : DS) (bg : Nat) (key b : List Int) : DS := markS (holdS s (bg + 1) b) bg ⟨true, b.length, key⟩
theorem markS_cnt (s : DS) (n : Nat) (h : Hd) : (markS s n h).cnt = s.cnt := by rw [markS, syncS_cnt, writeS_cnt]
theorem putD_cnt (s : DS) (bg : Nat) (key b : List Int) : (putD s bg key b).cnt = s.cnt := by rw [putD, markS_cnt, holdS_cnt]
theorem markS_dead {s : DS} (h : s.dead = true) (n : Nat) (hd : Hd) : markS s n hd = s := by rw [markS, writeS_dead h, syncS_dead h]
/-- Is it done, but for death? -/
def putOk (hs : List Hd) (i : Int) (key b : List Int) : Bool := hasS hs i && decide (key.length ≤ 40) && decide (b.length ≤ 448) && !usedS hs i
def putE (hs : List Hd) (first : Nat) (s : DS) (i : Int) (key b : List Int) : Int :=
  if hasS hs i = false then 1 else if 40 < key.length ∨ 448 < b.length then 3 else if usedS hs i then 7 else deadE (putD s (first + i.toNat * 8) key b)
def putS (hs : List Hd) (first : Nat) (s : DS) (i : Int) (key b : List Int) : DS := if putOk hs i key b then putD s (first + i.toNat * 8) key b else s
def putH (hs : List Hd) (first : Nat) (s : DS) (i : Int) (key b : List Int) : List Hd :=
  if putOk hs i key b && !(putD s (first + i.toNat * 8) key b).dead then hs.set i.toNat ⟨true, b.length, key⟩ else hs
def clearOk (hs : List Hd) (i : Int) : Bool := hasS hs i && usedS hs i
def clearE (hs : List Hd) (first : Nat) (s : DS) (i : Int) : Int := if takeE hs i = 0 then deadE (markS s (first + i.toNat * 8) hd0) else takeE hs i
def clearS (hs : List Hd) (first : Nat) (s : DS) (i : Int) : DS := if clearOk hs i then markS s (first + i.toNat * 8) hd0 else s
def clearH (hs : List Hd) (first : Nat) (s : DS) (i : Int) : List Hd := if clearOk hs i && !(markS s (first + i.toNat * 8) hd0).dead then hs.set i.toNat hd0 else hs

def SlPost (w : World) (q p g first : Nat) (hs : List Hd) (s : DS) (F : List Nat) (K : Nat) (er : Int) (e : Ending) (w' : World) : Prop :=
  e = .returned (.int .i64 er) ∧ ∃ F', SlAt w' q p g first hs s F' K ∧ Keeps (g :: F) w w' ∧ Fresh w F F'

theorem fresh_refl (w : World) (F : List Nat) : Fresh w F F := fun _ hb => Or.inl hb

set_option maxRecDepth 100000 in
set_option maxHeartbeats 6400000 in
theorem lPut_any (w : World) (q p g first : Nat) (hs : List Hd) (s : DS) (F : List Nat) (K : Nat) (H : SlAt w q p g first hs s F K) (hK : K ≤ 400000000) (i : Int) (kv : Value) (key : List Int) (hkr : RowAt w kv key) (hko : Off F kv key) (bv : Value) (b : List Int) (hbr : RowAt w bv b) (hbo : Off F bv b) :
    Calls Tryz.prog 29 #[.pointer (some ⟨q, 0, none⟩), .int .i64 i, kv, bv] w (SlPost w q p g first (putH hs first s i key b) (putS hs first s i key b) F (K + 40) (putE hs first s i key b)) := by
  have HH := hid H
  have HS := hid H.sl
  have hcnt := H.cnt
  have hfit := H.fit
  have lF : ∀ j ∈ F, j < w.heap.size := fun j hj => by obtain ⟨m, dm⟩ := H.dk.dm; exact dm.lt j hj
  have HKR := hid hkr
  have HBR := hid hbr
  have HKO := hid hko
  have HBO := hid hbo
  obtain ⟨ka, kc, rfl, hk1⟩ := id hkr
  obtain ⟨ba, bc, rfl, hb1⟩ := id hbr
  have same : putOk hs i key b = false → SlPost w q p g first (putH hs first s i key b) (putS hs first s i key b) F (K + 40) (putE hs first s i key b) (.returned (.int .i64 (putE hs first s i key b))) w := fun h => by
    refine ⟨rfl, F, ?_, Keeps.refl _ _, fresh_refl _ _⟩
    simp only [putH, putS, h, Bool.false_and, Bool.false_eq_true, if_false]
    exact H.mono (by omega)
  have SAME := hid same
  clear H hk1 hb1 hkr hbr hko hbo same
  by_cases hh : hasS hs i = true
  · by_cases hl : 40 < key.length ∨ 448 < b.length
    · have ee : putE hs first s i key b = 3 := by simp only [putE, hh, hl, if_true]; simp
      have eo : putOk hs i key b = false := by simp [putOk]; omega
      have PP := SAME.out eo
      rw [ee] at PP ⊢
      have HP := hid PP
      have hh' := hid hh
      clear hh ee eo PP SAME
      rcases hl with hl | hl
      · have t0 : (40 : Int) < (key.length : Int) := by omega
        clear hl
        go_enter Tryz.func29, Tryz.ntmps29
        go_wp2_with fail
        refine (lMade_any w q p g first hs HS.out).mono ?_
        rintro e w' ⟨rfl, rfl⟩
        go_wp2_with fail
        refine (lHas_any w q p g first hs HS.out i).mono ?_
        rintro e w' ⟨rfl, rfl⟩
        rw [hh'.out]
        go_wp2_with fail
        go_ret
        exact HP.out
      · have t0 : (448 : Int) < (b.length : Int) := by omega
        clear hl
        by_cases hl2 : (40 : Int) < (key.length : Int)
        · go_enter Tryz.func29, Tryz.ntmps29
          go_wp2_with fail
          refine (lMade_any w q p g first hs HS.out).mono ?_
          rintro e w' ⟨rfl, rfl⟩
          go_wp2_with fail
          refine (lHas_any w q p g first hs HS.out i).mono ?_
          rintro e w' ⟨rfl, rfl⟩
          rw [hh'.out]
          go_wp2_with fail
          go_ret
          exact HP.out
        · go_enter Tryz.func29, Tryz.ntmps29
          go_wp2_with fail
          refine (lMade_any w q p g first hs HS.out).mono ?_
          rintro e w' ⟨rfl, rfl⟩
          go_wp2_with fail
          refine (lHas_any w q p g first hs HS.out i).mono ?_
          rintro e w' ⟨rfl, rfl⟩
          rw [hh'.out]
          go_wp2_with fail
          go_ret
          exact HP.out
    · have t0 : ¬ (40 : Int) < (key.length : Int) := by omega
      have t1 : ¬ (448 : Int) < (b.length : Int) := by omega
      cases hu : usedS hs i with
      | true =>
        have ee : putE hs first s i key b = 7 := by simp only [putE, hh, hl, hu, if_true]; simp
        have eo : putOk hs i key b = false := by simp [putOk, hu]
        have PP := SAME.out eo
        rw [ee] at PP ⊢
        have HP := hid PP
        have hh' := hid hh
        have HU := hid hu
        clear hh ee eo PP SAME hl hu
        go_enter Tryz.func29, Tryz.ntmps29
        go_wp2_with fail
        refine (lMade_any w q p g first hs HS.out).mono ?_
        rintro e w' ⟨rfl, rfl⟩
        go_wp2_with fail
        refine (lHas_any w q p g first hs HS.out i).mono ?_
        rintro e w' ⟨rfl, rfl⟩
        rw [hh'.out]
        go_wp2_with fail
        refine (lUsed_any w q p g first hs HS.out i).mono ?_
        rintro e w' ⟨rfl, rfl⟩
        rw [HU.out]
        go_wp2_with fail
        go_ret
        exact HP.out
      | false =>
        obtain ⟨k, rfl⟩ : ∃ k : Nat, i = k := by
          simp [hasS] at hh
          exact Int.eq_ofNat_of_zero_le hh.1
        have hk : k < hs.length := by simp [hasS] at hh; omega
        obtain ⟨bg, hbg⟩ : ∃ x, x = first + k * 8 := ⟨_, rfl⟩
        have ee : putE hs first s k key b = deadE (putD s bg key b) := by simp only [putE, hh, hl, hu, hbg, if_false, Int.toNat_natCast]; simp
        have eo : putOk hs k key b = true := by simp [putOk, hu, hh]; omega
        have es : putS hs first s k key b = putD s bg key b := by simp only [putS, eo, hbg, if_true, Int.toNat_natCast]
        have eh : putH hs first s k key b = if (putD s bg key b).dead then hs else hs.set k ⟨true, b.length, key⟩ := by
          simp only [putH, eo, hbg, Bool.true_and, Int.toNat_natCast]
          cases (putD s (first + k * 8) key b).dead <;> rfl
        rw [ee, es, eh]
        have hh' := hid hh
        have HU := hid hu
        have hkl : key.length ≤ 40 := by omega
        have hbl : b.length ≤ 448 := by omega
        clear hh ee eo es eh SAME hl hu
        have okh : Hd.Ok ⟨true, b.length, key⟩ := ⟨hkl, HKR.out.bytes, hbl, fun h => by cases h⟩
        have HOK := hid okh
        clear okh
        obtain ⟨m, dm⟩ := HH.out.dk.dm
        have DMH := hid dm
        clear dm
        obtain ⟨s2, hs2⟩ : ∃ x, x = putD s bg key b := ⟨_, rfl⟩
        rw [← hs2]
        obtain ⟨hn, hhn⟩ : ∃ x, x = if s2.dead then hs else hs.set k ⟨true, b.length, key⟩ := ⟨_, rfl⟩
        rw [← hhn]
        have HHN := hid hhn
        clear hhn
        have HM := callsIn_wide.1 (hold_in 9 (by omega) w q p g first hs HS.out m s F K DMH.out (by omega) HH.out.hq HH.out.hg k bg hbg hk hfit hcnt _ b HBR.out HBO.out hbl)
        have hcs := holdS_cnt s (bg + 1) b
        have hpd : putD s bg key b = markS (holdS s (bg + 1) b) bg ⟨true, b.length, key⟩ := rfl
        rw [hpd] at hs2
        generalize holdS s (bg + 1) b = s1 at HM hcs hs2
        have HMH := hid HM
        have HS2 := hid hs2
        have HBG := hid hbg
        clear HM hpd hs2 hbg
        go_enter Tryz.func29, Tryz.ntmps29
        go_wp2_with fail
        refine (lMade_any w q p g first hs HS.out).mono ?_
        rintro e w' ⟨rfl, rfl⟩
        go_wp2_with fail
        refine (lHas_any w q p g first hs HS.out k).mono ?_
        rintro e w' ⟨rfl, rfl⟩
        rw [hh'.out]
        go_wp2_with fail
        refine (lUsed_any w q p g first hs HS.out k).mono ?_
        rintro e w' ⟨rfl, rfl⟩
        rw [HU.out]
        go_wp2_with fail
        refine HMH.out.mono ?_
        rintro e w3 ⟨rfl, F3, d3, k3, fr3⟩
        have hq3 : q ∉ F3 := fun hm => by rcases fr3 _ hm with h | h; exact HH.out.hq h; have := HS.out.ltq; omega
        have hg3 : g ∉ F3 := fun hm => by rcases fr3 _ hm with h | h; exact HH.out.hg h; have := HS.out.ltg; omega
        have S3 := hid (HS.out.keep k3 HH.out.hq HH.out.hg)
        have D3 := hid d3
        have K3 := hid k3
        have FR3 := hid fr3
        have cv := conv_row (HKR.out.keep k3 HKO.out)
        clear d3 k3 fr3
        rcases deadE_cases s1 with ⟨hd, he⟩ | ⟨hd, he⟩
        · rw [he]
          have E12 : Hid (s2 = s1) := hid (by rw [HS2.out, markS_dead hd])
          have HD1 := hid hd
          clear hd he cv
          go_wp2_with fail
          go_ret
          have e12 := E12.out
          have ehn := HHN.out
          subst e12
          rw [if_pos HD1.out] at ehn
          subst ehn
          exact ⟨by simp [deadE, HD1.out], F3, ⟨S3.out, D3.out.mono (by omega), hq3, hg3, by omega⟩, K3.out.mono (by intro k _ hk; simp [hk]), FR3.out⟩
        · rw [he]
          clear hd he
          obtain ⟨m3, dm3⟩ := D3.out.dm
          have MK := lMark_any w3 q p g first hs S3.out m3 s1 F3 (K + 20) dm3 (by omega) hq3 hg3 k bg HBG.out hk (by omega) (by omega) ⟨true, b.length, key⟩ HOK.out
          rw [← HS2.out] at MK
          unfold MarkPost at MK
          rw [← HHN.out] at MK
          have MKH := hid MK
          clear MK dm3
          go_wp2_with fail
          refine MKH.out.mono ?_
          rintro e w4 ⟨rfl, F4, d4, s4, k4, fr4⟩
          have D4 := hid d4
          have S4 := hid s4
          have K4 := hid k4
          have FR4 := hid fr4
          clear d4 s4 k4 fr4
          go_wp2_with fail
          go_ret
          have z3 := K3.out.size
          have hc2 : s2.cnt = s1.cnt := by rw [HS2.out, markS_cnt]
          have hl2 : hn.length = hs.length := by
            rw [HHN.out]
            split
            · rfl
            · rw [List.length_set]
          refine ⟨rfl, F4, ⟨S4.out, D4.out, fun hm => ?_, fun hm => ?_, ?_⟩, ?_, fun j hj => ?_⟩
          · rcases FR4.out _ hm with h | h
            · exact hq3 h
            · have := HS.out.ltq; omega
          · rcases FR4.out _ hm with h | h
            · exact hg3 h
            · have := HS.out.ltg; omega
          · omega
          · refine (K3.out.mono (by intro k _ hk; simp [hk])).trans' K4.out (fun j hj hm => ?_)
            simp only [List.mem_cons] at hm ⊢
            rcases hm with hm | hm
            · exact .inl hm
            · rcases FR3.out _ hm with h | h
              · exact .inr h
              · omega
          · rcases FR4.out _ hj with h | h
            · exact FR3.out _ h
            · exact .inr (by omega)
  · have hh2 : hasS hs i = false := by simpa using hh
    have ee : putE hs first s i key b = 1 := by simp only [putE, hh2, if_true]
    have eo : putOk hs i key b = false := by simp [putOk, hh2]
    have PP := SAME.out eo
    rw [ee] at PP ⊢
    have HP := hid PP
    have hh' := hid hh2
    clear hh hh2 ee eo PP SAME
    go_enter Tryz.func29, Tryz.ntmps29
    go_wp2_with fail
    refine (lMade_any w q p g first hs HS.out).mono ?_
    rintro e w' ⟨rfl, rfl⟩
    go_wp2_with fail
    refine (lHas_any w q p g first hs HS.out i).mono ?_
    rintro e w' ⟨rfl, rfl⟩
    rw [hh'.out]
    go_wp2_with fail
    go_ret
    exact HP.out

set_option maxRecDepth 100000 in
set_option maxHeartbeats 6400000 in
theorem lClear_any (w : World) (q p g first : Nat) (hs : List Hd) (s : DS) (F : List Nat) (K : Nat) (H : SlAt w q p g first hs s F K) (hK : K ≤ 400000000) (i : Int) :
    Calls Tryz.prog 33 #[.pointer (some ⟨q, 0, none⟩), .int .i64 i] w (SlPost w q p g first (clearH hs first s i) (clearS hs first s i) F (K + 40) (clearE hs first s i)) := by
  have HH := hid H
  have HS := hid H.sl
  have hcnt := H.cnt
  have hfit := H.fit
  by_cases ht : takeE hs i = 0
  · have hco : hasS hs i = true ∧ usedS hs i = true := by
      unfold takeE at ht
      cases h1 : hasS hs i <;> cases h2 : usedS hs i <;> simp [h1, h2] at ht ⊢
    obtain ⟨k, rfl⟩ : ∃ k : Nat, i = k := by
      have := hco.1
      simp [hasS] at this
      exact Int.eq_ofNat_of_zero_le this.1
    have hk : k < hs.length := by have := hco.1; simp [hasS] at this; omega
    obtain ⟨bg, hbg⟩ : ∃ x, x = first + k * 8 := ⟨_, rfl⟩
    have ee : clearE hs first s k = deadE (markS s bg hd0) := by simp only [clearE, ht, hbg, if_true, Int.toNat_natCast]
    have eo : clearOk hs k = true := by simp [clearOk, hco]
    have es : clearS hs first s k = markS s bg hd0 := by simp only [clearS, eo, hbg, if_true, Int.toNat_natCast]
    have eh : clearH hs first s k = if (markS s bg hd0).dead then hs else hs.set k hd0 := by
      simp only [clearH, eo, hbg, Bool.true_and, Int.toNat_natCast]
      cases (markS s (first + k * 8) hd0).dead <;> rfl
    rw [ee, es, eh]
    have HT := hid ht
    obtain ⟨m, dm⟩ := H.dk.dm
    have MK := lMark_any w q p g first hs H.sl m s F K dm (by omega) H.hq H.hg k bg hbg hk hfit hcnt hd0 ⟨by simp [hd0], by simp [hd0], by simp [hd0], fun _ => rfl⟩
    have hcs := markS_cnt s bg hd0
    obtain ⟨s2, hs2⟩ : ∃ x, x = markS s bg hd0 := ⟨_, rfl⟩
    rw [← hs2] at MK hcs ⊢
    obtain ⟨hn, hhn⟩ : ∃ x, x = if s2.dead then hs else hs.set k hd0 := ⟨_, rfl⟩
    unfold MarkPost at MK
    rw [← hhn] at MK ⊢
    have hl2 : hn.length = hs.length := by
      rw [hhn]
      split
      · rfl
      · rw [List.length_set]
    clear hhn
    have MKH := hid MK
    clear H ee es eh eo hco ht MK dm hs2 hbg
    go_enter Tryz.func33, Tryz.ntmps33
    go_wp2_with fail
    refine (lTake_any w q p g first hs HS.out k).mono ?_
    rintro e w' ⟨rfl, rfl⟩
    rw [HT.out]
    go_wp2_with fail
    refine MKH.out.mono ?_
    rintro e w4 ⟨rfl, F4, d4, s4, k4, fr4⟩
    have D4 := hid d4
    have S4 := hid s4
    have K4 := hid k4
    have FR4 := hid fr4
    clear d4 s4 k4 fr4
    go_wp2_with fail
    go_ret
    refine ⟨rfl, F4, ⟨S4.out, D4.out.mono (by omega), fun hm => ?_, fun hm => ?_, ?_⟩, K4.out, FR4.out⟩
    · rcases FR4.out _ hm with h | h
      · exact HH.out.hq h
      · have := HS.out.ltq; omega
    · rcases FR4.out _ hm with h | h
      · exact HH.out.hg h
      · have := HS.out.ltg; omega
    · omega
  · have ee : clearE hs first s i = takeE hs i := by simp only [clearE, if_neg ht]
    have eo : clearOk hs i = false := by
      unfold takeE at ht
      cases h1 : hasS hs i <;> cases h2 : usedS hs i <;> simp [clearOk, h1, h2] at ht ⊢
    have es : clearS hs first s i = s := by simp only [clearS, eo]; simp
    have eh : clearH hs first s i = hs := by simp [clearH, eo]
    rw [ee, es, eh]
    have tb : (takeE hs i != 0) = true := by simpa using ht
    obtain ⟨te, hte⟩ : ∃ x, x = takeE hs i := ⟨_, rfl⟩
    have TK := lTake_any w q p g first hs H.sl i
    rw [← hte] at TK tb ⊢
    have TKH := hid TK
    clear H ee es eh eo ht TK hte
    go_enter Tryz.func33, Tryz.ntmps33
    go_wp2_with fail
    refine TKH.out.mono ?_
    rintro e w' ⟨rfl, rfl⟩
    go_wp2_with fail
    go_ret
    exact ⟨rfl, F, HH.out.mono (by omega), Keeps.refl _ _, fresh_refl _ _⟩
end Go.Proofs.YtnhcfkiejldicaaGreat
