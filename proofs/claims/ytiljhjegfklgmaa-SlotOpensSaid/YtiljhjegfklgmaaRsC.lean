/- The reference's slots: Free, Find. -/
import Derived.Test.YtiljhjegfklgmaaRsB
namespace Go.Proofs.Ytiljhjegfklgmaa
open Go.RowKit Go.Shelf
set_option maxRecDepth 100000
set_option linter.unusedSimpArgs false

set_option maxHeartbeats 800000 in
theorem rfree_any (w : World) (q p : Nat) (first : Int) (hs : List Hd) (M : List Nat) (H : RsAt w q p first hs M) (hl : hs.length ≤ 1000) :
    Calls Try.prog 31 #[.pointer (some ⟨q, 0, none⟩)] w fun e w' => e = .returned (.int .i64 (freeS hs)) ∧ w = w' := by
  obtain ⟨Lv, rs, R, rfl, rfl⟩ := H
  have RR := hid R
  obtain ⟨la, lc, rfl⟩ := R.shape
  have c2 := R.c2
  rw [List.length_map] at hl
  have e2 := fun (j : Nat) (hj : j < rs.length) => List.getElem_map Rh.hd (l := rs) (i := j) (h := by simpa using hj)
  have E2 := hid e2
  clear R e2
  go_enter Try.func31, Try.ntmps31
  go_wp2_with fail
  go_loop [3] (fun i => ∃ k : Nat, k ≤ rs.length ∧ i = .int .i64 k ∧ Hid (∀ j (hj : j < k) (h : j < rs.length), (rs[j]'h).u = true)) (fun i => rs.length - (intOf i).toNat)
  case atStart => exact ⟨0, by omega, rfl, hid (fun j hj => absurd hj (by omega))⟩
  case round =>
    obtain ⟨k, hk, rfl, HZ⟩ := hrel
    by_cases hlt : k < rs.length
    · obtain ⟨g, c, eL, d0, -, -, -⟩ := RR.out.at k hlt
      injection eL with e1 _ e3
      subst e1; subst e3
      have HU : Hid (∃ b, b = rs[k].u) := hid ⟨_, rfl⟩
      obtain ⟨b, hb⟩ := HU.out
      rw [← hb] at d0
      have HB := hid hb
      clear hb HU
      cases b with
      | true =>
        go_wp2_with fail
        go_round
        case rel =>
          refine ⟨k + 1, by omega, by go_num, hid (fun j hj h => ?_)⟩
          by_cases e : j = k
          · subst e; exact HB.out.symm
          · exact HZ.out j (by omega) h
        case measure => simp [intOf]; omega
      | false =>
        have HIT : Hid (freeS (rs.map Rh.hd) = k) := hid (idxS_hit (pr := fun h : Hd => !h.used) (hs := rs.map Rh.hd) (k := k) (by simpa using hlt) (fun j hj => by
          rw [E2.out j (by omega)]
          show (!(rs[j]'(by omega)).u) = false
          rw [HZ.out j hj (by omega)]; rfl) (by rw [E2.out k hlt]; show (!rs[k].u) = true; rw [← HB.out]; rfl))
        go_wp2_with fail
        go_ret
        exact ⟨by rw [HIT.out]; rfl, rfl⟩
    · have : k = rs.length := by omega
      subst this
      have MISS : Hid (freeS (rs.map Rh.hd) = -1) := hid (idxS_miss (pr := fun h : Hd => !h.used) (hs := rs.map Rh.hd) (fun j hj => by
        have hj' : j < rs.length := by simpa using hj
        rw [E2.out j hj']
        show (!(rs[j]'hj').u) = false
        rw [HZ.out j hj' hj']; rfl))
      go_wp2_with fail
      go_ret
      exact ⟨by rw [MISS.out]; rfl, rfl⟩

set_option maxHeartbeats 800000 in
theorem rfind_any (w : World) (q p : Nat) (first : Int) (hs : List Hd) (M : List Nat) (H : RsAt w q p first hs M) (hl : hs.length ≤ 1000) (hok : ∀ h ∈ hs, h.Ok) (kv : Value) (ks : List Int) (hkr : RowAt w kv ks) (hks : ks.length ≤ 100000) :
    Calls Try.prog 35 #[.pointer (some ⟨q, 0, none⟩), kv] w fun e w' => e = .returned (.int .i64 (findS hs ks)) ∧ Keeps [] w w' := by
  obtain ⟨Lv, rs, R, rfl, rfl⟩ := H
  have RR := hid R
  have KR := hid hkr
  obtain ⟨la, lc, rfl⟩ := R.shape
  rw [List.length_map] at hl
  have e2 := fun (j : Nat) (hj : j < rs.length) => List.getElem_map Rh.hd (l := rs) (i := j) (h := by simpa using hj)
  have E2 := hid e2
  have OK := hid hok
  have hkl := hks
  clear R e2 hok hkr
  obtain ⟨ka, kc, rfl, -⟩ := id KR.out
  go_enter Try.func35, Try.ntmps35
  go_wp2_with fail
  go_loopw [5] (fun i wr => ∃ k : Nat, k ≤ rs.length ∧ i = .int .i64 k ∧ Hid (∀ j (hj : j < k) (h : j < rs.length), ((rs[j]'h).u && decide ((rs[j]'h).key = ks)) = false) ∧ Hid (Keeps [] w wr)) (fun i _ => rs.length - (intOf i).toNat)
  case atStart => exact ⟨0, by omega, rfl, hid (fun j hj => absurd hj (by omega)), hid (Keeps.refl _ _)⟩
  case round =>
    obtain ⟨k, hk, rfl, HZ, KK⟩ := hrel
    have Rr := hid (RR.out.keep KK.out (by simp))
    have c2 := Rr.out.c2
    by_cases hlt : k < rs.length
    · obtain ⟨g, c, eL, d0, d1, -, -⟩ := Rr.out.at k hlt
      injection eL with e1 _ e3
      subst e1; subst e3
      have rk := Rr.out.keys _ (List.getElem_mem hlt)
      have hk40 := (OK.out _ (List.mem_map.2 ⟨_, List.getElem_mem hlt, rfl⟩)).key
      have HU : Hid (∃ r, r = rs[k]) := hid ⟨_, rfl⟩
      obtain ⟨r, hr⟩ := HU.out
      rw [← hr] at d0 d1 rk hk40
      have HB := hid hr
      clear hr HU
      obtain ⟨u, xv, key, n⟩ := r
      have hk40' : key.length ≤ 40 := hk40
      obtain ⟨xa, xc, exv, -⟩ := id rk
      simp only at exv d0 d1 rk
      subst exv
      have SM := hid (same_any wr _ _ key ks rk (KR.out.keep KK.out (by intro _ _ _ _ _; simp)) (by omega) (by omega))
      clear rk hk40
      have NEXT : Hid ((u && decide (key = ks)) = false → ∀ j (hj : j < k + 1) (h : j < rs.length), ((rs[j]'h).u && decide ((rs[j]'h).key = ks)) = false) := hid (fun hn j hj h => by
        by_cases e : j = k
        · subst e; rw [← HB.out]; exact hn
        · exact HZ.out j (by omega) h)
      cases u with
      | true =>
        cases hd : decide (key = ks) with
        | true =>
          rw [hd] at SM
          have HIT : Hid (findS (rs.map Rh.hd) ks = k) := hid (by
            refine idxS_hit (by simpa using hlt) (fun j hj => ?_) ?_
            · rw [E2.out j (by omega)]; exact HZ.out j hj (by omega)
            · rw [E2.out k hlt, ← HB.out]; show (true && decide (key = ks)) = true; rw [hd]; rfl)
          go_wp2_with (first | (go_at_call 15; refine SM.out.mono ?_; rintro e w2 ⟨rfl, n2, rfl⟩) | fail)
          go_ret
          exact ⟨by rw [HIT.out]; rfl, KK.out.drewN n2⟩
        | false =>
          rw [hd] at SM NEXT
          have NX := hid (NEXT.out rfl)
          clear NEXT
          go_wp2_with (first | (go_at_call 15; refine SM.out.mono ?_; rintro e w2 ⟨rfl, n2, rfl⟩) | fail)
          have KD := hid (KK.out.drewN n2)
          generalize wr.drewN n2 = wz at KD ⊢
          go_roundw
          case rel => exact ⟨k + 1, by omega, by go_num, NX, KD⟩
          case measure => simp [intOf]; omega
      | false =>
        have NX := hid (NEXT.out rfl)
        clear NEXT
        go_wp2_with fail
        go_roundw
        case rel => exact ⟨k + 1, by omega, by go_num, NX, KK⟩
        case measure => simp [intOf]; omega
    · have : k = rs.length := by omega
      subst this
      have MISS : Hid (findS (rs.map Rh.hd) ks = -1) := hid (by
        refine idxS_miss (fun j hj => ?_)
        have hj' : j < rs.length := by simpa using hj
        rw [E2.out j hj']; exact HZ.out j hj' hj')
      go_wp2_with fail
      go_ret
      exact ⟨by rw [MISS.out]; rfl, KK.out⟩
end Go.Proofs.Ytiljhjegfklgmaa
