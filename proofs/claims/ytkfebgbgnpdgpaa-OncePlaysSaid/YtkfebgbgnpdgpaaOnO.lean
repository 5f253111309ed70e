/- once: the walk of the reference's Ask. -/
import Derived.Test.YtkfebgbgnpdgpaaOnN
import Derived.Test.YtkfebgbgnpdgpaaKitC
import Derived.Deep.QuietTactic
import Derived.BigQuiet
namespace Go.Proofs.Ytkfebgbgnpdgpaa
open Go.RowKit Go.Shelf
set_option maxRecDepth 100000
set_option linter.unusedSimpArgs false

theorem loadVSt {w : World} {b o : Nat} {x0 x1 x2 : Value} (c0 : w.cell? ⟨b, o, none⟩ = some x0) (c1 : w.cell? ⟨b, o + 1, none⟩ = some x1) (c2 : w.cell? ⟨b, o + 2, none⟩ = some x2) :
    (Instr.loadAt 57 (.pointer (some ⟨b, o, none⟩))).run Try.prog w = .ok (.agg #[x0, x1, x2]) w := loadV8 c0 c1 c2
/-- A copy in new memory, as a row to be read. -/
theorem copyR_any (w : World) (v : Value) (zs : List Int) (h : RowAt w v zs) (hl : zs.length ≤ 35184372088832) :
    Calls Try.prog 48 #[v] w fun e w' => ∃ a c, e = .returned (.slice a zs.length c) ∧ RowAt w' (.slice a zs.length c) zs ∧ (∀ ad, a = some ad → w.heap.size ≤ ad.block) ∧ Keeps [] w w' := by
  refine (copyK_any w v zs h hl).mono ?_
  rintro e w' ⟨a, c, rfl, ho, k⟩
  refine ⟨a, c, rfl, row_of_own ho h.bytes, ?_, k⟩
  rintro ad rfl
  exact (ho.lt _ rfl).1

set_option maxHeartbeats 6400000 in
theorem vAsk_any (w : World) (q : Nat) (M : List Nat) (T : Tab) (v : Value) (rs : List Rw) (H : RefAt w q M T v rs) (c l s : Int) : Calls Try.prog 25 #[.pointer (some ⟨q, 0, none⟩), stV c l s] w (AskPost w M T c l s) := by
  have ka := (Keeps.refl [] w).alloc (.cells #[.int .i64 c, .int .i64 l, .int .i64 s] 57)
  have KA := hid ka
  have BA := hid (heap_alloc_new w (.cells #[.int .i64 c, .int .i64 l, .int .i64 s] 57))
  have HA := hid (H.later ka)
  have MA := hid (fun W => vMay_any W c l s)
  have HM := hid H.lt
  clear ka H
  unfold stV at MA ⊢
  go_enter Try.func25, Try.ntmps25
  go_wp2_with fail
  obtain ⟨g, hg⟩ : ∃ g, g = w.heap.size := ⟨_, rfl⟩
  rw [← hg] at BA ⊢
  clear hg
  generalize w.alloc (.cells #[.int .i64 c, .int .i64 l, .int .i64 s] 57) = w1 at KA BA HA ⊢
  by_cases hm : mayS c l s = true
  · rw [hm] at MA
    go_wp2_with (first | (refine wpList_is rfl _ _ (exec_load _ _ _ _ rfl rfl (loadVB8 BA.out)) ?_) | (go_at_call 34; refine (MA.out _).mono ?_; rintro e w2 ⟨rfl, k2⟩; have K2 := hid (KA.out.trans k2); have B2 := hid ((k2.block _ (lt_of_block BA.out) (by simp)).trans BA.out); have H2 := hid (HA.out.later k2); have VR := hid (vRow_any w2 q M T v rs H2.out c); clear k2) | (refine wpList_isW rfl _ _ (exec_load _ _ _ _ rfl rfl (loadI8 (block_cells3 B2.out).1)) ?_) | fail)
    obtain ⟨a0, cp, rfl, -⟩ := id H2.out.rows
    have few := H2.out.few
    obtain ⟨q1, q2, _⟩ := mayS_is.1 hm
    have b1 : ∀ n, (w2.drewN n).cell? ⟨g, 1, none⟩ = some (.int .i64 l) := fun n => (block_cells3 B2.out).2.1
    have b2 : ∀ n, (w2.drewN n).cell? ⟨g, 2, none⟩ = some (.int .i64 s) := fun n => (block_cells3 B2.out).2.2
    have c0 : ∀ n, (w2.drewN n).cell? ⟨q, 0, none⟩ = some (.slice a0 rs.length cp) := fun n => H2.out.cell
    have b10 := b1 0
    have b20 := b2 0
    have c00 := c0 0
    have z0 : w2.drewN 0 = w2 := rfl
    rw [z0] at b10 b20 c00
    clear z0
    refine VR.out.mono ?_
    rintro e _ ⟨rfl, (⟨rfl, hn⟩ | ⟨k, hk, rfl, hc⟩)⟩
    · have HT := ref_none H2.out hn q1 q2
      have HK : Hid (kindS T c l s = 3) := hid (by simp [kindS, hm, HT, kindE])
      have HR : Hid (replyS T c l s = []) := hid (by simp [replyS, HK.out])
      clear hn HT q1 q2 hm
      go_wp2_with fail
      go_quiet (fail)
      go_wp2_with fail
      go_ret2
      unfold AskPost
      rw [HK.out, HR.out]
      exact ⟨none, 0, rfl, RowAt.nil _, (by intro _ _ _ e; (try cases e)), (by (repeat refine Keeps.drewN ?_ _); exact K2.out)⟩
    · obtain ⟨g1, o1, ha, -, gl, -, d0, d1, d2, d3⟩ := H2.out.rows.at k hk
      subst ha
      obtain ⟨m1, m2, m3⟩ := H2.out.mem (List.getElem_mem hk)
      rw [hc] at m3
      have OK := hid (H2.out.rows.ok _ (List.getElem_mem hk))
      obtain ⟨ra, rc, hrow, -⟩ := OK.out.row
      rw [hrow] at d3
      have HROW := hid hrow
      obtain ⟨x, hx⟩ : ∃ x, x = rs[k] := ⟨_, rfl⟩
      rw [← hx] at m3 OK HROW d1 d2 d3
      have KD : Hid (kindS T c l s = kindE l s (some (x.l, x.s, x.bs))) := hid (by simp [kindS, hm, m3])
      have RD : Hid (replyE (T c.toNat) = x.bs) := hid (by rw [m3]; rfl)
      have e1 : ∀ n, (w2.drewN n).cell? ⟨g1, o1 + k * 4 + 1, none⟩ = some (.int .i64 x.l) := fun n => d1
      have e2 : ∀ n, (w2.drewN n).cell? ⟨g1, o1 + k * 4 + 2, none⟩ = some (.int .i64 x.s) := fun n => d2
      have e3 : ∀ n, (w2.drewN n).cell? ⟨g1, o1 + k * 4 + 3, none⟩ = some (.slice ra x.bs.length rc) := fun n => d3
      have hng : decide ((k : Int) < 0) = false := by simp
      clear m1 m2 m3 hrow hx hc d0 hm q1 q2
      by_cases h1 : x.l < l
      · have t1 : decide (x.l < l) = true := by simpa using h1
        have HK : Hid (kindS T c l s = 3) := hid (by rw [KD.out]; simp only [kindE]; rw [if_neg (by omega), if_pos h1])
        have HR : Hid (replyS T c l s = []) := hid (by simp [replyS, HK.out])
        clear h1
        go_wp2_with fail
        go_quiet (fail)
        go_wp2_with fail
        go_ret2
        unfold AskPost
        rw [HK.out, HR.out]
        exact ⟨none, 0, rfl, RowAt.nil _, (by intro _ _ _ e; (try cases e)), (by (repeat refine Keeps.drewN ?_ _); exact K2.out)⟩
      · have t1 : decide (x.l < l) = false := by simpa using h1
        by_cases h2 : l < x.l
        · have t2 : decide (l < x.l) = true := by simpa using h2
          have HK : Hid (kindS T c l s = 2) := hid (by rw [KD.out]; simp only [kindE]; rw [if_pos h2])
          have HR : Hid (replyS T c l s = []) := hid (by simp [replyS, HK.out])
          clear h1 h2
          go_wp2_with fail
          go_quiet (fail)
          go_wp2_with fail
          go_quiet (fail)
          go_wp2_with fail
          go_ret2
          unfold AskPost
          rw [HK.out, HR.out]
          exact ⟨none, 0, rfl, RowAt.nil _, (by intro _ _ _ e; (try cases e)), (by (repeat refine Keeps.drewN ?_ _); exact K2.out)⟩
        · have t2 : decide (l < x.l) = false := by simpa using h2
          by_cases h3 : s < x.s
          · have t3 : decide (s < x.s) = true := by simpa using h3
            have HK : Hid (kindS T c l s = 2) := hid (by rw [KD.out]; simp only [kindE]; rw [if_neg h2, if_neg h1, if_neg (by omega), if_pos h3])
            have HR : Hid (replyS T c l s = []) := hid (by simp [replyS, HK.out])
            clear h1 h2 h3
            go_wp2_with fail
            go_quiet (fail)
            go_wp2_with fail
            go_quiet (fail)
            go_wp2_with fail
            go_ret2
            unfold AskPost
            rw [HK.out, HR.out]
            exact ⟨none, 0, rfl, RowAt.nil _, (by intro _ _ _ e; (try cases e)), (by (repeat refine Keeps.drewN ?_ _); exact K2.out)⟩
          · have t3 : decide (s < x.s) = false := by simpa using h3
            by_cases h4 : s = x.s
            · have t4 : (s == x.s) = true := by simpa using h4
              have HK : Hid (kindS T c l s = 1) := hid (by rw [KD.out]; simp only [kindE]; rw [if_neg h2, if_neg h1, if_pos h4])
              have HR : Hid (replyS T c l s = x.bs) := hid (by unfold replyS; rw [if_pos HK.out]; exact RD.out)
              clear h1 h2 h3 h4
              have rr := OK.out.row
              rw [HROW.out] at rr
              have RR := hid rr
              clear rr
              go_wp2_with fail
              go_quiet (fail)
              go_wp2_with fail
              go_quiet (fail)
              go_wp2_with fail
              go_quiet (fail)
              go_wp2_with fail
              refine (copyR_any _ _ x.bs (RR.out.keep ((Keeps.refl [] w2).drewN _) (by intro _ _ _ _ _; simp)) (by have := OK.out.fit; omega)).mono ?_
              rintro e w9 ⟨a9, c9, rfl, r9, n9, k9⟩
              have HZ := (K2.out.drewN 0).size
              have FIN : Hid (AskPost w M T c l s (.returned (.tuple #[.int .i64 1, .slice a9 x.bs.length c9])) w9) := hid (by
                unfold AskPost
                rw [HK.out, HR.out]
                refine ⟨a9, c9, rfl, r9, off_new n9 (fun b hb => ?_), (K2.out.trans ((Keeps.refl [] w2).drewN _)).trans k9⟩
                have h1 := HM.out b hb
                have h2 := K2.out.size
                exact Nat.lt_of_lt_of_le h1 h2)
              clear r9 n9 k9 HZ
              go_wp2_with fail
              go_ret2
              exact FIN.out
            · have t4 : (s == x.s) = false := by simpa using h4
              have HK : Hid (kindS T c l s = 0) := hid (by rw [KD.out]; simp only [kindE]; rw [if_neg h2, if_neg h1, if_neg h4, if_neg h3])
              have HR : Hid (replyS T c l s = []) := hid (by simp [replyS, HK.out])
              clear h1 h2 h3 h4
              go_wp2_with fail
              go_quiet (fail)
              go_wp2_with fail
              go_quiet (fail)
              go_wp2_with fail
              go_quiet (fail)
              go_wp2_with fail
              go_ret2
              unfold AskPost
              rw [HK.out, HR.out]
              exact ⟨none, 0, rfl, RowAt.nil _, (by intro _ _ _ e; (try cases e)), (by (repeat refine Keeps.drewN ?_ _); exact K2.out)⟩
  · have hm' : mayS c l s = false := by simpa using hm
    rw [hm'] at MA
    have HK : Hid (kindS T c l s = 2) := hid (by simp [kindS, hm])
    have HR : Hid (replyS T c l s = []) := hid (by simp [replyS, HK.out])
    go_wp2_with (first | (refine wpList_is rfl _ _ (exec_load _ _ _ _ rfl rfl (loadVB8 BA.out)) ?_) | (go_at_call 34; refine (MA.out _).mono ?_; rintro e w2 ⟨rfl, k2⟩; have K2 := hid (KA.out.trans k2); clear k2) | fail)
    go_ret2
    unfold AskPost
    rw [HK.out, HR.out]
    exact ⟨none, 0, rfl, RowAt.nil _, (by intro _ _ _ e; (try cases e)), K2.out⟩
end Go.Proofs.Ytkfebgbgnpdgpaa
