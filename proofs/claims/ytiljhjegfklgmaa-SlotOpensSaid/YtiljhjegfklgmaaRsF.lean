/- The reference's slots: Get. -/
import Derived.Test.YtiljhjegfklgmaaRsE
namespace Go.Proofs.Ytiljhjegfklgmaa
open Go.RowKit Go.Shelf
set_option maxRecDepth 100000
set_option linter.unusedSimpArgs false

/-- The bytes that a Get answers. -/
def getX (hs : List Hd) (s : DS) (first : Nat) (i : Int) : List Int := if getE hs s i = 0 then getB s (first + i.toNat * 8) (headS hs i).held else []

set_option maxHeartbeats 8000000 in
theorem rget_any (w : World) (q p first : Nat) (hs : List Hd) (M : List Nat) (H : RsAt w q p first hs M) (s : DS) (G : List Nat) (D : RefS w p s G) (hok : ∀ h ∈ hs, h.Ok) (fit : first + hs.length * 8 ≤ s.cnt) (hc : s.cnt ≤ 4160) (i : Int) :
    Calls Try.prog 32 #[.pointer (some ⟨q, 0, none⟩), .int .i64 i] w fun e w' => ∃ v, e = .returned (.tuple #[v, .int .i64 (getE hs s i)]) ∧ RowAt w' v (getX hs s first i) ∧ Keeps [] w w' := by
  obtain ⟨Lv, rs, R, ehs, rfl⟩ := H
  have hlen : hs.length = rs.length := by rw [ehs, List.length_map]
  obtain ⟨la, lc, rfl⟩ := R.shape
  have c2 := R.c2
  have c0 := R.c0
  have c1 := R.c1
  have RR := hid R
  have DD := hid D
  have d6 := D.cells.2.1
  rcases hasS_cases hs i with hno | ⟨k, rfl, hk, hyes⟩
  · have he : getE hs s i = 1 := by unfold getE takeE; rw [if_neg (by simp [hno]), if_neg (by simp [hno])]
    have hx : getX hs s first i = [] := by unfold getX; rw [if_neg (by rw [he]; omega)]
    rw [he, hx]
    simp [hasS] at hno
    have hno2 : i < 0 ∨ (rs.length : Int) ≤ i := by omega
    clear R D ehs hok
    by_cases h0 : i < 0
    · go_enter Try.func32, Try.ntmps32
      go_wp2_with fail
      go_ret2
      exact ⟨_, rfl, RowAt.nil _, Keeps.refl _ _⟩
    · have h1 : (rs.length : Int) ≤ i := by omega
      go_enter Try.func32, Try.ntmps32
      go_wp2_with fail
      go_ret2
      exact ⟨_, rfl, RowAt.nil _, Keeps.refl _ _⟩
  · have hkr : k < rs.length := by omega
    have hkr' : (k : Int) < (rs.length : Int) := by omega
    obtain ⟨g, c, eL, d0, d1, d2, hgl⟩ := R.at k hkr
    injection eL with e1 _ e3
    subst e1; subst e3
    have hhk : headS hs (k : Int) = rs[k].hd := by rw [headS_at hk]; subst ehs; rw [List.getElem_map]
    have hk40 : rs[k].n ≤ 448 := by
      have := (hok _ (by rw [ehs]; exact List.mem_map.2 ⟨_, List.getElem_mem hkr, rfl⟩ : rs[k].hd ∈ hs)).held
      exact this
    have hte : takeE hs (k : Int) = if rs[k].u then 0 else 6 := by unfold takeE; rw [if_pos hyes]; unfold usedS; rw [hhk]; rfl
    have hge : getE hs s (k : Int) = if rs[k].u then deadE s else 6 := by
      unfold getE
      rw [hte]
      cases rs[k].u <;> simp
    have hgx : getX hs s first (k : Int) = if rs[k].u ∧ s.dead = false then getB s (first + k * 8) rs[k].n else [] := by
      unfold getX
      rw [hge, hhk]
      cases hdd : s.dead <;> cases rs[k].u <;> simp [deadE, hdd, Rh.hd]
    rw [hge, hgx]
    generalize rs[k] = r at *
    obtain ⟨u, kv, key, n⟩ := r
    simp only at d0 d2 hk40 ⊢
    clear hge hgx hte hhk R D ehs hok d1
    cases u with
    | false =>
      go_enter Try.func32, Try.ntmps32
      go_wp2_with fail
      go_ret2
      exact ⟨_, rfl, RowAt.nil _, Keeps.refl _ _⟩
    | true =>
      cases hdd : s.dead with
      | true =>
        rw [hdd] at d6
        go_enter Try.func32, Try.ntmps32
        go_wp2_with fail
        go_ret2
        exact ⟨_, by simp [deadE, hdd], RowAt.nil _, Keeps.refl _ _⟩
      | false =>
        rw [hdd] at d6
        have hb : 0 + first + k * 8 ≤ 4160 := by omega
        go_enter Try.func32, Try.ntmps32
        go_wp2_with fail
        obtain ⟨m0, hm0⟩ : ∃ m0 : Nat, m0 = first + k * 8 + 1 := ⟨_, rfl⟩
        have hmi : (first : Int) + (k : Int) * 8 + 1 = (m0 : Int) := by omega
        rw [hmi]
        have HM0 := hid hm0
        have hfit : m0 + 7 ≤ s.cnt := by omega
        clear hm0 hmi hb fit
        go_loopw [6, 8] (fun o v wr => ∃ (j : Nat) (ba : Option Addr) (bc : Nat), v = .int .i64 (j : Int) ∧ o = .slice ba (j * 64) bc ∧ j ≤ nch n ∧ Hid (wr.ownsRow w.heap.size 5 1 (.slice ba (j * 64) bc) (j * 64) ((imageL (fun x => s.now (m0 + x)) j).map (Value.int .u8))) ∧ Hid (Keeps [] w wr)) (fun _ v _ => n + 64 - (intOf v).toNat)
        case atStart => exact ⟨0, none, 0, rfl, rfl, by omega, hid (World.ownsRow_nil _ _ _ _), hid (Keeps.refl _ _)⟩
        case round =>
          obtain ⟨j, ba, bc, rfl, rfl, hj, OW, KK⟩ := hrel
          by_cases hlt : j * 64 < n
          · have hlt' : (j : Int) * 64 < (n : Int) := by omega
            have c2r := keeps_cell4 KK.out c2 (by simp)
            have c0r := keeps_cell4 KK.out c0 (by simp)
            have d0r := keeps_cell4 KK.out d0 (by simp)
            have d2r := keeps_cell4 KK.out d2 (by simp)
            obtain ⟨g2, x2, sa, sc, e0, e1, row, -, -⟩ := (DD.out.keep KK.out (by simp)).sector (m0 + j) (by unfold nch at hj; omega)
            have hrl := (s.now (m0 + j)).2.1
            have HIM : Hid (imageL (fun x => s.now (m0 + x)) (j + 1) = imageL (fun x => s.now (m0 + x)) j ++ (s.now (m0 + j)).1) := hid (imageL_succ _ _)
            generalize (s.now (m0 + j)).1 = zr at *
            have ROW := hid row
            have RL := hid hrl
            have hnl : j * 64 + zr.length ≤ 5000 := by unfold nch at hj; omega
            have KS := hid KK.out.size
            clear row hrl
            obtain ⟨i0, hi, hz0, hz1, hz2⟩ := info_parts info5
            have HI := hid hi
            clear hi
            go_wp2_with (first | (at_builtin; refine wpList_append_row rfl _ _ 31 rfl w.heap.size 5 i0 (.int .u8 0) Try.underlying31 HI.out hz0 hz1 hz2 rfl (.slice ba (j * 64) bc) (j * 64) ((imageL (fun x => s.now (m0 + x)) j).map (Value.int .u8)) rfl OW.out _ zr rfl ROW.out (by omega) KS.out ?_; intro a2 c2 w1 k1 k2 k3; rw [RL.out] at k1 k3 ⊢) | fail)
            go_roundw
            case rel => exact ⟨j + 1, a2, c2, by go_num, by rw [Nat.add_mul], by unfold nch; omega, hid (by rw [HIM.out, List.map_append, Nat.add_mul]; exact k1.out), hid (KK.out.grown k2.out (fun x hx => Or.inr ((OW.out.lt x hx).1)))⟩
            case measure => simp [intOf]; omega
          · have hje : j = nch n := by unfold nch at hj ⊢; omega
            subst hje
            have hlt' : ¬ (nch n : Int) * 64 < (n : Int) := by omega
            have c2r := keeps_cell4 KK.out c2 (by simp)
            have d2r := keeps_cell4 KK.out d2 (by simp)
            have hn7 : nch n ≤ 7 := by unfold nch; omega
            have hnle : n ≤ nch n * 64 := by unfold nch; omega
            have ROWB : Hid (RowAt wr (.slice ba (nch n * 64) bc) (imageL (fun x => s.now (m0 + x)) (nch n))) := hid (row_of_own64 OW.out (imageL_len _ _) (imageL_byte _ _))
            have hcap : n ≤ bc := by obtain ⟨_, _, e, h1, h2, _⟩ := ROWB.out; injection e with _ e2 e3; omega
            have hcapm : bc ≤ maxLen := by obtain ⟨_, _, e, h1, h2, _⟩ := ROWB.out; injection e with _ e2 e3; omega
            have TK : Hid (RowAt wr (.slice ba n bc) ((imageL (fun x => s.now (m0 + x)) (nch n)).take n)) := hid (by
              exact row_take4 (by rw [imageL_len]; exact ROWB.out) n (by rw [imageL_len]; exact hnle))
            have GB : Hid ((imageL (fun x => s.now (m0 + x)) (nch n)).take n = getB s (first + k * 8) n) := hid (by
              have h7 : nch n + (7 - nch n) = 7 := by omega
              unfold getB
              rw [← h7, imageL_take _ _ _ hnle, HM0.out])
            unfold maxLen at hcapm
            go_wp2_with fail
            have hgl := (getB_byte s (first + k * 8) n)
            have hgn : (getB s (first + k * 8) n).length = n := by rw [← GB.out, List.length_take, imageL_len]; omega
            rw [GB.out] at TK
            refine (copy4_any wr _ _ TK.out (by rw [hgn]; omega)).mono ?_
            rintro e w5 ⟨a5, c5, rfl, ow5, k5⟩
            have R5 : Hid (RowAt w5 (.slice a5 (getB s (first + k * 8) n).length c5) (getB s (first + k * 8) n)) := hid (row_of_own64 ow5 rfl hgl)
            have K5 := hid (KK.out.trans k5)
            clear ow5 k5 hgl
            go_wp2_with fail
            go_ret2
            exact ⟨.slice a5 n c5, by simp [deadE, hdd], by have h9 := R5.out; rw [hgn] at h9; simpa using h9, K5.out⟩
end Go.Proofs.Ytiljhjegfklgmaa
