/- name: Parent, of the code and of the reference. -/
import Derived.Test.YtnmiffkflnlanaaNaE
import Derived.Test.YtnmiffkflnlanaaNaF
import Derived.Deep.RegionHeld3
namespace Go.Proofs.Ytnmiffkflnlanaa
open Go.RowKit
set_option maxRecDepth 100000

theorem SplitPost.none {p : List UInt8} {w w' : World} {e : Ending} (h : SplitPost p w e w') (hn : splitN p = none) : e = .returned (.tuple #[.slice none 0 0, .int .i64 12]) ∧ Keeps [] w w' := by
  unfold SplitPost at h
  rw [hn] at h
  exact ⟨h.2, h.1⟩
theorem SplitPost.some {p : List UInt8} {w w' : World} {e : Ending} {l : List (List UInt8)} (h : SplitPost p w e w') (hn : splitN p = some l) : ∃ v, e = .returned (.tuple #[v, .int .i64 0]) ∧ SAt w' v l ∧ Keeps [] w w' := by
  unfold SplitPost at h
  rw [hn] at h
  obtain ⟨k, v, h1, h2⟩ := h
  exact ⟨v, h1, h2, k⟩

def ParentPost (p : List UInt8) (w : World) (e : Ending) (w' : World) : Prop :=
  e = .returned (.tuple #[bstr (parentN p).1, bstr (parentN p).2.1, .int .i64 (parentN p).2.2]) ∧ Keeps [] w w'

theorem parentN_none {p : List UInt8} (h : splitN p = Option.none) : parentN p = ([], [], 12) := by simp [parentN, h]
theorem parentN_root {p : List UInt8} (h : splitN p = Option.some []) : parentN p = ([], [], 1) := by simp [parentN, h]
theorem parentN_some {p : List UInt8} {l : List (List UInt8)} (h : splitN p = Option.some l) (h0 : l ≠ []) : parentN p = (joinN l.dropLast, l.getLastD [], 0) := by simp [parentN, h, h0]

theorem joinR_len : ∀ (l : List (List UInt8)) (b : Nat), (∀ x ∈ l, x.length ≤ b) → (joinR l).length ≤ l.length * (b + 1)
  | [], _, _ => by simp [joinR]
  | x :: l, b, h => by
    have ih := joinR_len l b (fun y hy => h y (List.mem_cons_of_mem _ hy))
    have hx := h x (List.mem_cons_self ..)
    have e : joinR (x :: l) = 47 :: (x ++ joinR l) := by simp [joinR]
    rw [e, List.length_cons, List.length_append, List.length_cons, Nat.succ_mul]
    omega
theorem join_short {l : List (List UInt8)} (h : ∀ x ∈ l, mayN x = true) (h8 : l.length ≤ 8) : (joinR l).length ≤ 104 := by
  have := joinR_len l 12 (fun x hx => (mayN_len (h x hx)).2)
  omega
theorem Keeps.toCell {w w' : World} (k : Keeps [] w w') {b o : Nat} {v : Value} (h : w.cell? ⟨b, o, Option.none⟩ = Option.some v) : w'.cell? ⟨b, o, Option.none⟩ = Option.some v := by
  rw [World.cell?_of_block (w := w) (k.block _ (World.block_lt_of_cell? _ _ h) (by simp))]
  exact h

set_option maxHeartbeats 2000000 in
set_option maxRecDepth 100000 in
theorem parent_any (s : ByteArray) (w : World) (hs : s.size ≤ 140737488351232) :
    Calls Try.prog 51 #[.string s] w (ParentPost s.data.toList w) := by
  cases hsp : splitN s.data.toList with
  | none =>
    have hp := hid (parentN_none hsp)
    have hn := hid hsp
    clear hsp
    go_enter Try.func51, Try.ntmps51
    go_wp2_with (go_at_call 53; refine (split_any _ _ hs).mono ?_)
    intro e w1 hq
    obtain ⟨rfl, hk⟩ := hq.none hn.out
    have HK := hid hk
    clear hk hq
    go_wp2_with fail
    go_ret3
    exact ⟨by rw [hp.out]; rfl, HK.out⟩
  | some L =>
    obtain ⟨hmay, hL8, hjn⟩ := splitN_some hsp
    have hn := hid hsp
    by_cases h0 : L = []
    · subst h0
      have hp := hid (parentN_root hsp)
      clear hsp hmay hL8 hjn
      go_enter Try.func51, Try.ntmps51
      go_wp2_with (go_at_call 53; refine (split_any _ _ hs).mono ?_)
      intro e w1 hq
      obtain ⟨v, rfl, hv, hk⟩ := hq.some hn.out
      obtain ⟨a, c, rfl, hv'⟩ := id hv
      have HK := hid hk
      clear hk hq hv hv'
      go_wp2_with fail
      go_ret3
      exact ⟨by rw [hp.out]; rfl, HK.out⟩
    · have h1 : 1 ≤ L.length := List.length_pos_iff.2 h0
      have hp := hid (parentN_some hsp h0)
      have hjl := hid (join_short hmay hL8)
      have HD := hid (show L.dropLast = L.take (L.length - 1) from List.dropLast_eq_take)
      have HG := hid (show L.getLastD [] = L[L.length - 1]'(by omega) by
        rw [List.getLastD_eq_getLast?, List.getLast?_eq_getElem?, List.getElem?_eq_getElem (by omega)]; rfl)
      clear hsp hmay hjn h0
      go_enter Try.func51, Try.ntmps51
      go_wp2_with (go_at_call 53; refine (split_any _ _ hs).mono ?_)
      intro e w1 hq
      obtain ⟨v, rfl, hv, hk⟩ := hq.some hn.out
      obtain ⟨g, o, c, rfl, hlc, hcell⟩ := hv.open (by omega)
      have d1 := hcell (L.length - 1) (by omega)
      obtain ⟨t, e1, f1⟩ := bstr_of (L[L.length - 1]'(by omega))
      rw [e1] at d1
      have HV := hid hv
      have HT := hid (show .string t = bstr (L.getLastD []) by rw [HG.out, ← e1])
      have HK := hid hk
      have HS := hid d1
      clear hk hq hv hcell d1 e1 f1
      have cut : ∀ W, (Instr.slice 58 (.slice (some ⟨g, o, none⟩) L.length c) none (some (.int .i64 ((L.length : Int) - 1))) none).run Try.prog W = .ok (.slice (some ⟨g, o, none⟩) (L.length - 1) c) W := fun W => by
        rw [show ((L.length : Int) - 1) = ((L.length - 1 : Nat) : Int) by omega]
        exact run_strs_take W _ L.length c (L.length - 1) (by omega)
      have CJ : ∀ W, Keeps [] w1 W → Calls Try.prog 72 #[.slice (some ⟨g, o, none⟩) (L.length - 1) c] W (JoinPost (L.take (L.length - 1)) W) := fun W k =>
        join_any W (.slice (some ⟨g, o, none⟩) (L.length - 1) c) (L.take (L.length - 1)) ((HV.out.keep k).take (L.length - 1) (by omega)) (by have := hjl.out; have := joinR_le L (L.length - 1); omega)
      have HC := hid CJ
      clear CJ
      clear HG
      generalize L.length = n at *
      have b1 : (1 : Int) ≤ n := by omega
      have b2 : (0 : Int) ≤ (n : Int) - 1 := by omega
      have b3 : (n : Int) - 1 < n := by omega
      have b4 : (n : Int) ≤ 8 := by omega
      go_wp2_with fail
      go_region_held3 (fun w' => w'.cell? ⟨g, o + (n - 1), none⟩ = some (.string t)) (first | exact y1 | exact HS.out)
        (first | (go_at_call 72; refine (HC.out _ (Keeps.refl [] w1).drew).mono ?_; rintro e w3 ⟨rfl, hk3⟩
                  have y1 : w3.cell? ⟨g, o + (n - 1), none⟩ = some (.string t) := (hk3.toCell HS.out)
                  have K3 := hid hk3
                  clear hk3))
      all_goals (go_wp2_with fail; go_ret3)
      all_goals exact ⟨by rw [hp.out, HD.out, ← HT.out]; rfl, HK.out.trans' (S' := []) ((Keeps.refl [] w1).drew.trans K3.out) (by simp)⟩

end Go.Proofs.Ytnmiffkflnlanaa
