/- The reference's disk: op, Read. -/
import Derived.Test.YtofoeemgplggbaaRfA
namespace Go.Proofs.Ytofoeemgplggbaa
open Go.RowKit

theorem rop_any (w : World) (q : Nat) (s : DS) (vf : Nat → Value) (uf : Nat → List Value) (h : RefIn w q s.ref vf uf) (hf : -9223372036854775808 ≤ s.fuse ∧ s.fuse ≤ 9223372036854775807) (ho : 0 ≤ s.ops ∧ s.ops ≤ 4611686018427387904) :
    Calls Try.prog 37 #[.pointer (some ⟨q, 0, none⟩)] w fun e w' =>
      (s.fuse = 0 → e = .returned (.bool true) ∧ RefIn w' q ({ s with dead := true } : DS).ref vf uf) ∧
      (s.fuse ≠ 0 → e = .returned (.bool false) ∧ RefIn w' q s.spent.ref vf uf) ∧ Keeps [q] w w' := by
  have c4 : w.cell? ⟨q, 4, none⟩ = some (.int .i64 s.ops) := h.c4
  have c5 : w.cell? ⟨q, 5, none⟩ = some (.int .i64 s.fuse) := h.c5
  have c6 : w.cell? ⟨q, 6, none⟩ = some (.bool s.dead) := h.c6
  have f4 := h.fr 4
  have f5 := h.fr 5
  have f6 := h.fr 6
  by_cases h0 : s.fuse = 0
  · have t0 : (s.fuse == 0) = true := by simp [h0]
    go_enter Try.func37, Try.ntmps37
    go_wp2_with fail
    go_ret
    exact ⟨fun _ => ⟨rfl, h.set 6 _ (by simp [rcells, DS.ref]) rfl rfl⟩, fun hn => absurd h0 hn, (Keeps.refl _ _).setCell (Or.inl (by simp)) _⟩
  · have t0 : (s.fuse == 0) = false := by simp [h0]
    by_cases hp : 0 < s.fuse
    · go_enter Try.func37, Try.ntmps37
      go_wp2_with fail
      go_ret
      refine ⟨fun hn => absurd hn h0, fun _ => ⟨rfl, ?_⟩, ((Keeps.refl _ _).setCell (Or.inl (by simp)) _).setCell (Or.inl (by simp)) _⟩
      have h1 := h.set (s' := ({ s with fuse := s.fuse - 1 } : DS).ref) 5 (.int .i64 (s.fuse - 1)) (by simp [rcells, DS.ref]) rfl rfl
      exact h1.set (s' := s.spent.ref) 4 (.int .i64 (s.ops + 1)) (by simp [rcells, DS.ref, DS.spent, hp]) rfl rfl
    · have H0 := hid h0
      clear h0
      go_enter Try.func37, Try.ntmps37
      go_wp2_with fail
      go_ret
      refine ⟨fun hn => absurd hn H0.out, fun _ => ⟨rfl, ?_⟩, (Keeps.refl _ _).setCell (Or.inl (by simp)) _⟩
      exact h.set (s' := s.spent.ref) 4 (.int .i64 (s.ops + 1)) (by simp [rcells, DS.ref, DS.spent]; omega) rfl rfl

/-- The outer row, opened. -/
theorem RowsOwn.open {w : World} {v : Value} {us : List Value} {rs : List (List Int)} (h : RowsOwn w v us rs) (hne : 0 < us.length) :
    ∃ g c, v = .slice (some ⟨g, 0, none⟩) us.length c ∧ us.length ≤ c ∧ ∀ i (hi : i < us.length), w.cell? ⟨g, i, none⟩ = some us[i] := by
  have ho := h.own
  rcases h.own.2 with ⟨_, h0⟩ | ⟨g, c, cur, rfl, _, hgg, hnc, _⟩
  · omega
  · refine ⟨g, c, rfl, hnc, fun i hi => ?_⟩
    have := ho.cells (g := g) rfl i us[i] (List.getElem?_eq_getElem hi)
    rwa [Addr.add_mid, Nat.zero_add] at this

theorem rread_any (w : World) (q : Nat) (s : DS) (vf : Nat → Value) (uf : Nat → List Value) (h : RefIn w q s.ref vf uf) (hc : s.cnt ≤ 4160) (k : Int) :
    Calls Try.prog 23 #[.pointer (some ⟨q, 0, none⟩), .int .i64 k] w fun e w' => ∃ v, e = .returned (.tuple #[v, .int .i64 (readE s k)]) ∧ RowAt w' v (readB s k) ∧ Keeps [] w w' := by
  have c0 := h.c0
  have c6 : w.cell? ⟨q, 6, none⟩ = some (.bool s.dead) := h.c6
  have hlen : (uf 0).length = s.cnt := by rw [h.now.len]; simp
  have NOW := hid h.now
  clear h
  by_cases hd : s.dead = true
  · have e1 : readE s k = 14 := by simp [readE, hd]
    have e2 : readB s k = [] := by simp [readB, hd]
    rw [e1, e2]
    rw [hd] at c6
    go_enter Try.func23, Try.ntmps23
    go_wp2_with fail
    go_ret2
    exact ⟨_, rfl, RowAt.nil _, Keeps.refl _ _⟩
  · have hd' : s.dead = false := by simpa using hd
    rw [hd'] at c6
    by_cases hk0 : 0 ≤ k
    · obtain ⟨i, rfl⟩ := Int.eq_ofNat_of_zero_le hk0
      by_cases hk : i < s.cnt
      · have e1 : readE s (i : Int) = 0 := by simp [readE, hd', hk]
        have e2 : readB s (i : Int) = (s.now i).1 := by simp [readB, hd', hk]
        rw [e1, e2]
        obtain ⟨g, c, e0, hnc, hcs⟩ := NOW.out.open (by omega)
        rw [e0] at c0
        have hci := hcs i (by omega)
        have hri := NOW.out.rows i (by omega)
        have hg : (List.map (fun i => (s.now i).1) (List.range s.cnt)).getD i [] = (s.now i).1 := by
          rw [List.getD_eq_getElem?_getD, List.getElem?_map, List.getElem?_range hk]; rfl
        rw [hg] at hri
        have HRI := hid hri
        clear hcs hri hg
        generalize (uf 0)[i] = ui at hci HRI
        have hlt : (i : Int) < ((uf 0).length : Int) := by omega
        go_enter Try.func23, Try.ntmps23
        go_wp2_with fail
        refine (copy4_any w ui _ HRI.out (by rw [(s.now i).2.1]; omega)).mono ?_
        rintro e w' ⟨a, c2, rfl, ow, kp⟩
        have OW := hid ow
        have KP := hid kp
        clear ow kp
        go_wp2_with fail
        go_ret2
        exact ⟨_, rfl, row_of_own OW.out HRI.out.bytes, KP.out⟩
      · have e1 : readE s (i : Int) = 1 := by simp [readE, hd', hk]
        have e2 : readB s (i : Int) = [] := by simp [readB, hk]
        rw [e1, e2]
        obtain ⟨a, c, e0⟩ := ownsRow_slice NOW.out.own; rw [e0] at c0
        have hlt : ¬ (i : Int) < ((uf 0).length : Int) := by omega
        go_enter Try.func23, Try.ntmps23
        go_wp2_with fail
        go_ret2
        exact ⟨_, rfl, RowAt.nil _, Keeps.refl _ _⟩
    · have e1 : readE s k = 1 := by simp [readE, hd', hk0]
      have e2 : readB s k = [] := by simp [readB, hk0]
      rw [e1, e2]
      obtain ⟨a, c, e0⟩ := ownsRow_slice NOW.out.own; rw [e0] at c0
      go_enter Try.func23, Try.ntmps23
      go_wp2_with fail
      go_ret2
      exact ⟨_, rfl, RowAt.nil _, Keeps.refl _ _⟩

end Go.Proofs.Ytofoeemgplggbaa
