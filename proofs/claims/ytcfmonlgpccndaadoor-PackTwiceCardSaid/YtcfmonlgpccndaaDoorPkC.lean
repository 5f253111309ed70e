/- pack: the reference's Trim; blocks that came in; the code's mayLie. -/
import Derived.Test.YtcfmonlgpccndaaDoorPkB
import Derived.Test.YtcfmonlgpccndaaDoorPkG11
namespace Go.Proofs.YtcfmonlgpccndaaDoor
open Go.RowKit Go.Shelf
set_option maxRecDepth 100000
set_option linter.unusedSimpArgs false
set_option linter.unusedVariables false

theorem rcopyK_any (w : World) (v : Value) (d : List Int) (k : Nat) (h : RowAt w v (d.take k)) (hk : k = tN d d.length) (hl : d.length ≤ 35184372088832) : Calls Tryd.prog 38 #[v] w (NewPostK w (trimL d)) := by
  subst hk
  obtain ⟨_, _, _, _, _, _, hb, _⟩ := id h
  exact (copy_any w v (d.take (tN d d.length)) h (by rw [List.length_take]; omega)).mono fun e w' h' => h'.new hb
set_option maxHeartbeats 3200000 in
theorem rkTrim_any (w : World) (v : Value) (d : List Int) (h : RowAt w v d) (hl : d.length ≤ 35184372088832) : Calls Tryd.prog 22 #[v] w (NewPostK w (trimL d)) := by
  obtain ⟨a, cap, rfl, _, hcm, _⟩ := id h
  have HR := hid h
  clear h
  go_enter Tryd.func22, Tryd.ntmps22
  go_wp2_with fail
  go_loopw [3] (fun sv wr => ∃ k : Nat, sv = .int .i64 (k : Int) ∧ k ≤ d.length ∧ Hid (tN d k = tN d d.length) ∧ Hid (Keeps [] w wr)) (fun sv _ => (intOf sv).toNat)
  case atStart => exact ⟨d.length, rfl, Nat.le_refl _, hid rfl, hid (Keeps.refl _ _)⟩
  case round =>
    obtain ⟨k, rfl, hk, HT, HK⟩ := hrel
    rcases Nat.eq_zero_or_pos k with rfl | hp
    · have HA := hid (HR.out.keep HK.out (by intro _ _ _ _ _; simp))
      obtain ⟨a2, _, t2, t3, _⟩ := row_take HA.out 0 (by omega)
      have HC := hid (rcopyK_any wr _ d 0 (t3 _ HA.out) HT.out (by omega))
      have t4 : ∀ W, (Instr.slice 31 (.slice a d.length cap) none (some (.int .i64 0)) none).run Tryd.prog W = .ok (.slice a2 0 cap) W := t2
      clear t3 t2
      go_wp2_with fail
      refine HC.out.mono ?_
      rintro e w3 ⟨a3, c3, rfl, r3, n3, k3⟩
      have R3 := hid r3
      have N3 := hid n3
      have K3 := hid k3
      clear r3 n3 k3
      go_wp2_with fail
      go_ret
      exact ⟨a3, c3, rfl, R3.out, fun ad had => Nat.le_trans HK.out.size (N3.out ad had), HK.out.trans K3.out⟩
    · obtain ⟨j, hj⟩ : ∃ j, k = j + 1 := ⟨k - 1, by omega⟩
      have ej : (k : Int) - 1 = (j : Int) := by omega
      have dk : decide ((0 : Int) < (k : Int)) = true := by simp; omega
      have dk2 : decide (0 < k) = true := by simp; omega
      have hjl : j < d.length := by omega
      have HJ := hid hj
      have HKL := hid hk
      clear hj hk hp
      have HA := hid (HR.out.keep HK.out (by intro _ _ _ _ _; simp))
      obtain ⟨a1', c1', hv1, hc1, hc2, hc3, hc4, hc5⟩ := id HA.out
      injection hv1 with e1 _ e3
      subst e1; subst e3
      cases a with
      | none => have := hc3 rfl; omega
      | some ad =>
        have hce := hc5 ad rfl j (.int .u8 (d.getD j 0)) (by rw [List.getElem?_map, List.getD_eq_getElem?_getD, List.getElem?_eq_getElem (by omega)]; rfl)
        obtain ⟨g, off, sp⟩ := ad
        have hsp : sp = none := by
          have hs := World.cell?_spot (hc5 _ rfl 0 (.int .u8 (d.getD 0 0)) (by rw [List.getElem?_map, List.getD_eq_getElem?_getD, List.getElem?_eq_getElem (by omega)]; rfl))
          simpa [Addr.add] using hs
        subst hsp
        rw [Addr.add_lit] at hce
        clear hc1 hc2 hc3 hc4 hc5
        obtain ⟨x, hx⟩ : ∃ x, x = d.getD j 0 := ⟨_, rfl⟩
        rw [← hx] at hce
        have HX := hid hx
        clear hx
        by_cases h0 : x = 0
        · subst h0
          go_wp2_with fail
          go_roundw
          case rel => exact ⟨j, rfl, by omega, hid ((tN_yes HX.out.symm).symm.trans (by rw [← HJ.out]; exact HT.out)), HK⟩
          case measure => have := HJ.out; simp [intOf]; omega
        · have hb : (x == (0 : Int)) = false := by simpa using h0
          have HN := hid h0
          clear h0
          obtain ⟨a2, _, t2, t3, _⟩ := row_take HA.out k HKL.out
          have HC := hid (rcopyK_any wr _ d k (t3 _ HA.out) (by rw [← HT.out, HJ.out, tN_no (by rw [← HX.out]; exact HN.out)]) (by omega))
          clear t3
          go_wp2_with fail
          refine HC.out.mono ?_
          rintro e w3 ⟨a3, c3, rfl, r3, n3, k3⟩
          have R3 := hid r3
          have N3 := hid n3
          have K3 := hid k3
          clear r3 n3 k3
          go_wp2_with fail
          go_ret
          exact ⟨a3, c3, rfl, R3.out, fun ad had => Nat.le_trans HK.out.size (N3.out ad had), HK.out.trans K3.out⟩

/-- A block that came in, in two cells. -/
structure Dr where
  b : Int
  r : Value
  d : List Int
def Dr.cells (x : Dr) : List Value := [.int .i64 x.b, x.r]
def Dr.db (x : Dr) : Db := ⟨x.b, x.d⟩
structure D2At (w : World) (g off : Nat) (x : Dr) : Prop where
  rg : w.rangeAt g off x.cells
  row : RowAt w x.r x.d
  fit : x.d.length ≤ 140737488351232
theorem D2At.keep {w w' : World} {g off : Nat} {x : Dr} (h : D2At w g off x) (k : Keeps [] w w') : D2At w' g off x :=
  ⟨range_keep h.rg k (by simp), h.row.keep k (by intro _ _ _ _ _; simp), h.fit⟩
def DsAt (w : World) (v : Value) (xs : List Dr) : Prop :=
  ∃ (a : Option Addr) (cap : Nat), v = .slice a xs.length cap ∧ xs.length ≤ cap ∧ cap ≤ maxLen ∧ (a = none → cap = 0) ∧
    (xs ≠ [] → ∃ g off, a = some ⟨g, off, none⟩ ∧ g < w.heap.size ∧ ∀ i (h : i < xs.length), D2At w g (off + i * 2) xs[i])
theorem DsAt.keep {w w' : World} {v : Value} {xs : List Dr} (h : DsAt w v xs) (k : Keeps [] w w') : DsAt w' v xs := by
  obtain ⟨a, cap, e, h1, h2, h3, h4⟩ := h
  exact ⟨a, cap, e, h1, h2, h3, fun hne => by
    obtain ⟨g, off, e2, hl, h5⟩ := h4 hne
    exact ⟨g, off, e2, Nat.lt_of_lt_of_le hl k.size, fun i hi => (h5 i hi).keep k⟩⟩
theorem DsAt.shape {w : World} {v : Value} {xs : List Dr} (h : DsAt w v xs) : ∃ a c, v = .slice a xs.length c := by
  obtain ⟨a, cap, rfl, _⟩ := h
  exact ⟨a, cap, rfl⟩
theorem DsAt.few {w : World} {v : Value} {xs : List Dr} (h : DsAt w v xs) : xs.length ≤ maxLen := by
  obtain ⟨a, cap, rfl, h1, h2, _⟩ := h
  omega
theorem DsAt.at {w : World} {a : Option Addr} {n cap : Nat} {xs : List Dr} (h : DsAt w (.slice a n cap) xs) (i : Nat) (hi : i < xs.length) : ∃ g off, a = some ⟨g, off, none⟩ ∧ g < w.heap.size ∧ D2At w g (off + i * 2) xs[i] := by
  obtain ⟨a', cap', hv, h1, h2, h0, h4⟩ := h
  injection hv with e1 e2 e3
  subst e1; subst e2; subst e3
  obtain ⟨g, off, rfl, hg, hc⟩ := h4 (by intro e; rw [e] at hi; simp at hi)
  exact ⟨g, off, rfl, hg, hc i hi⟩
end Go.Proofs.YtcfmonlgpccndaaDoor
