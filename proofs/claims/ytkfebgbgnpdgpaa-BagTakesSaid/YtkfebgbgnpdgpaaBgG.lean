/- bag: the walk of Put. -/
import Derived.Test.YtkfebgbgnpdgpaaBgF
namespace Go.Proofs.Ytkfebgbgnpdgpaa
open Go.RowKit Go.Shelf
set_option maxRecDepth 100000

def PutPost7 (T E : TypeId) (w : World) (p : Nat) (X : List Nat) (v : Value) (most : Int) (ms : List Mg) (m : Mg) (e : Ending) (w' : World) : Prop :=
  ((ms.length : Int) = most ∧ e = .returned (.bool false) ∧ Keeps [] w w') ∨
  ((ms.length : Int) < most ∧ e = .returned (.bool true) ∧ ∃ X' v' m', BagAt T E w' p X' v' most (ms ++ [m']) ∧ con m' = con m ∧ Keeps (bfoot p X v) w w' ∧ Fr w (bfoot p X v) (bfoot p X' v'))

/-- What the append of Put makes. -/
theorem put_made {E T : TypeId} (mt : MT E T) {w : World} {X : List Nat} {a0 : Option Addr} {n0 c0 : Nat} {ms : List Mg} (h : Own E w 0 X (.slice a0 n0 c0) ms) {g : Nat} {a1 : Option Addr} {c1 : Nat} {m : Mg} (hs : Own E w w.heap.size [g] (.slice a1 1 c1) [m] ∨ MsgsAt w [g] (.slice a1 1 c1) [m]) (hg : g < w.heap.size) (hn : ∀ k, (Value.slice a0 n0 c0).ownBlock = some k → k ≠ g) (hl : ms.length ≤ 64) (ty : TypeId) :
    ∃ a' c' w', (Builtin.append_ #[T, T] ty #[.slice a0 ms.length ms.length, .slice a1 1 c1]).run Try.prog w = .ok (.slice a' (ms.length + 1) c') w' ∧ Own E w' w.heap.size (g :: X) (.slice a' (ms.length + 1) c') (ms ++ [m]) ∧ Keeps [] w w' := by
  have hs' : MsgsAt w [g] (.slice a1 1 c1) [m] := by
    rcases hs with h | h
    · exact h.at
    · exact h
  have h2 : Own E w 0 (g :: X) (.slice a0 n0 c0) ms := h.mono (fun b hb => List.mem_cons_of_mem _ hb) (fun k hk hm => by
    rcases List.mem_cons.1 hm with hm | hm
    · exact hn k hk hm
    · exact h.off k hk hm) (fun k hk => by
    rcases List.mem_cons.1 hk with hk | hk
    · omega
    · exact h.lt k hk)
  obtain ⟨aa, cc, e, r1, r2, r3, r4, r5⟩ := hs'
  have hs2 : MsgsAt w (g :: X) (.slice a1 1 c1) [m] := ⟨aa, cc, e, r1, r2, r3, fun x hx => (r4 x hx).mono (by simp), r5⟩
  obtain ⟨a', c', w', hr, ho, hk⟩ := append_cut mt h2 a1 c1 (es := [m]) hs2 (by simp) (by simp; omega) ty
  exact ⟨a', c', w', hr, ho, hk⟩

theorem bag_stored {T E : TypeId} {w w1 : World} {p : Nat} {X X' : List Nat} {v v' : Value} {most : Int} {ms ms' : List Mg} (H : BagAt T E w1 p X v most ms) (k : Keeps [] w w1) (hp : p < w.heap.size) (o : Own E w1 w.heap.size X' v' ms') (hX : ∀ b ∈ X', b ∈ X ∨ w.heap.size ≤ b) (hl : (ms'.length : Int) ≤ most) :
    BagAt T E (w1.setCell ⟨p, 1, none⟩ v') p X' v' most ms' ∧ Keeps (bfoot p X v) w (w1.setCell ⟨p, 1, none⟩ v') ∧ Fr w (bfoot p X v) (bfoot p X' v') := by
  refine ⟨H.put (o.base (fun b hb => Nat.zero_le _)) (fun hm => ?_) (fun e => ?_) hl, ?_, fun b hb => ?_⟩
  · rcases hX p hm with h | h
    · exact H.pX h
    · omega
  · have := (o.blk p e).1; omega
  · exact (k.mono (S' := bfoot p X v) (by simp)).setCell (p := ⟨p, 1, none⟩) (Or.inl (mem_bfoot.2 (Or.inl rfl))) _
  · rcases mem_bfoot.1 hb with hb | hb | hb
    · exact Or.inl (mem_bfoot.2 (Or.inl hb))
    · exact Or.inr (o.blk b hb).1
    · rcases hX b hb with h | h
      · exact Or.inl (mem_bfoot.2 (Or.inr (Or.inr h)))
      · exact Or.inr h

set_option maxHeartbeats 3200000 in
theorem bPut_any (w : World) (p : Nat) (X : List Nat) (v : Value) (most : Int) (ms : List Mg) (H : BagAt 75 33 w p X v most ms) (m : Mg) (Y : List Nat) (hm : MgOk w Y m) :
    Calls Try.prog 12 #[.pointer (some ⟨p, 0, none⟩), mgV m] w (PutPost7 75 33 w p X v most ms m) := by
  obtain ⟨ra, rc, hrow, _⟩ := hm.row
  have fits := H.fits
  have m2 := H.m2
  have HM := hid hm
  have ka := (Keeps.refl [] w).alloc (.cells #[.int .i64 m.f, .int .i64 m.t, .slice ra m.bs.length rc] 33)
  have b1 := heap_alloc_new w (.cells #[.int .i64 m.f, .int .i64 m.t, .slice ra m.bs.length rc] 33)
  have HA := hid (H.later ka)
  have za : (w.alloc (.cells #[.int .i64 m.f, .int .i64 m.t, .slice ra m.bs.length rc] 33)).heap.size = w.heap.size + 1 := by simp
  have KA := hid ka
  have B1 := hid b1
  have ZA := hid za
  have MA := hid (hm.keep ka (by simp))
  have HROW := hid hrow
  have LT := hid H.lt
  unfold mgV
  rw [hrow]
  clear hm H ka b1 za hrow
  go_enter Try.func12, Try.ntmps12
  go_wp2_with fail
  generalize w.alloc (.cells #[.int .i64 m.f, .int .i64 m.t, .slice ra m.bs.length rc] 33) = wA at KA B1 HA ZA MA ⊢
  refine (bLen_any wA p X v most ms HA.out).mono ?_
  rintro e _ ⟨rfl, rfl⟩
  have c0 := HA.out.c0
  by_cases hfull : (ms.length : Int) = most
  · have hb : ((ms.length : Int) == most) = true := by simpa using hfull
    go_wp2_with (first | (go_at_call 35; refine (bMade_any wA p X v most ms HA.out).mono ?_; rintro e _ ⟨rfl, rfl⟩) | fail)
    go_ret
    exact Or.inl ⟨hfull, rfl, KA.out⟩
  · have hb : ((ms.length : Int) == most) = false := by simpa using hfull
    have HNF := hid hfull
    obtain ⟨a0, cp, hv⟩ := HA.out.own.shape
    subst hv
    clear hfull
    go_wp2_with (first | (go_at_call 35; refine (bMade_any wA p X _ most ms HA.out).mono ?_; rintro e _ ⟨rfl, rfl⟩) | fail)
    clear hb c0
    have CUT := hid (msgs_cut mtB HA.out.own.at ms.length (Nat.le_refl _)).1
    refine wp_region_any (by kernel_rfl) (wpAny_of_late (late := [14]) (S := KpS [] wA.heap.size wA.drew) _ _ _ _ ?_)
    change wpAnyT _ _ _ _ _ _ _ _ _ wA.drew
    have cP : ∀ W1, KpS [] wA.heap.size wA.drew W1 → W1.cell? ⟨p, 1, none⟩ = some (.slice a0 ms.length cp) := fun W1 h => h.cell (by rw [World.cell?_drew]; exact HA.out.c1) HA.out.lt (by simp)
    have cM : ∀ W1, KpS [] wA.heap.size wA.drew W1 → W1.heap[w.heap.size]? = some (.cells #[.int .i64 m.f, .int .i64 m.t, .slice ra m.bs.length rc] 33 (0, 0)) := fun W1 h => (h.block _ (by have := ZA.out; omega) (by simp)).trans B1.out
    refine late_take (i := 0) (v := .pointer (some ⟨p, 0, none⟩)) rfl (by kernel_rfl) (by kernel_rfl) (by kernel_rfl) (by kernel_rfl) (by kernel_rfl) (fun _ _ _ h => h) rfl (fun W1 hW1 => rfl) (KpS.refl _ _ _) ?_
    simp only [Act.put, List.setIfInBounds_toArray, List.set_cons_zero, List.set_cons_succ]
    refine late_take (i := 1) (v := .pointer (some ⟨p, 0, none⟩)) rfl (by kernel_rfl) (by kernel_rfl) (by kernel_rfl) (by kernel_rfl) (by kernel_rfl) (fun _ _ _ h => h) rfl (fun W1 hW1 => rfl) (KpS.refl _ _ _) ?_
    simp only [Act.put, List.setIfInBounds_toArray, List.set_cons_zero, List.set_cons_succ]
    refine late_take (i := 2) (v := .pointer (some ⟨p, 0, none⟩)) rfl (by kernel_rfl) (by kernel_rfl) (by kernel_rfl) (by kernel_rfl) (by kernel_rfl) (fun _ _ _ h => h) rfl (fun W1 hW1 => by go_simp) (KpS.refl _ _ _) ?_
    simp only [Act.put, List.setIfInBounds_toArray, List.set_cons_zero, List.set_cons_succ]
    refine late_take (i := 3) (v := .pointer (some ⟨p, 1, none⟩)) rfl (by kernel_rfl) (by kernel_rfl) (by kernel_rfl) (by kernel_rfl) (by kernel_rfl) (fun _ _ _ h => h) rfl (fun W1 hW1 => by go_simp) (KpS.refl _ _ _) ?_
    simp only [Act.put, List.setIfInBounds_toArray, List.set_cons_zero, List.set_cons_succ]
    refine late_take (i := 4) (v := .slice a0 ms.length cp) rfl (by kernel_rfl) (by kernel_rfl) (by kernel_rfl) (by kernel_rfl) (by kernel_rfl) (fun _ _ _ h => h) rfl (fun W1 hW1 => exec_load _ _ _ _ rfl rfl (run_loadCell W1 _ _ _ (cP W1 hW1) (agg_no _ (by kernel_rfl)))) (KpS.refl _ _ _) ?_
    simp only [Act.put, List.setIfInBounds_toArray, List.set_cons_zero, List.set_cons_succ]
    refine late_take (i := 5) (v := .int .i64 ms.length) rfl (by kernel_rfl) (by kernel_rfl) (by kernel_rfl) (by kernel_rfl) (by kernel_rfl) (fun _ _ _ h => h) rfl (fun W1 hW1 => rfl) (KpS.refl _ _ _) ?_
    simp only [Act.put, List.setIfInBounds_toArray, List.set_cons_zero, List.set_cons_succ]
    refine late_take (i := 6) (v := .int .i64 ms.length) rfl (by kernel_rfl) (by kernel_rfl) (by kernel_rfl) (by kernel_rfl) (by kernel_rfl) (fun _ _ _ h => h) rfl (fun W1 hW1 => rfl) (KpS.refl _ _ _) ?_
    simp only [Act.put, List.setIfInBounds_toArray, List.set_cons_zero, List.set_cons_succ]
    refine late_take (i := 7) (v := .slice a0 ms.length ms.length) rfl (by kernel_rfl) (by kernel_rfl) (by kernel_rfl) (by kernel_rfl) (by kernel_rfl) (fun _ _ _ h => h) rfl (fun W1 hW1 => exec_sliceR _ _ _ _ _ rfl (CUT.out W1)) (KpS.refl _ _ _) ?_
    simp only [Act.put, List.setIfInBounds_toArray, List.set_cons_zero, List.set_cons_succ]
    refine late_take (i := 8) (v := .agg #[.int .i64 m.f, .int .i64 m.t, .slice ra m.bs.length rc]) rfl (by kernel_rfl) (by kernel_rfl) (by kernel_rfl) (by kernel_rfl) (by kernel_rfl) (fun _ _ _ h => h) rfl (fun W1 hW1 => exec_load _ _ _ _ rfl rfl (loadB (row_block3 (cM W1 hW1)).1 (row_block3 (cM W1 hW1)).2.1 (row_block3 (cM W1 hW1)).2.2.1)) (KpS.refl _ _ _) ?_
    simp only [Act.put, List.setIfInBounds_toArray, List.set_cons_zero, List.set_cons_succ]
    refine late_do (i := 9) (by kernel_rfl) rfl rfl (wp_value (exec_oneMg mtB _ _ _ _ _ _ rfl rfl) ?_)
    have kB : Keeps [] wA (wA.drew.alloc (.cells #[.int .i64 m.f, .int .i64 m.t, .slice ra m.bs.length rc] 33)) := (Keeps.refl [] wA).drew.alloc _
    have sB : KpS [] wA.heap.size wA.drew (wA.drew.alloc (.cells #[.int .i64 m.f, .int .i64 m.t, .slice ra m.bs.length rc] 33)) := (KpS.refl _ _ _).alloc (by simp) _
    have oB := one_msgs (E := 33) (MA.out.keep ((Keeps.refl [] wA).drew) (by simp)) HROW.out
    refine ⟨Or.inr sB, ?_⟩
    simp only [Act.put, List.setIfInBounds_toArray, List.set_cons_zero, List.set_cons_succ]
    generalize wA.drew.alloc (.cells #[.int .i64 m.f, .int .i64 m.t, .slice ra m.bs.length rc] 33) = wB at kB sB oB ⊢
    refine late_do (i := 10) (by kernel_rfl) rfl rfl (wp_enter (f := 36) (args := #[.slice (some ⟨wA.drew.heap.size, 0, none⟩) 1 1]) (by go_simp) (bCopied_any wB _ _ [m] oB (by simp)) ?_)
    rintro e wC ⟨a1, c1, g, ms1, rfl, o1, hc1, hg1, k1⟩
    obtain ⟨m', rfl, hcm⟩ : ∃ m', ms1 = [m'] ∧ con m' = con m := by
      match ms1, hc1 with
      | [z], hc => exact ⟨z, rfl, by simpa using hc⟩
    have sC : KpS [] wA.heap.size wA.drew wC := sB.keeps k1 (by simpa using kB.size) (by simp)
    refine ⟨_, rfl, Or.inr sC, ?_⟩
    simp only [Act.put, List.setIfInBounds_toArray, List.set_cons_zero, List.set_cons_succ]
    have kC := kB.trans k1
    have hC := HA.out.later kC
    have hzB := kB.size
    obtain ⟨a2, c2, wD, run2, o2, k2⟩ := put_made mtB hC.own (g := g) (Or.inr o1.at) (o1.lt g (by simp)) (fun k hk e => by have := (HA.out.own.blk k hk).2; omega) (by omega) 39
    refine late_do (i := 11) (by kernel_rfl) rfl rfl (wp_value (exec_appendT 39 _ _ rfl rfl rfl run2) ?_)
    refine ⟨Or.inr (sC.keeps k2 (by have := kC.size; omega) (by simp)), ?_⟩
    simp only [Act.put, List.setIfInBounds_toArray, List.set_cons_zero, List.set_cons_succ]
    have sD := sC.keeps k2 (by have := kC.size; omega) (by simp)
    refine late_take (i := 12) (v := .pointer (some ⟨p, 0, none⟩)) rfl (by kernel_rfl) (by kernel_rfl) (by kernel_rfl) (by kernel_rfl) (by kernel_rfl) (fun _ _ _ h => h) rfl (fun W1 hW1 => by go_simp) (sD) ?_
    simp only [Act.put, List.setIfInBounds_toArray, List.set_cons_zero, List.set_cons_succ]
    refine late_take (i := 13) (v := .pointer (some ⟨p, 1, none⟩)) rfl (by kernel_rfl) (by kernel_rfl) (by kernel_rfl) (by kernel_rfl) (by kernel_rfl) (fun _ _ _ h => h) rfl (fun W1 hW1 => by go_simp) (sD) ?_
    simp only [Act.put, List.setIfInBounds_toArray, List.set_cons_zero, List.set_cons_succ]
    have hD := hC.later k2
    have cd := hD.c1
    have fd := hD.f1
    refine late_do (i := 14) (by kernel_rfl) rfl rfl (wp_stored (w' := wD.setCell ⟨p, 1, none⟩ (.slice a2 (ms.length + 1) c2)) (by go_simp) ⟨Or.inl rfl, ?_⟩)
    simp only [Act.put]
    refine wpAnyT_done (by kernel_rfl) ?_ _
    have hz : w.heap.size ≤ wC.heap.size := by have := KA.out.size; have := kC.size; omega
    have R := hid (bag_stored hD (KA.out.trans (kC.trans k2)) LT.out (o2.base (fun b hb => by have := (o2.blk b hb).1; omega)) (X' := g :: X) (fun b hb => by
      rcases List.mem_cons.1 hb with rfl | hb
      · right; have := KA.out.size; omega
      · exact Or.inl hb) (by simp; have := HNF.out; omega))
    have HCM := hid hcm
    have LLT : Hid ((ms.length : Int) < most) := hid (by have := HNF.out; omega)
    clear cP cM kB sB oB o1 hc1 k1 sC kC hC o2 k2 run2 hD cd fd hcm
    go_wp2_with fail
    go_ret
    exact Or.inr ⟨LLT.out, rfl, g :: X, _, m', R.out.1, HCM.out, R.out.2.1, R.out.2.2⟩
end Go.Proofs.Ytkfebgbgnpdgpaa
