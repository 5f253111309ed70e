/- bag: the walk of the reference's Put. -/
import Derived.Test.YtehbibimfjipiaaBgL
import Derived.Test.YtehbibimfjipiaaKitC
namespace Go.Proofs.Ytehbibimfjipiaa
open Go.RowKit Go.Shelf
set_option maxRecDepth 100000

/-- The reference's row with one more, put into its bag. -/
theorem rbag_stored {w w1 wA : World} {p : Nat} {X : List Nat} {v v' : Value} {most : Int} {ms ms' : List Mg} {g : Nat} (H : BagAt 48 38 wA p X v most ms) (o : Own 38 w1 0 (g :: X) v' ms') (k : Keeps v.ownBlock.toList wA w1) (k0 : Keeps [] w wA) (hw : ∀ b ∈ bfoot p X v, b < w.heap.size) (hg : w.heap.size ≤ g)
    (hn : v'.ownBlock = v.ownBlock ∨ ∀ b, v'.ownBlock = some b → w.heap.size ≤ b) (hl : (ms'.length : Int) ≤ most) :
    BagAt 48 38 (w1.setCell ⟨p, 1, none⟩ v') p (g :: X) v' most ms' ∧ Keeps (bfoot p X v) w (w1.setCell ⟨p, 1, none⟩ v') ∧ Fr w (bfoot p X v) (bfoot p (g :: X) v') := by
  have hp : p < w.heap.size := hw p (mem_bfoot.2 (Or.inl rfl))
  have hpv : p ∉ v.ownBlock.toList := by
    have := H.ne
    cases hv : v.ownBlock with
    | none => simp
    | some b => rw [hv] at this; simp; intro e; subst e; exact this rfl
  have hb1 : w1.heap[p]? = some (.cells #[.int .i64 most, v] 48 (0, 0)) := (k.block p H.lt hpv).trans H.blk
  have hpX : p ∉ g :: X := fun hm => by
    rcases List.mem_cons.1 hm with hm | hm
    · omega
    · exact H.pX hm
  have hnv : v'.ownBlock ≠ some p := fun e => by
    rcases hn with hn | hn
    · exact H.ne (hn ▸ e)
    · have := hn p e; omega
  have ks : Keeps [p] w1 (w1.setCell ⟨p, 1, none⟩ v') := (Keeps.refl [p] w1).setCell (Or.inl (by simp)) v'
  refine ⟨⟨?_, o.keep ks (fun b hb hm => by simp at hm; subst hm; exact hpX hb) (fun b hb hm => by simp at hm; subst hm; exact hnv hb), hnv, hpX, H.m1, H.m2, hl⟩, ?_, fun b hb => ?_⟩
  · have := heap_setCell_same w1 p 1 _ 48 v' hb1
    simpa using this
  · refine ((k0.mono (S' := bfoot p X v) (by simp)).trans ?_).trans (ks.mono (fun i _ hm => by simp at hm; subst hm; exact mem_bfoot.2 (Or.inl rfl)))
    exact k.mono (fun i _ hm => mem_bfoot.2 (Or.inr (Or.inl (by simpa using hm))))
  · rcases mem_bfoot.1 hb with hb | hb | hb
    · exact Or.inl (mem_bfoot.2 (Or.inl hb))
    · rcases hn with hn | hn
      · exact Or.inl (mem_bfoot.2 (Or.inr (Or.inl (hn ▸ hb))))
      · exact Or.inr (hn b hb)
    · rcases List.mem_cons.1 hb with hb | hb
      · exact Or.inr (by omega)
      · exact Or.inl (mem_bfoot.2 (Or.inr (Or.inr hb)))

/-- A message with a copy of its bytes. -/
def reMg (m : Mg) (row : Value) : Mg := ⟨m.f, m.t, row, m.bs⟩
theorem con_reMg (m : Mg) (row : Value) : con (reMg m row) = con m := rfl

theorem ok_reMg {w w1 : World} {Y : List Nat} {m : Mg} (hm : MgOk w Y m) {B : Nat} {a : Option Addr} {c : Nat} (ho : w1.ownsRow B 5 1 (.slice a m.bs.length c) m.bs.length (m.bs.map (Value.int .u8))) : MgOk w1 (Value.slice a m.bs.length c).ownBlock.toList (reMg m (.slice a m.bs.length c)) :=
  ⟨row_of_own ho hm.row.bytes, fun ad n c e _ => by injection e with e _ _; subst e; simp [Value.ownBlock], hm.fit, hm.b0, hm.b1⟩

set_option maxHeartbeats 3200000 in
theorem rbPut_any (w : World) (p : Nat) (X : List Nat) (v : Value) (most : Int) (ms : List Mg) (H : BagAt 48 38 w p X v most ms) (m : Mg) (Y : List Nat) (hm : MgOk w Y m) :
    Calls Try.prog 12 #[.pointer (some ⟨p, 0, none⟩), mgV m] w (PutPost7 48 38 w p X v most ms m) := by
  obtain ⟨ra, rc, hrow, _⟩ := hm.row
  have fits := H.fits
  have m2 := H.m2
  have hfit := hm.fit
  have ka := (Keeps.refl [] w).alloc (.cells #[.int .i64 m.f, .int .i64 m.t, .slice ra m.bs.length rc] 38)
  have b1 := heap_alloc_new w (.cells #[.int .i64 m.f, .int .i64 m.t, .slice ra m.bs.length rc] 38)
  have HA := hid (H.later ka)
  have za : (w.alloc (.cells #[.int .i64 m.f, .int .i64 m.t, .slice ra m.bs.length rc] 38)).heap.size = w.heap.size + 1 := by simp
  have KA := hid ka
  have B1 := hid b1
  have ZA := hid za
  have MA := hid (hm.keep ka (by simp))
  have HROW := hid hrow
  have HLT := hid H.ltF
  unfold mgV
  rw [hrow]
  obtain ⟨a0, cp, hv⟩ := H.own.shape
  subst hv
  clear hm H ka b1 za hrow
  go_enter Try.func12, Try.ntmps12
  go_wp2_with fail
  generalize w.alloc (.cells #[.int .i64 m.f, .int .i64 m.t, .slice ra m.bs.length rc] 38) = wA at KA B1 HA ZA MA ⊢
  refine wp_region_any (by kernel_rfl) (wpAny_of_held (S := KpS [] wA.heap.size wA.drew) _ _ _ _ ?_)
  change wpAnyH _ _ _ _ _ _ _ _ wA.drew
  have q0 : ∀ W1, KpS [] wA.heap.size wA.drew W1 → W1.cell? ⟨p, 0, none⟩ = some (.int .i64 most) := fun W1 h => h.cell (by rw [World.cell?_drew]; exact HA.out.c0) HA.out.lt (by simp)
  have q1 : ∀ W1, KpS [] wA.heap.size wA.drew W1 → W1.cell? ⟨p, 1, none⟩ = some (.slice a0 ms.length cp) := fun W1 h => h.cell (by rw [World.cell?_drew]; exact HA.out.c1) HA.out.lt (by simp)
  refine held_take (i := 0) (v := .pointer (some ⟨p, 0, none⟩)) rfl (by kernel_rfl) (by kernel_rfl) (by kernel_rfl) (fun _ _ _ h => h) rfl (fun W1 hW1 => rfl) (KpS.refl _ _ _) ?_
  simp only [Act.put, List.setIfInBounds_toArray, List.set_cons_zero, List.set_cons_succ]
  refine held_take (i := 1) (v := .pointer (some ⟨p, 0, none⟩)) rfl (by kernel_rfl) (by kernel_rfl) (by kernel_rfl) (fun _ _ _ h => h) rfl (fun W1 hW1 => by go_simp) (KpS.refl _ _ _) ?_
  simp only [Act.put, List.setIfInBounds_toArray, List.set_cons_zero, List.set_cons_succ]
  refine held_take (i := 2) (v := .pointer (some ⟨p, 1, none⟩)) rfl (by kernel_rfl) (by kernel_rfl) (by kernel_rfl) (fun _ _ _ h => h) rfl (fun W1 hW1 => by go_simp) (KpS.refl _ _ _) ?_
  simp only [Act.put, List.setIfInBounds_toArray, List.set_cons_zero, List.set_cons_succ]
  refine held_take (i := 3) (v := .slice a0 ms.length cp) rfl (by kernel_rfl) (by kernel_rfl) (by kernel_rfl) (fun _ _ _ h => h) rfl (fun W1 hW1 => exec_load _ _ _ _ rfl rfl (run_loadCell W1 _ _ _ (q1 W1 hW1) (agg_no _ (by kernel_rfl)))) (KpS.refl _ _ _) ?_
  simp only [Act.put, List.setIfInBounds_toArray, List.set_cons_zero, List.set_cons_succ]
  refine held_take (i := 4) (v := .int .i64 ms.length) rfl (by kernel_rfl) (by kernel_rfl) (by kernel_rfl) (fun _ _ _ h => h) rfl (fun W1 hW1 => by go_simp) (KpS.refl _ _ _) ?_
  simp only [Act.put, List.setIfInBounds_toArray, List.set_cons_zero, List.set_cons_succ]
  refine held_take (i := 5) (v := .pointer (some ⟨p, 0, none⟩)) rfl (by kernel_rfl) (by kernel_rfl) (by kernel_rfl) (fun _ _ _ h => h) rfl (fun W1 hW1 => rfl) (KpS.refl _ _ _) ?_
  simp only [Act.put, List.setIfInBounds_toArray, List.set_cons_zero, List.set_cons_succ]
  refine held_take (i := 6) (v := .pointer (some ⟨p, 0, none⟩)) rfl (by kernel_rfl) (by kernel_rfl) (by kernel_rfl) (fun _ _ _ h => h) rfl (fun W1 hW1 => by go_simp) (KpS.refl _ _ _) ?_
  simp only [Act.put, List.setIfInBounds_toArray, List.set_cons_zero, List.set_cons_succ]
  refine held_take (i := 7) (v := .pointer (some ⟨p, 0, none⟩)) rfl (by kernel_rfl) (by kernel_rfl) (by kernel_rfl) (fun _ _ _ h => h) rfl (fun W1 hW1 => by go_simp) (KpS.refl _ _ _) ?_
  simp only [Act.put, List.setIfInBounds_toArray, List.set_cons_zero, List.set_cons_succ]
  refine held_take (i := 8) (v := .int .i64 most) rfl (by kernel_rfl) (by kernel_rfl) (by kernel_rfl) (fun _ _ _ h => h) rfl (fun W1 hW1 => exec_load _ _ _ _ rfl rfl (run_loadCell W1 _ _ _ (q0 W1 hW1) (agg_no _ (by kernel_rfl)))) (KpS.refl _ _ _) ?_
  simp only [Act.put, List.setIfInBounds_toArray, List.set_cons_zero, List.set_cons_succ]
  refine held_take (i := 9) (v := .bool (decide (most ≤ (ms.length : Int)))) rfl (by kernel_rfl) (by kernel_rfl) (by kernel_rfl) (fun _ _ _ h => h) rfl (fun W1 hW1 => by go_simp) (KpS.refl _ _ _) ?_
  simp only [Act.put, List.setIfInBounds_toArray, List.set_cons_zero, List.set_cons_succ]
  refine wpAnyH_done (by kernel_rfl) ?_ _
  clear q0 q1
  have KA2 := hid (KA.out.drew)
  have HA2 := hid (HA.out.later (Keeps.refl [] wA).drew)
  have B2 := hid (show wA.drew.heap[w.heap.size]? = _ from B1.out)
  have MA2 := hid (MA.out.keep (Keeps.refl [] wA).drew (by simp))
  have ZA2 := hid (show wA.drew.heap.size = w.heap.size + 1 from ZA.out)
  generalize wA.drew = wB at KA2 HA2 B2 MA2 ZA2 ⊢
  by_cases hfull : most ≤ (ms.length : Int)
  · have hb : decide (most ≤ (ms.length : Int)) = true := by simpa using hfull
    rw [hb]
    clear hb
    go_wp2_with fail
    go_ret
    exact Or.inl ⟨by omega, rfl, KA2.out⟩
  · have hb : decide (most ≤ (ms.length : Int)) = false := by simpa using hfull
    rw [hb]
    have HNF := hid hfull
    clear hb hfull
    go_wp2_with fail
    refine wp_region_any (by kernel_rfl) (wpAny_of_late (late := [17]) (S := KpS (Value.slice a0 ms.length cp).ownBlock.toList wB.heap.size wB.drew) _ _ _ _ ?_)
    change wpAnyT _ _ _ _ _ _ _ _ _ wB.drew
    have nP : p ∉ (Value.slice a0 ms.length cp).ownBlock.toList := fun hm => HA2.out.ne (by simpa using hm)
    have nB : w.heap.size ∉ (Value.slice a0 ms.length cp).ownBlock.toList := fun hm => by
      have := HLT.out w.heap.size (mem_bfoot.2 (Or.inr (Or.inl (by simpa using hm))))
      omega
    have cP : ∀ W1, KpS (Value.slice a0 ms.length cp).ownBlock.toList wB.heap.size wB.drew W1 → W1.cell? ⟨p, 1, none⟩ = some (.slice a0 ms.length cp) := fun W1 h => h.cell (by rw [World.cell?_drew]; exact HA2.out.c1) HA2.out.lt nP
    have cM : ∀ W1, KpS (Value.slice a0 ms.length cp).ownBlock.toList wB.heap.size wB.drew W1 → W1.heap[w.heap.size]? = some (.cells #[.int .i64 m.f, .int .i64 m.t, .slice ra m.bs.length rc] 38 (0, 0)) := fun W1 h => (h.block _ (by have := ZA2.out; omega) nB).trans B2.out
    refine late_take (i := 0) (v := .pointer (some ⟨p, 0, none⟩)) rfl (by kernel_rfl) (by kernel_rfl) (by kernel_rfl) (by kernel_rfl) (by kernel_rfl) (fun _ _ _ h => h) rfl (fun W1 hW1 => rfl) (KpS.refl _ _ _) ?_
    simp only [Act.put, List.setIfInBounds_toArray, List.set_cons_zero, List.set_cons_succ]
    refine late_take (i := 1) (v := .pointer (some ⟨p, 0, none⟩)) rfl (by kernel_rfl) (by kernel_rfl) (by kernel_rfl) (by kernel_rfl) (by kernel_rfl) (fun _ _ _ h => h) rfl (fun W1 hW1 => rfl) (KpS.refl _ _ _) ?_
    simp only [Act.put, List.setIfInBounds_toArray, List.set_cons_zero, List.set_cons_succ]
    refine late_take (i := 2) (v := .pointer (some ⟨p, 0, none⟩)) rfl (by kernel_rfl) (by kernel_rfl) (by kernel_rfl) (by kernel_rfl) (by kernel_rfl) (fun _ _ _ h => h) rfl (fun W1 hW1 => by go_simp) (KpS.refl _ _ _) ?_
    simp only [Act.put, List.setIfInBounds_toArray, List.set_cons_zero, List.set_cons_succ]
    refine late_take (i := 3) (v := .pointer (some ⟨p, 1, none⟩)) rfl (by kernel_rfl) (by kernel_rfl) (by kernel_rfl) (by kernel_rfl) (by kernel_rfl) (fun _ _ _ h => h) rfl (fun W1 hW1 => by go_simp) (KpS.refl _ _ _) ?_
    simp only [Act.put, List.setIfInBounds_toArray, List.set_cons_zero, List.set_cons_succ]
    refine late_take (i := 4) (v := .slice a0 ms.length cp) rfl (by kernel_rfl) (by kernel_rfl) (by kernel_rfl) (by kernel_rfl) (by kernel_rfl) (fun _ _ _ h => h) rfl (fun W1 hW1 => exec_load _ _ _ _ rfl rfl (run_loadCell W1 _ _ _ (cP W1 hW1) (agg_no _ (by kernel_rfl)))) (KpS.refl _ _ _) ?_
    simp only [Act.put, List.setIfInBounds_toArray, List.set_cons_zero, List.set_cons_succ]
    refine late_take (i := 5) (v := .pointer (some ⟨w.heap.size, 0, none⟩)) rfl (by kernel_rfl) (by kernel_rfl) (by kernel_rfl) (by kernel_rfl) (by kernel_rfl) (fun _ _ _ h => h) rfl (fun W1 hW1 => by go_simp) (KpS.refl _ _ _) ?_
    simp only [Act.put, List.setIfInBounds_toArray, List.set_cons_zero, List.set_cons_succ]
    refine late_take (i := 6) (v := .int .i64 m.f) rfl (by kernel_rfl) (by kernel_rfl) (by kernel_rfl) (by kernel_rfl) (by kernel_rfl) (fun _ _ _ h => h) rfl (fun W1 hW1 => exec_load _ _ _ _ rfl rfl (run_loadCell W1 _ _ _ ((row_block3 (cM W1 hW1)).1) (agg_no _ (by kernel_rfl)))) (KpS.refl _ _ _) ?_
    simp only [Act.put, List.setIfInBounds_toArray, List.set_cons_zero, List.set_cons_succ]
    refine late_take (i := 7) (v := .pointer (some ⟨w.heap.size, 1, none⟩)) rfl (by kernel_rfl) (by kernel_rfl) (by kernel_rfl) (by kernel_rfl) (by kernel_rfl) (fun _ _ _ h => h) rfl (fun W1 hW1 => by go_simp) (KpS.refl _ _ _) ?_
    simp only [Act.put, List.setIfInBounds_toArray, List.set_cons_zero, List.set_cons_succ]
    refine late_take (i := 8) (v := .int .i64 m.t) rfl (by kernel_rfl) (by kernel_rfl) (by kernel_rfl) (by kernel_rfl) (by kernel_rfl) (fun _ _ _ h => h) rfl (fun W1 hW1 => exec_load _ _ _ _ rfl rfl (run_loadCell W1 _ _ _ ((row_block3 (cM W1 hW1)).2.1) (agg_no _ (by kernel_rfl)))) (KpS.refl _ _ _) ?_
    simp only [Act.put, List.setIfInBounds_toArray, List.set_cons_zero, List.set_cons_succ]
    refine late_take (i := 9) (v := .pointer (some ⟨w.heap.size, 2, none⟩)) rfl (by kernel_rfl) (by kernel_rfl) (by kernel_rfl) (by kernel_rfl) (by kernel_rfl) (fun _ _ _ h => h) rfl (fun W1 hW1 => by go_simp) (KpS.refl _ _ _) ?_
    simp only [Act.put, List.setIfInBounds_toArray, List.set_cons_zero, List.set_cons_succ]
    refine late_take (i := 10) (v := .slice ra m.bs.length rc) rfl (by kernel_rfl) (by kernel_rfl) (by kernel_rfl) (by kernel_rfl) (by kernel_rfl) (fun _ _ _ h => h) rfl (fun W1 hW1 => exec_load _ _ _ _ rfl rfl (run_loadCell W1 _ _ _ ((row_block3 (cM W1 hW1)).2.2.1) (agg_no _ (by kernel_rfl)))) (KpS.refl _ _ _) ?_
    simp only [Act.put, List.setIfInBounds_toArray, List.set_cons_zero, List.set_cons_succ]
    have RB := MA2.out.row
    rw [HROW.out] at RB
    refine late_do (i := 11) (by kernel_rfl) rfl rfl (wp_enter (f := 24) (args := #[.slice ra m.bs.length rc]) (by go_simp) (copyK_any wB.drew _ m.bs (RB.keep ((Keeps.refl [] wB).drew) (by intro _ _ _ _ _; simp)) (by omega)) ?_)
    rintro e wC ⟨a1, c1, rfl, o1, k1⟩
    have sC : KpS (Value.slice a0 ms.length cp).ownBlock.toList wB.heap.size wB.drew wC := (KpS.refl _ _ _).keeps k1 (Nat.le_refl _) (by simp)
    refine ⟨_, rfl, Or.inr sC, ?_⟩
    simp only [Act.put, List.setIfInBounds_toArray, List.set_cons_zero, List.set_cons_succ]
    refine late_take (i := 12) (v := .agg #[.int .i64 m.f, .int .i64 m.t, .slice a1 m.bs.length c1]) rfl (by kernel_rfl) (by kernel_rfl) (by kernel_rfl) (by kernel_rfl) (by kernel_rfl) (fun _ _ _ h => h) rfl (fun W1 hW1 => by go_simp) (sC) ?_
    simp only [Act.put, List.setIfInBounds_toArray, List.set_cons_zero, List.set_cons_succ]
    refine late_do (i := 13) (by kernel_rfl) rfl rfl (wp_value (exec_oneMg mtR _ _ _ _ _ _ rfl rfl) ?_)
    have kC : Keeps [] wB wC := (Keeps.refl [] wB).drew.trans k1
    have sD := sC.alloc (n₀ := wB.heap.size) kC.size (.cells #[.int .i64 m.f, .int .i64 m.t, .slice a1 m.bs.length c1] 38)
    refine ⟨Or.inr sD, ?_⟩
    simp only [Act.put, List.setIfInBounds_toArray, List.set_cons_zero, List.set_cons_succ]
    have okM := ok_reMg MA2.out o1
    have lt1 := o1.lt
    have kD := kC.alloc (.cells #[.int .i64 m.f, .int .i64 m.t, .slice a1 m.bs.length c1] 38)
    have kCD := (Keeps.refl [] wC).alloc (.cells #[.int .i64 m.f, .int .i64 m.t, .slice a1 m.bs.length c1] 38)
    have oD := one_msgs (E := 38) okM rfl
    simp only [reMg] at oD
    generalize wC.alloc (.cells #[.int .i64 m.f, .int .i64 m.t, .slice a1 m.bs.length c1] 38) = wD at sD kD kCD oD ⊢
    have hzB := ZA2.out
    have hzC := kC.size
    have hzCD := kCD.size
    obtain ⟨g, hg1, hg2, hg3⟩ : ∃ g, w.heap.size ≤ g ∧ g < wD.heap.size ∧ (Value.slice a1 m.bs.length c1).ownBlock.toList ⊆ [g] := by
      cases hb : (Value.slice a1 m.bs.length c1).ownBlock with
      | none => exact ⟨w.heap.size, Nat.le_refl _, by omega, by simp⟩
      | some b =>
        have := lt1 b hb
        have e : wB.drew.heap.size = wB.heap.size := rfl
        exact ⟨b, by omega, by omega, by simp⟩
    have hX' : ∀ k ∈ g :: X, k < wD.heap.size := fun k hk => by
      rcases List.mem_cons.1 hk with hk | hk
      · omega
      · have := HLT.out k (mem_bfoot.2 (Or.inr (Or.inr hk))); omega
    have ownD := (HA2.out.own.later kD).mono (Y := g :: X) (fun b hb => List.mem_cons_of_mem _ hb) (fun k hk hm => by
      have := HLT.out k (mem_bfoot.2 (Or.inr (Or.inl hk)))
      rcases List.mem_cons.1 hm with hm | hm
      · omega
      · exact HA2.out.own.off k hk hm) hX'
    have oD2 : MsgsAt wD (g :: X) (.slice (some ⟨wC.heap.size, 0, none⟩) 1 1) [⟨m.f, m.t, .slice a1 m.bs.length c1, m.bs⟩] := by
      obtain ⟨q1, q2, q3, q4, q5, q6, q7, q8⟩ := oD
      exact ⟨q1, q2, q3, q4, q5, q6, fun x hx => (q7 x hx).mono (fun b hb => List.mem_cons.2 (Or.inl (by simpa using hg3 hb))), q8⟩
    obtain ⟨a2, c2, wE, run2, o2, k2, n2⟩ := append_msgs mtR ownD _ 1 1 oD2 (by simp; omega) (Nat.zero_le _) 46
    refine late_do (i := 14) (by kernel_rfl) rfl rfl (wp_value (exec_appendT 46 _ _ rfl rfl rfl run2) ?_)
    have sE := sD.keeps k2 kD.size (fun i hi _ => hi)
    refine ⟨Or.inr sE, ?_⟩
    simp only [Act.put, List.setIfInBounds_toArray, List.set_cons_zero, List.set_cons_succ]
    refine late_take (i := 15) (v := .pointer (some ⟨p, 0, none⟩)) rfl (by kernel_rfl) (by kernel_rfl) (by kernel_rfl) (by kernel_rfl) (by kernel_rfl) (fun _ _ _ h => h) rfl (fun W1 hW1 => by go_simp) (sE) ?_
    simp only [Act.put, List.setIfInBounds_toArray, List.set_cons_zero, List.set_cons_succ]
    refine late_take (i := 16) (v := .pointer (some ⟨p, 1, none⟩)) rfl (by kernel_rfl) (by kernel_rfl) (by kernel_rfl) (by kernel_rfl) (by kernel_rfl) (fun _ _ _ h => h) rfl (fun W1 hW1 => by go_simp) (sE) ?_
    simp only [Act.put, List.setIfInBounds_toArray, List.set_cons_zero, List.set_cons_succ]
    have hl3 : ((ms ++ [(⟨m.f, m.t, .slice a1 m.bs.length c1, m.bs⟩ : Mg)]).length : Int) ≤ most := by have := HNF.out; simp; omega
    have R := hid (rbag_stored (HA2.out.later kD) (by simpa using o2) k2 (KA2.out.trans kD) HLT.out hg1 (n2.imp id (fun h b hb => by have := h b hb; omega)) hl3)
    have cd : wE.cell? ⟨p, 1, none⟩ = some (.slice a0 ms.length cp) := cP wE sE
    have fd : wE.frozen? ⟨p, 1, none⟩ = false := by
      have : wE.heap[p]? = some (.cells #[.int .i64 most, .slice a0 ms.length cp] 48 (0, 0)) := (sE.block p HA2.out.lt nP).trans HA2.out.blk
      simp [World.frozen?, this]
    refine late_do (i := 17) (by kernel_rfl) rfl rfl (wp_stored (w' := wE.setCell ⟨p, 1, none⟩ (.slice a2 (ms.length + 1) c2)) (by go_simp) ⟨Or.inl rfl, ?_⟩)
    simp only [Act.put]
    refine wpAnyT_done (by kernel_rfl) ?_ _
    clear cP cM RB o1 k1 sC kC sD okM lt1 kD kCD oD hX' ownD oD2 o2 k2 n2 run2 sE cd fd nP nB hl3
    go_wp2_with fail
    go_ret
    exact Or.inr ⟨by have := HNF.out; omega, rfl, g :: X, _, _, R.out.1, rfl, R.out.2.1, R.out.2.2⟩
end Go.Proofs.Ytehbibimfjipiaa
