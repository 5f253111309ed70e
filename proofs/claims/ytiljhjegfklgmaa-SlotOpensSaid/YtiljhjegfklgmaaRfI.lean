/- The reference's disk: Write of what may be written. -/
import Derived.Test.YtiljhjegfklgmaaRfJa
namespace Go.Proofs.Ytiljhjegfklgmaa
open Go.RowKit Go.Shelf
set_option maxRecDepth 100000

/-- What a deed of the reference's disk leaves. -/
def RPost (w : World) (q : Nat) (s' : DS) (G : List Nat) (e : Ending) (w' : World) (v : Value) : Prop := e = .returned v ∧ ∃ G', RefAt w' q s' G' ∧ Keeps G w w' ∧ Fresh w G G'

/-- A loose write has been put behind At and Wrote. -/
def DS.more (s : DS) (i : Nat) (r : Row) : DS := { s with loose := s.loose ++ [(i, r)] }

theorem rbl_sub {q : Nat} {vf : Nat → Value} {uf : Nat → List Value} {w : World} {vf' : Nat → Value} {uf' : Nat → List Value} (h : ∀ b, RB q vf' uf' b → RB q vf uf b ∨ w.heap.size ≤ b) : Fresh w (rbl q vf uf) (rbl q vf' uf') := fun b hb => by
  rcases h b ((rbl_iff _ _ _ _).1 hb) with h | h
  · exact .inl ((rbl_iff _ _ _ _).2 h)
  · exact .inr h


theorem rb_upd {q f : Nat} {vf : Nat → Value} {uf : Nat → List Value} {v : Value} {us : List Value} {b : Nat} (h : RB q (upd vf f v) (upd uf f us) b) : RB q vf uf b ∨ v.ownBlock = some b ∨ b ∈ us.filterMap Value.ownBlock := by
  rcases h with rfl | ⟨i, hi, e⟩
  · exact .inl (.inl rfl)
  · by_cases hif : i = f
    · subst hif
      rw [upd_same, upd_same] at e
      exact .inr e
    · rw [upd_ne _ _ hif, upd_ne _ _ hif] at e
      exact .inl (.inr ⟨i, hi, e⟩)

/-- The state with one more write at the end of At alone. -/
def RSt.at1 (s : RSt) (n : Int) : RSt := { s with ats := s.ats ++ [n] }
theorem wrote_dead {s : DS} (h : s.fuse = 0) (i : Nat) (r : Row) : ({ s with dead := true } : DS).more i r = s.wrote i r := by
  simp [DS.more, DS.wrote, h]
theorem wrote_live {s : DS} (h : s.fuse ≠ 0) (i : Nat) (r : Row) : ({ (s.spent.more i r) with now := upd s.now i r } : DS) = s.wrote i r := by
  simp [DS.more, DS.wrote, DS.spent, h]

theorem mem_rbl_keep {w w' : World} {q : Nat} {vf : Nat → Value} {uf : Nat → List Value} {S : List Nat} (k : Keeps S w w') (h : ∀ b ∈ S, RB q vf uf b ∨ w.heap.size ≤ b) : Keeps (rbl q vf uf) w w' :=
  k.mono fun b hb hm => (rbl_iff _ _ _ _).2 ((h b hm).resolve_right (by omega))

theorem rop2 (w : World) (q : Nat) (s : DS) (vf : Nat → Value) (uf : Nat → List Value) (h : RefIn w q s.ref vf uf) (hf : -9223372036854775808 ≤ s.fuse ∧ s.fuse ≤ 9223372036854775807) (ho : 0 ≤ s.ops ∧ s.ops ≤ 4611686018427387904) :
    Calls Try.prog 23 #[.pointer (some ⟨q, 0, none⟩)] w fun e w' => ∃ (d : Bool) (s1 : DS), e = .returned (.bool d) ∧ RefIn w' q s1.ref vf uf ∧ Keeps [q] w w' ∧ (d = true ↔ s.fuse = 0) ∧ (d = true → s1 = { s with dead := true }) ∧ (d = false → s1 = s.spent) ∧ s1.loose = s.loose ∧ s1.cnt = s.cnt :=
  (rop_any w q s vf uf h hf ho).mono fun e w' hq => by
    by_cases h0 : s.fuse = 0
    · obtain ⟨h1, h2⟩ := hq.1 h0
      exact ⟨true, _, h1, h2, hq.2.2, by simp [h0], fun _ => rfl, fun h => (by cases h), rfl, rfl⟩
    · obtain ⟨h1, h2⟩ := hq.2.1 h0
      exact ⟨false, _, h1, h2, hq.2.2, by simp [h0], fun h => (by cases h), fun _ => rfl, rfl, rfl⟩

theorem map_upd (f : Nat → Row) (n i : Nat) (r : Row) : ((List.range n).map fun j => (upd f i r j).1) = ((List.range n).map fun j => (f j).1).set i r.1 := by
  apply List.ext_getElem
  · simp
  · intro j h1 h2
    rw [List.getElem_set]
    simp only [List.getElem_map, List.getElem_range]
    split
    · rename_i e; subst e; rw [upd_same]
    · rename_i e; rw [upd_ne _ _ (fun e2 => e e2.symm)]

set_option maxHeartbeats 8000000 in
theorem rwrite_yes (w : World) (q : Nat) (s : DS) (vf : Nat → Value) (uf : Nat → List Value) (h : RefIn w q s.ref vf uf) (hf : -9223372036854775808 ≤ s.fuse ∧ s.fuse ≤ 9223372036854775807) (ho : 0 ≤ s.ops ∧ s.ops ≤ 4611686018427387904) (hc : s.cnt ≤ 4160) (hl : s.loose.length ≤ 100000)
    (i : Nat) (bv : Value) (zs : List Int) (hb : RowAt w bv zs) (hoff : Off (rbl q vf uf) bv zs) (ht : s.takes (i : Int) zs.length) :
    Calls Try.prog 8 #[.pointer (some ⟨q, 0, none⟩), .int .i64 (i : Int), bv] w fun e w' => RPost w q (s.wrote i (mkRow zs)) (rbl q vf uf) e w' (.int .i64 (if s.fuse = 0 then 14 else 0)) := by
  obtain ⟨hd, hk0, hk1, h64⟩ := ht
  have hmk : (mkRow zs).1 = zs := mkRow_is h64 hb.bytes
  have c0 := h.c0
  have c6 : w.cell? ⟨q, 6, none⟩ = some (.bool s.dead) := h.c6
  rw [hd] at c6
  have hlen : (uf 0).length = s.cnt := by rw [h.now.len]; simp
  obtain ⟨a0, cc0, e0⟩ := ownsRow_slice h.now.own
  rw [e0] at c0
  obtain ⟨ba, bc, hbv, _⟩ := id hb
  subst hbv
  have hz : ((zs.length : Int) != 64) = false := by simp [h64]
  have hlt : (i : Int) < ((uf 0).length : Int) := by omega
  have HB := hid hb
  have HOFF := hid hoff
  have OPC := hid (rop2 w q s vf uf h hf ho)
  have RI0 := hid h
  have E0 := hid e0
  have HMK := hid hmk
  have H64 := hid h64
  have HLEN := hid hlen
  clear h hb hoff e0 hmk h64 hlen
  go_enter Try.func8, Try.ntmps8
  go_wp2_with (go_at_call 23; refine OPC.out.mono ?_)
  rintro e w1 ⟨d, s1, rfl, r1, k1, hd0, hdt, hdf, hl1, hc1⟩
  have HD0 := hid hd0
  have HDT := hid hdt
  have HDF := hid hdf
  have HL1 := hid hl1
  have HC1 := hid hc1
  have K1 := hid k1
  obtain ⟨va, vc, w2, run2, kp2, hq2, r2, hb2⟩ := r1.appAt (s' := s1.ref.at1 i) (i : Int) rfl rfl ⟨rfl, rfl, rfl⟩ (by simp [DS.ref, hl1]; omega)
  have C2 := hid r1.c2
  have F2 := hid (r1.fr 2)
  have L2 := hid (show ∃ a c, vf 2 = .slice a s1.ref.ats.length c from ownsRow_slice r1.at_)
  have LT1 := hid (r1.lt')
  have R2 := hid r2
  have KP2 := hid kp2
  have HB2 := hid hb2
  have c2 : w1.cell? ⟨q, 2, none⟩ = some (vf 2) := C2.out
  have hqw2 : w2.cell? ⟨q, 2, none⟩ = some (vf 2) := by
    simp only [World.cell?]
    rw [hq2]
    exact C2.out
  have fq2 : w2.frozen? ⟨q, 2, none⟩ = false := by
    simp only [World.frozen?]
    rw [hq2]
    exact F2.out
  clear hd0 hdt hdf hl1 hc1 k1 r1 r2 kp2 hb2 hq2
  obtain ⟨x2, y2, e2⟩ := L2.out
  have E2 := hid e2
  rw [e2] at c2 hqw2 run2
  clear e2
  go_wp2_with (first | (refine wpList_is rfl _ _ (exec_oneInt (.tmp 35) (i : Int) rfl rfl) ?_) | (refine wpList_is rfl _ _ (exec_appendT 49 (.tmp 34) (.tmp 36) rfl rfl rfl run2) ?_))
  have qm : q ∈ rbl q vf uf := (rbl_iff _ _ _ _).2 (.inl rfl)
  have vm : ∀ f, f < 4 → ∀ b, (vf f).ownBlock = some b → b ∈ rbl q vf uf := fun f hf b hb => (rbl_iff _ _ _ _).2 (.inr ⟨f, hf, .inl hb⟩)
  have k1r : Keeps (rbl q vf uf) w w1 := K1.out.mono (fun b _ hb => by simp at hb; subst hb; exact qm)
  have k2r : Keeps (rbl q vf uf) w w2 := k1r.trans' KP2.out (fun b _ hb => vm 2 (by omega) b (by simpa using hb))
  have k3r : Keeps (rbl q vf uf) w (w2.setCell ⟨q, 2, none⟩ (.slice va (s1.ref.ats.length + 1) vc)) := k2r.setCell (.inl qm) _
  have K3 := hid k3r
  have RW3 := hid (HB.out.keep k3r HOFF.out)
  have VM := hid vm
  have QM := hid qm
  have LT3 := hid (R2.out.lt')
  clear k1r k2r k3r qm vm c2 hqw2 fq2 run2 c0 c6
  generalize w2.setCell ⟨q, 2, none⟩ (.slice va (s1.ref.ats.length + 1) vc) = w3 at R2 K3 RW3 LT3 ⊢
  have u3 : upd vf 2 (.slice va (s1.ref.ats.length + 1) vc) 3 = vf 3 := upd_ne _ _ (by decide)
  have uu3 : upd uf 2 ([] : List Value) 3 = uf 3 := upd_ne _ _ (by decide)
  have row3 := R2.out.row 3 (by decide) (by decide)
  rw [u3, uu3] at row3
  have l3 : (uf 3).length = s.loose.length := by
    rw [row3.len]
    show (rsOf s1 3).length = _
    simp [rsOf, HL1.out]
  obtain ⟨a3, c3, e3⟩ := ownsRow_slice row3.own
  have C3 := hid R2.out.c3
  rw [u3] at C3
  have q3 : q ∉ (vf 3).ownBlock.toList := by
    have := RI0.out.no 3 (by decide)
    simpa using this
  have OB := hid (show ∀ ad, ba = some ad → zs ≠ [] → ad.block ∉ (vf 3).ownBlock.toList from fun ad had hne hm => HOFF.out ad _ _ (by rw [had]) hne (VM.out 3 (by decide) _ (by simpa using hm)))
  have Q3 := hid q3
  have L3 := hid l3
  have E3 := hid e3
  have HZ := hid (hz)
  clear row3 l3 q3 e3 u3 uu3 hz
  refine wp_region_any (by kernel_rfl) (wpAny_of_late (late := [11]) (S := KpS (vf 3).ownBlock.toList w3.heap.size w3.drew) _ _ _ _ ?_)
  change wpAnyT _ _ _ _ _ _ _ _ _ w3.drew
  have cP : ∀ W1, KpS (vf 3).ownBlock.toList w3.heap.size w3.drew W1 → W1.cell? ⟨q, 3, none⟩ = some (vf 3) := fun W1 h => h.cell (by rw [World.cell?_drew]; exact C3.out) (LT3.out q (.inl rfl)) Q3.out
  refine late_take (i := 0) (v := .pointer (some ⟨q, 0, none⟩)) rfl (by kernel_rfl) (by kernel_rfl) (by kernel_rfl) (by kernel_rfl) (by kernel_rfl) (fun _ _ _ h => h) rfl (fun W1 hW1 => rfl) (KpS.refl _ _ _) ?_
  simp only [Act.put, List.setIfInBounds_toArray, List.set_cons_zero, List.set_cons_succ]
  refine late_take (i := 1) (v := .pointer (some ⟨q, 0, none⟩)) rfl (by kernel_rfl) (by kernel_rfl) (by kernel_rfl) (by kernel_rfl) (by kernel_rfl) (fun _ _ _ h => h) rfl (fun W1 hW1 => rfl) (KpS.refl _ _ _) ?_
  simp only [Act.put, List.setIfInBounds_toArray, List.set_cons_zero, List.set_cons_succ]
  refine late_take (i := 2) (v := .pointer (some ⟨q, 0, none⟩)) rfl (by kernel_rfl) (by kernel_rfl) (by kernel_rfl) (by kernel_rfl) (by kernel_rfl) (fun _ _ _ h => h) rfl (fun W1 hW1 => by go_simp) (KpS.refl _ _ _) ?_
  simp only [Act.put, List.setIfInBounds_toArray, List.set_cons_zero, List.set_cons_succ]
  refine late_take (i := 3) (v := .pointer (some ⟨q, 3, none⟩)) rfl (by kernel_rfl) (by kernel_rfl) (by kernel_rfl) (by kernel_rfl) (by kernel_rfl) (fun _ _ _ h => h) rfl (fun W1 hW1 => by go_simp) (KpS.refl _ _ _) ?_
  simp only [Act.put, List.setIfInBounds_toArray, List.set_cons_zero, List.set_cons_succ]
  refine late_take (i := 4) (v := vf 3) rfl (by kernel_rfl) (by kernel_rfl) (by kernel_rfl) (by kernel_rfl) (by kernel_rfl) (fun _ _ _ h => h) rfl (fun W1 hW1 => exec_load _ _ _ _ rfl rfl (run_loadCell W1 _ _ _ (cP W1 hW1) (agg_no _ (by kernel_rfl)))) (KpS.refl _ _ _) ?_
  simp only [Act.put, List.setIfInBounds_toArray, List.set_cons_zero, List.set_cons_succ]
  refine late_take (i := 5) (v := .slice ba zs.length bc) rfl (by kernel_rfl) (by kernel_rfl) (by kernel_rfl) (by kernel_rfl) (by kernel_rfl) (fun _ _ _ h => h) rfl (fun W1 hW1 => rfl) (KpS.refl _ _ _) ?_
  simp only [Act.put, List.setIfInBounds_toArray, List.set_cons_zero, List.set_cons_succ]
  refine late_do (i := 6) (by kernel_rfl) rfl rfl (wp_enter (f := 24) (args := #[.slice ba zs.length bc]) (by go_simp) (copy4_any w3.drew _ zs (RW3.out.keep ((Keeps.refl [] w3).drew) (by intro _ _ _ _ _; simp)) (by rw [H64.out]; omega)) ?_)
  rintro e w4 ⟨a4, c4, rfl, ow4, k4⟩
  have s4 : KpS (vf 3).ownBlock.toList w3.heap.size w3.drew w4 := (KpS.refl _ _ _).keeps k4 (by simp) (by simp)
  refine ⟨_, rfl, Or.inr s4, ?_⟩
  simp only [Act.put, List.setIfInBounds_toArray, List.set_cons_zero, List.set_cons_succ]
  have k4' : Keeps [] w3 w4 := (Keeps.refl [] w3).drew.trans k4
  have R4 := R2.out.keep k4' (by simp)
  have h34 : w3.heap.size ≤ w4.heap.size := k4'.size
  obtain ⟨v5a, v5c, w5, run5, kp5, hq5, r5, hb5⟩ := R4.app (s' := (s1.more i (mkRow zs)).ref) 3 (by decide) (by decide) a4 zs.length c4 zs (row_of_own ow4 RW3.out.bytes)
    (fun b e => by
      have h1 := ow4.lt b e
      simp only [World.size_drew] at h1
      refine ⟨fun e2 => ?_, fun j hj e2 => ?_, h1.2⟩
      · have := LT3.out q (.inl rfl); omega
      · have := LT3.out b (.inr ⟨j, hj, .inl e2⟩); omega)
    (by show rsOf (s1.more i (mkRow zs)) 3 = rsOf s1 3 ++ [zs]; simp [rsOf, DS.more, HMK.out]) (fun j hj h3 h2 => by
      show rsOf (s1.more i (mkRow zs)) j = rsOf s1 j
      have : j = 0 ∨ j = 1 := by omega
      rcases this with rfl | rfl <;> simp [rsOf, DS.more]) (by simp [DS.ref, DS.more, RSt.at1]) ⟨rfl, rfl, rfl⟩ (by rw [upd_ne _ _ (by decide), L3.out]; omega)
  have u3 : upd vf 2 (.slice va (s1.ref.ats.length + 1) vc) 3 = vf 3 := upd_ne _ _ (by decide)
  have uu3 : upd uf 2 ([] : List Value) 3 = uf 3 := upd_ne _ _ (by decide)
  rw [u3] at run5 kp5 hb5
  rw [uu3] at run5 r5 hb5
  refine late_do (i := 7) (by kernel_rfl) rfl rfl (wp_value (exec_oneRow (.tmp 46) a4 zs.length c4 rfl rfl) ?_)
  have s5 : KpS (vf 3).ownBlock.toList w3.heap.size w3.drew (w4.alloc (.cells #[.slice a4 zs.length c4] 31)) := s4.alloc h34 _
  refine ⟨Or.inr s5, ?_⟩
  simp only [Act.put, List.setIfInBounds_toArray, List.set_cons_zero, List.set_cons_succ]
  refine late_do (i := 8) (by kernel_rfl) rfl rfl (wp_value (exec_appendT 22 _ _ rfl rfl rfl run5) ?_)
  have k5w : Keeps (vf 3).ownBlock.toList w4 w5 := kp5
  have s6 : KpS (vf 3).ownBlock.toList w3.heap.size w3.drew w5 := s4.keeps k5w h34 (fun b hb _ => hb)
  refine ⟨Or.inr s6, ?_⟩
  simp only [Act.put, List.setIfInBounds_toArray, List.set_cons_zero, List.set_cons_succ]
  refine late_take (i := 9) (v := .pointer (some ⟨q, 0, none⟩)) rfl (by kernel_rfl) (by kernel_rfl) (by kernel_rfl) (by kernel_rfl) (by kernel_rfl) (fun _ _ _ h => h) rfl (fun W1 hW1 => by go_simp) (s6) ?_
  simp only [Act.put, List.setIfInBounds_toArray, List.set_cons_zero, List.set_cons_succ]
  refine late_take (i := 10) (v := .pointer (some ⟨q, 3, none⟩)) rfl (by kernel_rfl) (by kernel_rfl) (by kernel_rfl) (by kernel_rfl) (by kernel_rfl) (fun _ _ _ h => h) rfl (fun W1 hW1 => by go_simp) (s6) ?_
  simp only [Act.put, List.setIfInBounds_toArray, List.set_cons_zero, List.set_cons_succ]
  have c5 : w5.cell? ⟨q, 3, none⟩ = some (vf 3) := cP w5 s6
  have f5 : w5.frozen? ⟨q, 3, none⟩ = false := by
    simp only [World.frozen?]
    rw [hq5]
    exact R4.fr 3
  have E3' := E3.out
  rw [E3'] at c5
  refine late_do (i := 11) (by kernel_rfl) rfl rfl (wp_storedD (w' := w5.setCell ⟨q, 3, none⟩ (.slice v5a ((uf 3).length + 1) v5c)) (by go_simp) ⟨Or.inl rfl, ?_⟩)
  simp only [Act.put]
  refine wpAnyT_done (by kernel_rfl) ?_ _
  have k24 : Keeps (rbl q vf uf) w (w5.setCell ⟨q, 3, none⟩ (.slice v5a ((uf 3).length + 1) v5c)) :=
    (K3.out.trans' (S' := (vf 3).ownBlock.toList) (k4'.mono (S' := (vf 3).ownBlock.toList) (by simp) |>.trans k5w) (fun b _ hb => VM.out 3 (by decide) b (by simpa using hb))).setCell (.inl QM.out) _
  have K6 := hid k24
  have R6 := hid r5
  have FR6 : Hid (∀ b, RB q (upd (upd vf 2 (.slice va (s1.ref.ats.length + 1) vc)) 3 (.slice v5a ((uf 3).length + 1) v5c)) (upd (upd uf 2 []) 3 (uf 3 ++ [.slice a4 zs.length c4])) b → RB q vf uf b ∨ w.heap.size ≤ b) := hid (fun b hb => by
    have hw1 : w.heap.size ≤ w1.heap.size := K1.out.size
    have hw3 : w.heap.size ≤ w3.heap.size := K3.out.size
    rcases rb_upd hb with hb | hb | hb
    · rcases rb_upd hb with hb | hb | hb
      · exact .inl hb
      · rcases HB2.out b hb with h | h
        · exact .inl (.inr ⟨2, by decide, .inl h⟩)
        · right; omega
      · simp at hb
    · rcases hb5 b hb with h | h
      · exact .inl (.inr ⟨3, by decide, .inl h⟩)
      · right; omega
    · rw [List.filterMap_append, List.mem_append] at hb
      rcases hb with hb | hb
      · exact .inl (.inr ⟨3, by decide, .inr hb⟩)
      · simp only [List.filterMap_cons, List.filterMap_nil] at hb
        cases e : (Value.slice a4 zs.length c4).ownBlock with
        | none => rw [e] at hb; simp at hb
        | some b2 =>
          rw [e] at hb
          simp at hb
          subst hb
          have h1 := ow4.lt b e
          simp only [World.size_drew] at h1
          right; omega)
  have RWA := hid (RW3.out.keep (S := rbl q vf uf) ((k4'.mono (S' := rbl q vf uf) (by simp)).trans (k5w.mono (S' := rbl q vf uf) (fun b _ hb => VM.out 3 (by decide) b (by simpa using hb))) |>.setCell (p := ⟨q, 3, none⟩) (.inl QM.out) (.slice v5a ((uf 3).length + 1) v5c)) HOFF.out)
  have u0 : upd (upd vf 2 (.slice va (s1.ref.ats.length + 1) vc)) 3 (.slice v5a ((uf 3).length + 1) v5c) 0 = vf 0 := by rw [upd_ne _ _ (by decide), upd_ne _ _ (by decide)]
  have uu0 : upd (upd uf 2 []) 3 (uf 3 ++ [.slice a4 zs.length c4]) 0 = uf 0 := by rw [upd_ne _ _ (by decide), upd_ne _ _ (by decide)]
  have U0 := hid u0
  have UU0 := hid uu0
  clear cP s4 k4' R4 run5 kp5 hq5 r5 hb5 s5 k5w s6 c5 f5 E3' k24 u0 uu0 ow4 k4 u3 uu3
  generalize upd (upd vf 2 (.slice va (s1.ref.ats.length + 1) vc)) 3 (.slice v5a ((uf 3).length + 1) v5c) = VF at R6 FR6 U0
  generalize upd (upd uf 2 []) 3 (uf 3 ++ [.slice a4 zs.length c4]) = UF at R6 FR6 UU0
  generalize w5.setCell ⟨q, 3, none⟩ (.slice v5a ((uf 3).length + 1) v5c) = w6 at K6 R6 RWA ⊢
  cases d with
  | true =>
    have e1 : Hid (s1.more i (mkRow zs) = s.wrote i (mkRow zs)) := hid (by rw [HDT.out rfl]; exact wrote_dead (HD0.out.1 rfl) i (mkRow zs))
    have HF0 := hid (HD0.out.1 rfl)
    go_wp2_with fail
    go_ret
    refine ⟨by first | rfl | (rw [if_pos HF0.out]; rfl), rbl q VF UF, ⟨VF, UF, ?_, rfl⟩, K6.out, rbl_sub FR6.out⟩
    rw [← e1.out]
    exact R6.out
  | false =>
    have HF0 : Hid (s.fuse ≠ 0) := hid (fun h => by have := HD0.out.2 h; cases this)
    have e1 : Hid ({ (s1.more i (mkRow zs)) with now := upd s1.now i (mkRow zs) } = s.wrote i (mkRow zs)) := hid (by rw [HDF.out rfl]; exact wrote_live HF0.out i (mkRow zs))
    have hrow0 := R6.out.row 0 (by decide) (by decide)
    rw [U0.out, UU0.out] at hrow0
    obtain ⟨g, cg, e0, hnc, hcs⟩ := hrow0.open (by omega)
    have C0 := hid R6.out.c0
    rw [U0.out, e0] at C0
    have G0 := hid (show VF 0 = .slice (some ⟨g, 0, none⟩) (UF 0).length cg by rw [U0.out, UU0.out, e0])
    have LT6 := hid (R6.out.lt')
    have hil : i < (uf 0).length := by omega
    clear hrow0 e0 hcs HDT HDF
    go_wp2_with fail
    refine wp_region_any (by kernel_rfl) (wpAny_of_late (late := [8]) (S := KpS [] w6.heap.size w6.drew) _ _ _ _ ?_)
    change wpAnyT _ _ _ _ _ _ _ _ _ w6.drew
    have cP : ∀ W1, KpS [] w6.heap.size w6.drew W1 → W1.cell? ⟨q, 0, none⟩ = some (.slice (some ⟨g, 0, none⟩) (uf 0).length cg) := fun W1 h => h.cell (by rw [World.cell?_drew]; exact C0.out) (LT6.out q (.inl rfl)) (by simp)
    refine late_take (i := 0) (v := .pointer (some ⟨q, 0, none⟩)) rfl (by kernel_rfl) (by kernel_rfl) (by kernel_rfl) (by kernel_rfl) (by kernel_rfl) (fun _ _ _ h => h) rfl (fun W1 hW1 => rfl) (KpS.refl _ _ _) ?_
    simp only [Act.put, List.setIfInBounds_toArray, List.set_cons_zero, List.set_cons_succ]
    refine late_take (i := 1) (v := .pointer (some ⟨q, 0, none⟩)) rfl (by kernel_rfl) (by kernel_rfl) (by kernel_rfl) (by kernel_rfl) (by kernel_rfl) (fun _ _ _ h => h) rfl (fun W1 hW1 => by go_simp) (KpS.refl _ _ _) ?_
    simp only [Act.put, List.setIfInBounds_toArray, List.set_cons_zero, List.set_cons_succ]
    refine late_take (i := 2) (v := .pointer (some ⟨q, 0, none⟩)) rfl (by kernel_rfl) (by kernel_rfl) (by kernel_rfl) (by kernel_rfl) (by kernel_rfl) (fun _ _ _ h => h) rfl (fun W1 hW1 => by go_simp) (KpS.refl _ _ _) ?_
    simp only [Act.put, List.setIfInBounds_toArray, List.set_cons_zero, List.set_cons_succ]
    refine late_take (i := 3) (v := .slice (some ⟨g, 0, none⟩) (uf 0).length cg) rfl (by kernel_rfl) (by kernel_rfl) (by kernel_rfl) (by kernel_rfl) (by kernel_rfl) (fun _ _ _ h => h) rfl (fun W1 hW1 => exec_load _ _ _ _ rfl rfl (run_loadCell W1 _ _ _ (cP W1 hW1) (agg_no _ (by kernel_rfl)))) (KpS.refl _ _ _) ?_
    simp only [Act.put, List.setIfInBounds_toArray, List.set_cons_zero, List.set_cons_succ]
    refine late_take (i := 4) (v := .int .i64 (i : Int)) rfl (by kernel_rfl) (by kernel_rfl) (by kernel_rfl) (by kernel_rfl) (by kernel_rfl) (fun _ _ _ h => h) rfl (fun W1 hW1 => rfl) (KpS.refl _ _ _) ?_
    simp only [Act.put, List.setIfInBounds_toArray, List.set_cons_zero, List.set_cons_succ]
    refine late_take (i := 5) (v := .slice ba zs.length bc) rfl (by kernel_rfl) (by kernel_rfl) (by kernel_rfl) (by kernel_rfl) (by kernel_rfl) (fun _ _ _ h => h) rfl (fun W1 hW1 => rfl) (KpS.refl _ _ _) ?_
    simp only [Act.put, List.setIfInBounds_toArray, List.set_cons_zero, List.set_cons_succ]
    refine late_do (i := 6) (by kernel_rfl) rfl rfl (wp_enter (f := 24) (args := #[.slice ba zs.length bc]) (by go_simp) (copy4_any w6.drew _ zs (RWA.out.keep ((Keeps.refl [] w6).drew) (by intro _ _ _ _ _; simp)) (by rw [H64.out]; omega)) ?_)
    rintro e w7 ⟨a7, c7, rfl, ow7, k7⟩
    have s7 : KpS [] w6.heap.size w6.drew w7 := (KpS.refl _ _ _).keeps k7 (by simp) (by simp)
    refine ⟨_, rfl, Or.inr s7, ?_⟩
    simp only [Act.put, List.setIfInBounds_toArray, List.set_cons_zero, List.set_cons_succ]
    refine late_take (i := 7) (v := .pointer (some ⟨g, i, none⟩)) rfl (by kernel_rfl) (by kernel_rfl) (by kernel_rfl) (by kernel_rfl) (by kernel_rfl) (fun _ _ _ h => h) rfl (fun W1 hW1 => by go_simp) (s7) ?_
    simp only [Act.put, List.setIfInBounds_toArray, List.set_cons_zero, List.set_cons_succ]
    have k7' : Keeps [] w6 w7 := (Keeps.refl [] w6).drew.trans k7
    have R7 := R6.out.keep k7' (by simp)
    have h67 : w6.heap.size ≤ w7.heap.size := k7'.size
    have rsw := R7.swap (s' := ({ (s1.more i (mkRow zs)) with now := upd s1.now i (mkRow zs) } : DS).ref) 0 (by decide) (by decide) i (by rw [UU0.out]; exact hil) (.slice a7 zs.length c7) rfl zs (row_of_own ow7 RWA.out.bytes)
      (fun b e => by
        have h1 := ow7.lt b e
        simp only [World.size_drew] at h1
        refine ⟨fun e2 => ?_, fun j hj e2 => ?_, h1.2⟩
        · have := LT6.out q (.inl rfl); omega
        · have := LT6.out b (.inr ⟨j, hj, .inl e2⟩); omega)
      (by show rsOf ({ (s1.more i (mkRow zs)) with now := upd s1.now i (mkRow zs) } : DS) 0 = (rsOf (s1.more i (mkRow zs)) 0).set i zs
          simp only [rsOf, if_true]
          rw [map_upd, HMK.out]
          rfl)
      (fun j hj h0 h2 => by
        show rsOf ({ (s1.more i (mkRow zs)) with now := upd s1.now i (mkRow zs) } : DS) j = rsOf (s1.more i (mkRow zs)) j
        have : j = 1 ∨ j = 3 := by omega
        rcases this with rfl | rfl <;> rfl) rfl ⟨rfl, rfl, rfl⟩ g cg G0.out
    obtain ⟨gx, cx, ex, _, hcx⟩ := (R7.row 0 (by decide) (by decide)).open (by rw [UU0.out]; omega)
    have eg : gx = g := by
      rw [G0.out] at ex
      injection ex with ex _ _
      injection ex with ex
      injection ex with ex
      exact ex.symm
    subst eg
    have cgi := hcx i (by rw [UU0.out]; exact hil)
    have fgi : w7.frozen? ⟨gx, i, none⟩ = false := by
      have ho := (R7.row 0 (by decide) (by decide)).own
      rw [G0.out] at ho
      exact ho.frozenAt i
    generalize (UF 0)[i]'(by rw [UU0.out]; exact hil) = ug at cgi
    refine late_do (i := 8) (by kernel_rfl) rfl rfl (wp_storedD (w' := w7.setCell ⟨gx, i, none⟩ (.slice a7 zs.length c7)) (by go_simp) ⟨Or.inl rfl, ?_⟩)
    simp only [Act.put]
    refine wpAnyT_done (by kernel_rfl) ?_ _
    have GM : gx ∈ rbl q vf uf := VM.out 0 (by decide) gx (by rw [← U0.out, G0.out]; rfl)
    have K8 := hid ((K6.out.trans' (S' := []) k7' (by simp)).setCell (p := ⟨gx, i, none⟩) (.inl GM) (.slice a7 zs.length c7))
    have R8 := hid rsw
    have FR8 : Hid (∀ b, RB q VF (upd UF 0 ((UF 0).set i (.slice a7 zs.length c7))) b → RB q vf uf b ∨ w.heap.size ≤ b) := hid (fun b hb => by
      have hw6 : w.heap.size ≤ w6.heap.size := K6.out.size
      rcases hb with rfl | ⟨j, hj, e | e⟩
      · exact .inl (.inl rfl)
      · exact FR6.out b (.inr ⟨j, hj, .inl e⟩)
      · by_cases hj0 : j = 0
        · subst hj0
          rw [upd_same] at e
          obtain ⟨x, hx, ex⟩ := List.mem_filterMap.1 e
          rcases List.mem_or_eq_of_mem_set hx with hx | hx
          · exact FR6.out b (.inr ⟨0, hj, .inr (List.mem_filterMap.2 ⟨x, hx, ex⟩)⟩)
          · subst hx
            have h1 := ow7.lt b ex
            simp only [World.size_drew] at h1
            right; omega
        · rw [upd_ne _ _ hj0] at e
          exact FR6.out b (.inr ⟨j, hj, .inr e⟩))
    clear cP s7 k7' R7 rsw ow7 k7 cgi fgi
    go_wp2_with fail
    go_ret
    refine ⟨by first | rfl | (rw [if_neg HF0.out]; rfl), _, ⟨VF, _, ?_, rfl⟩, K8.out, rbl_sub FR8.out⟩
    rw [← e1.out]
    exact R8.out
end Go.Proofs.Ytiljhjegfklgmaa
