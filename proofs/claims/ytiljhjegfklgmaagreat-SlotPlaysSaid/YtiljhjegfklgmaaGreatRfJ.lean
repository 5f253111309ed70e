/- The reference's disk: Sync. -/
import Derived.Test.YtiljhjegfklgmaaGreatRfI
namespace Go.Proofs.YtiljhjegfklgmaaGreat
open Go.RowKit Go.Shelf
set_option maxRecDepth 100000

/-- Only what is told of its rows matters. -/
theorem RefIn.congr {w : World} {q : Nat} {s s' : RSt} {vf : Nat → Value} {uf : Nat → List Value} (h : RefIn w q s vf uf) (h1 : ∀ i, i < 4 → i ≠ 2 → s'.rf i = s.rf i) (h2 : s'.ats = s.ats) (h3 : s'.ops = s.ops ∧ s'.fuse = s.fuse ∧ s'.dead = s.dead) : RefIn w q s' vf uf := by
  refine ⟨?_, fun i hi h => ?_, ?_, h.u2, h.apart, h.no, h.off, h.lt⟩
  · rw [h.blk]; simp [rcells, h3.1, h3.2.1, h3.2.2]
  · rw [h1 i hi h]; exact (RefIn.row ‹_› i hi h)
  · rw [h2]; exact h.at_

/-- The first k rows have been copied. -/
def DS.mix (s : DS) (k : Nat) : DS := { s with las := fun j => if j < k then s.now j else s.las j }
theorem mix_zero (s : DS) : s.mix 0 = s := by simp [DS.mix]
theorem map_mix (s : DS) (k : Nat) : ((List.range s.cnt).map fun j => ((s.mix (k + 1)).las j).1) = ((List.range s.cnt).map fun j => ((s.mix k).las j).1).set k (s.now k).1 := by
  apply List.ext_getElem
  · simp
  · intro j h1 h2
    rw [List.getElem_set]
    simp only [List.getElem_map, List.getElem_range, DS.mix]
    by_cases e : k = j
    · subst e; rw [if_pos (by omega), if_pos rfl]
    · rw [if_neg e]
      by_cases hj : j < k
      · rw [if_pos hj, if_pos (by omega)]
      · rw [if_neg hj, if_neg (by omega)]

set_option maxHeartbeats 8000000 in
theorem rsync_any (w : World) (q : Nat) (s : DS) (vf : Nat → Value) (uf : Nat → List Value) (h : RefIn w q s.ref vf uf) (hf : -9223372036854775808 ≤ s.fuse ∧ s.fuse ≤ 9223372036854775807) (ho : 0 ≤ s.ops ∧ s.ops ≤ 4611686018427387904) (hc : s.cnt ≤ 4160) :
    Calls Tryz.prog 39 #[.pointer (some ⟨q, 0, none⟩)] w fun e w' => RPost w q (syncS s) (rbl q vf uf) e w' (.int .i64 (syncE s)) := by
  have c6 : w.cell? ⟨q, 6, none⟩ = some (.bool s.dead) := h.c6
  have RI0 := hid h
  have OPC := hid (rop2 w q s vf uf h hf ho)
  clear h
  by_cases hd : s.dead = true
  · have e1 : syncE s = 14 := by simp [syncE, hd]
    have e2 : syncS s = s := by simp [syncS, hd]
    rw [e1, e2]
    rw [hd] at c6
    go_enter Tryz.func39, Tryz.ntmps39
    go_wp2_with fail
    go_ret
    exact ⟨rfl, rbl q vf uf, ⟨vf, uf, RI0.out, rfl⟩, Keeps.refl _ _, fun b hb => .inl hb⟩
  · have hd' : s.dead = false := by simpa using hd
    rw [hd'] at c6
    have qm : q ∈ rbl q vf uf := (rbl_iff _ _ _ _).2 (.inl rfl)
    have vm : ∀ f, f < 4 → ∀ b, (vf f).ownBlock = some b → b ∈ rbl q vf uf := fun f hf b hb => (rbl_iff _ _ _ _).2 (.inr ⟨f, hf, .inl hb⟩)
    have QM := hid qm
    have VM := hid vm
    by_cases h0 : s.fuse = 0
    · have e1 : syncE s = 14 := by simp [syncE, hd', h0]
      have e2 : syncS s = { s with dead := true } := by simp [syncS, hd', h0]
      rw [e1, e2]
      have H0 := hid h0
      have HD := hid hd
      clear qm vm e1 e2 hd h0 hd'
      go_enter Tryz.func39, Tryz.ntmps39
      go_wp2_with (go_at_call 67; refine OPC.out.mono ?_)
      rintro e w1 ⟨d, s1, rfl, r1, k1, hd0, hdt, hdf, hl1, hc1⟩
      have hdd : d = true := hd0.2 H0.out
      subst hdd
      have hs1 := hdt rfl
      have R1 := hid r1
      have K1 := hid k1
      have S1 := hid hs1
      clear r1 k1 hd0 hdt hdf hl1 hc1 hs1
      go_wp2_with fail
      go_ret
      refine ⟨rfl, rbl q vf uf, ⟨vf, uf, ?_, rfl⟩, K1.out.mono (fun b _ hb => by simp at hb; subst hb; exact QM.out), fun b hb => .inl hb⟩
      rw [← S1.out]
      exact R1.out
    · have e1 : syncE s = 0 := by simp [syncE, hd', h0]
      have e2 : syncS s = s.synced := by simp [syncS, hd', h0]
      rw [e1, e2]
      have H0 := hid h0
      have HD := hid hd
      clear qm vm e1 e2 hd h0 hd'
      go_enter Tryz.func39, Tryz.ntmps39
      go_wp2_with (go_at_call 67; refine OPC.out.mono ?_)
      rintro e w1 ⟨d, s1, rfl, r1, k1, hd0, hdt, hdf, hl1, hc1⟩
      have hdd : d = false := by
        cases d with
        | true => exact absurd (hd0.1 rfl) H0.out
        | false => rfl
      subst hdd
      have R1 := hid r1
      have K1 := hid (k1.mono (S' := rbl q vf uf) (fun b _ hb => by simp at hb; subst hb; exact QM.out))
      have S1 := hid (hdf rfl)
      have HC1 := hid hc1
      clear r1 k1 hd0 hdt hdf hl1 hc1
      have hq0 := R1.out.c0
      have l0 : ∀ (W : World) (k : Nat) (UF : Nat → List Value), RefIn W q (s1.mix k).ref vf UF → (UF 0).length = s1.cnt ∧ (UF 1).length = s1.cnt := fun W k UF h => by
        refine ⟨?_, ?_⟩
        · rw [(h.row 0 (by decide) (by decide)).len]; show (rsOf _ 0).length = _; simp [rsOf, DS.mix]
        · rw [(h.row 1 (by decide) (by decide)).len]; show (rsOf _ 1).length = _; simp [rsOf, DS.mix]
      have L0 := hid l0
      clear hq0 l0
      go_wp2_with fail
      go_loopw [3] (fun i wr => ∃ (k : Nat) (UF : Nat → List Value), k ≤ s1.cnt ∧ i = .int .i64 k ∧ Hid (RefIn wr q (s1.mix k).ref vf UF) ∧ Hid (Keeps (rbl q vf uf) w wr) ∧ Hid (∀ b, RB q vf UF b → RB q vf uf b ∨ w.heap.size ≤ b)) (fun i _ => s1.cnt - (intOf i).toNat)
      case atStart => exact ⟨0, uf, Nat.zero_le _, rfl, by rw [mix_zero]; exact R1.out, K1.out, fun b hb => .inl hb⟩
      case round =>
        obtain ⟨k, UF, hk, rfl, R, K, FR⟩ := hrel
        have LL := L0.out _ _ _ R.out
        have hc4 : s1.cnt ≤ 4160 := by have := HC1.out; omega
        have row0 := R.out.row 0 (by decide) (by decide)
        obtain ⟨a0, cc0, e0⟩ := ownsRow_slice row0.own
        have C0 := hid R.out.c0
        rw [e0, LL.1] at C0
        have c0 := C0.out
        by_cases hlt : k < s1.cnt
        · obtain ⟨g0, x0, f0, _, hcs0⟩ := row0.open (by omega)
          have row1 := R.out.row 1 (by decide) (by decide)
          obtain ⟨g1, x1, f1, _, hcs1⟩ := row1.open (by omega)
          have eg : a0 = some ⟨g0, 0, none⟩ ∧ cc0 = x0 := by
            rw [e0] at f0
            injection f0 with f1 _ f2
            exact ⟨f1, f2⟩
          obtain ⟨eg1, eg2⟩ := eg
          subst eg1; subst eg2
          have C1 := hid R.out.c1
          have G1 := hid f1
          rw [f1, LL.2] at C1
          have CN := hid (hcs0 k (by omega))
          have RN := hid (row0.rows k (by omega))
          rw [show (s1.mix k).ref.rf 0 = (List.range s1.cnt).map (fun j => (s1.now j).1) from rfl] at RN
          rw [List.getD_eq_getElem?_getD, List.getElem?_map, List.getElem?_range hlt] at RN
          simp only [Option.map_some, Option.getD_some] at RN
          obtain ⟨ua, uc, ue, _⟩ := id RN.out
          rw [ue] at CN RN
          have LT := hid R.out.lt'
          have h64 := (s1.now k).2.1
          have N64 := hid h64
          have HLL := hid LL
          have LG0 : g0 < wr.heap.size := LT.out g0 (.inr ⟨0, by decide, .inl (by rw [e0]; rfl)⟩)
          clear row0 row1 hcs0 hcs1 e0 f0 f1 ue h64 LL
          rw [N64.out] at CN RN
          go_wp2_with fail
          refine wp_region_any (by kernel_rfl) (wpAny_of_late (late := [14]) (S := KpS [] wr.heap.size wr.drew) _ _ _ _ ?_)
          change wpAnyT _ _ _ _ _ _ _ _ _ wr.drew
          have cP : ∀ W1, KpS [] wr.heap.size wr.drew W1 → W1.cell? ⟨q, 0, none⟩ = some (.slice (some ⟨g0, 0, none⟩) s1.cnt cc0) ∧ W1.cell? ⟨q, 1, none⟩ = some (.slice (some ⟨g1, 0, none⟩) s1.cnt x1) ∧ W1.cell? ⟨g0, k, none⟩ = some (.slice ua 64 uc) := fun W1 h => ⟨h.cell (by rw [World.cell?_drew]; exact C0.out) (LT.out q (.inl rfl)) (by simp), h.cell (by rw [World.cell?_drew]; exact C1.out) (LT.out q (.inl rfl)) (by simp), h.cell (by rw [World.cell?_drew]; exact CN.out) LG0 (by simp)⟩
          refine late_take (i := 0) (v := .pointer (some ⟨q, 0, none⟩)) rfl (by kernel_rfl) (by kernel_rfl) (by kernel_rfl) (by kernel_rfl) (by kernel_rfl) (fun _ _ _ h => h) rfl (fun W1 hW1 => rfl) (KpS.refl _ _ _) ?_
          simp only [Act.put, List.setIfInBounds_toArray, List.set_cons_zero, List.set_cons_succ]
          refine late_take (i := 1) (v := .pointer (some ⟨q, 0, none⟩)) rfl (by kernel_rfl) (by kernel_rfl) (by kernel_rfl) (by kernel_rfl) (by kernel_rfl) (fun _ _ _ h => h) rfl (fun W1 hW1 => by go_simp) (KpS.refl _ _ _) ?_
          simp only [Act.put, List.setIfInBounds_toArray, List.set_cons_zero, List.set_cons_succ]
          refine late_take (i := 2) (v := .pointer (some ⟨q, 1, none⟩)) rfl (by kernel_rfl) (by kernel_rfl) (by kernel_rfl) (by kernel_rfl) (by kernel_rfl) (fun _ _ _ h => h) rfl (fun W1 hW1 => by go_simp) (KpS.refl _ _ _) ?_
          simp only [Act.put, List.setIfInBounds_toArray, List.set_cons_zero, List.set_cons_succ]
          refine late_take (i := 3) (v := .slice (some ⟨g1, 0, none⟩) s1.cnt x1) rfl (by kernel_rfl) (by kernel_rfl) (by kernel_rfl) (by kernel_rfl) (by kernel_rfl) (fun _ _ _ h => h) rfl (fun W1 hW1 => exec_load _ _ _ _ rfl rfl (run_loadCell W1 _ _ _ ((cP W1 hW1).2.1) (agg_no _ (by kernel_rfl)))) (KpS.refl _ _ _) ?_
          simp only [Act.put, List.setIfInBounds_toArray, List.set_cons_zero, List.set_cons_succ]
          refine late_take (i := 4) (v := .int .i64 (k : Int)) rfl (by kernel_rfl) (by kernel_rfl) (by kernel_rfl) (by kernel_rfl) (by kernel_rfl) (fun _ _ _ h => h) rfl (fun W1 hW1 => rfl) (KpS.refl _ _ _) ?_
          simp only [Act.put, List.setIfInBounds_toArray, List.set_cons_zero, List.set_cons_succ]
          refine late_take (i := 5) (v := .pointer (some ⟨q, 0, none⟩)) rfl (by kernel_rfl) (by kernel_rfl) (by kernel_rfl) (by kernel_rfl) (by kernel_rfl) (fun _ _ _ h => h) rfl (fun W1 hW1 => rfl) (KpS.refl _ _ _) ?_
          simp only [Act.put, List.setIfInBounds_toArray, List.set_cons_zero, List.set_cons_succ]
          refine late_take (i := 6) (v := .pointer (some ⟨q, 0, none⟩)) rfl (by kernel_rfl) (by kernel_rfl) (by kernel_rfl) (by kernel_rfl) (by kernel_rfl) (fun _ _ _ h => h) rfl (fun W1 hW1 => by go_simp) (KpS.refl _ _ _) ?_
          simp only [Act.put, List.setIfInBounds_toArray, List.set_cons_zero, List.set_cons_succ]
          refine late_take (i := 7) (v := .pointer (some ⟨q, 0, none⟩)) rfl (by kernel_rfl) (by kernel_rfl) (by kernel_rfl) (by kernel_rfl) (by kernel_rfl) (fun _ _ _ h => h) rfl (fun W1 hW1 => by go_simp) (KpS.refl _ _ _) ?_
          simp only [Act.put, List.setIfInBounds_toArray, List.set_cons_zero, List.set_cons_succ]
          refine late_take (i := 8) (v := .slice (some ⟨g0, 0, none⟩) s1.cnt cc0) rfl (by kernel_rfl) (by kernel_rfl) (by kernel_rfl) (by kernel_rfl) (by kernel_rfl) (fun _ _ _ h => h) rfl (fun W1 hW1 => exec_load _ _ _ _ rfl rfl (run_loadCell W1 _ _ _ ((cP W1 hW1).1) (agg_no _ (by kernel_rfl)))) (KpS.refl _ _ _) ?_
          simp only [Act.put, List.setIfInBounds_toArray, List.set_cons_zero, List.set_cons_succ]
          refine late_take (i := 9) (v := .int .i64 (k : Int)) rfl (by kernel_rfl) (by kernel_rfl) (by kernel_rfl) (by kernel_rfl) (by kernel_rfl) (fun _ _ _ h => h) rfl (fun W1 hW1 => rfl) (KpS.refl _ _ _) ?_
          simp only [Act.put, List.setIfInBounds_toArray, List.set_cons_zero, List.set_cons_succ]
          refine late_take (i := 10) (v := .pointer (some ⟨g0, k, none⟩)) rfl (by kernel_rfl) (by kernel_rfl) (by kernel_rfl) (by kernel_rfl) (by kernel_rfl) (fun _ _ _ h => h) rfl (fun W1 hW1 => by go_simp) (KpS.refl _ _ _) ?_
          simp only [Act.put, List.setIfInBounds_toArray, List.set_cons_zero, List.set_cons_succ]
          refine late_take (i := 11) (v := .slice ua 64 uc) rfl (by kernel_rfl) (by kernel_rfl) (by kernel_rfl) (by kernel_rfl) (by kernel_rfl) (fun _ _ _ h => h) rfl (fun W1 hW1 => exec_load _ _ _ _ rfl rfl (run_loadCell W1 _ _ _ ((cP W1 hW1).2.2) (agg_no _ (by kernel_rfl)))) (KpS.refl _ _ _) ?_
          simp only [Act.put, List.setIfInBounds_toArray, List.set_cons_zero, List.set_cons_succ]
          refine late_do (i := 12) (by kernel_rfl) rfl rfl (wp_enter (f := 42) (args := #[.slice ua 64 uc]) (by go_simp) (copy4_any wr.drew _ (s1.now k).1 (RN.out.keep ((Keeps.refl [] wr).drew) (by intro _ _ _ _ _; simp)) (by rw [N64.out]; omega)) ?_)
          rintro e w7 ⟨a7, c7, rfl, ow7, k7⟩
          have s7 : KpS [] wr.heap.size wr.drew w7 := (KpS.refl _ _ _).keeps k7 (by simp) (by simp)
          refine ⟨_, rfl, Or.inr s7, ?_⟩
          simp only [Act.put, List.setIfInBounds_toArray, List.set_cons_zero, List.set_cons_succ]
          refine late_take (i := 13) (v := .pointer (some ⟨g1, k, none⟩)) rfl (by kernel_rfl) (by kernel_rfl) (by kernel_rfl) (by kernel_rfl) (by kernel_rfl) (fun _ _ _ h => h) rfl (fun W1 hW1 => by go_simp) (s7) ?_
          simp only [Act.put, List.setIfInBounds_toArray, List.set_cons_zero, List.set_cons_succ]
          have k7' : Keeps [] wr w7 := (Keeps.refl [] wr).drew.trans k7
          have R7 := R.out.keep k7' (by simp)
          have h67 : wr.heap.size ≤ w7.heap.size := k7'.size
          have GV : vf 1 = .slice (some ⟨g1, 0, none⟩) (UF 1).length x1 := G1.out
          have rsw := R7.swap (s' := (s1.mix (k + 1)).ref) 1 (by decide) (by decide) k (by rw [HLL.out.2]; exact hlt) (.slice a7 (s1.now k).1.length c7) rfl (s1.now k).1 (row_of_own ow7 RN.out.bytes)
            (fun b e => by
              have h1 := ow7.lt b e
              simp only [World.size_drew] at h1
              refine ⟨fun e2 => ?_, fun j hj e2 => ?_, h1.2⟩
              · have := LT.out q (.inl rfl); omega
              · have := LT.out b (.inr ⟨j, hj, .inl e2⟩); omega)
            (map_mix s1 k) (fun j hj h1 h2 => by
              have : j = 0 ∨ j = 3 := by omega
              rcases this with rfl | rfl <;> rfl) rfl ⟨rfl, rfl, rfl⟩ g1 x1 GV
          obtain ⟨gx, cx, ex, _, hcx⟩ := (R7.row 1 (by decide) (by decide)).open (by rw [HLL.out.2]; omega)
          have eg : gx = g1 := by
            rw [GV] at ex
            injection ex with ex _ _
            injection ex with ex
            injection ex with ex
            exact ex.symm
          subst eg
          have cgi := hcx k (by rw [HLL.out.2]; exact hlt)
          have fgi : w7.frozen? ⟨gx, k, none⟩ = false := by
            have ho := (R7.row 1 (by decide) (by decide)).own
            rw [GV] at ho
            exact ho.frozenAt k
          generalize (UF 1)[k]'(by rw [HLL.out.2]; exact hlt) = ug at cgi
          refine late_do (i := 14) (by kernel_rfl) rfl rfl (wp_storedD (w' := w7.setCell ⟨gx, k, none⟩ (.slice a7 (s1.now k).1.length c7)) (by go_simp) ⟨Or.inl rfl, ?_⟩)
          simp only [Act.put]
          refine wpAnyT_done (by kernel_rfl) ?_ _
          have GM : gx ∈ rbl q vf uf := VM.out 1 (by decide) gx (by rw [GV]; rfl)
          have K8 := hid ((K.out.trans' (S' := []) k7' (by simp)).setCell (p := ⟨gx, k, none⟩) (.inl GM) (.slice a7 (s1.now k).1.length c7))
          have R8 := hid rsw
          have FR8 : Hid (∀ b, RB q vf (upd UF 1 ((UF 1).set k (.slice a7 (s1.now k).1.length c7))) b → RB q vf uf b ∨ w.heap.size ≤ b) := hid (fun b hb => by
            have hw6 : w.heap.size ≤ wr.heap.size := K.out.size
            rcases hb with rfl | ⟨j, hj, e | e⟩
            · exact .inl (.inl rfl)
            · exact FR.out b (.inr ⟨j, hj, .inl e⟩)
            · by_cases hj0 : j = 1
              · subst hj0
                rw [upd_same] at e
                obtain ⟨x, hx, ex⟩ := List.mem_filterMap.1 e
                rcases List.mem_or_eq_of_mem_set hx with hx | hx
                · exact FR.out b (.inr ⟨1, hj, .inr (List.mem_filterMap.2 ⟨x, hx, ex⟩)⟩)
                · subst hx
                  have h1 := ow7.lt b ex
                  simp only [World.size_drew] at h1
                  right; omega
              · rw [upd_ne _ _ hj0] at e
                exact FR.out b (.inr ⟨j, hj, .inr e⟩))
          clear cP s7 k7' R7 rsw ow7 k7 cgi fgi GV
          go_wp2_with fail
          go_roundw
          case rel => exact ⟨k + 1, _, by omega, by go_num, R8, K8, FR8⟩
          case measure => simp [intOf]; omega
        · have hke : k = s1.cnt := by omega
          subst hke
          have c2 := R.out.c2
          have f2 := R.out.fr 2
          have c3 := R.out.c3
          have f3 := R.out.fr 3
          obtain ⟨x2, y2, e2⟩ := ownsRow_slice R.out.at_
          rw [e2] at c2
          obtain ⟨x3, y3, e3⟩ := ownsRow_slice (R.out.row 3 (by decide) (by decide)).own
          rw [e3] at c3
          have r2 := R.out.put (w' := wr) (s' := { (s1.mix s1.cnt).ref with ats := [] }) 2 (by decide) (.slice none 0 0) [] (Nat.le_refl _) (fun _ _ _ => rfl) (fun b hb => by cases hb) (fun b hb => by cases hb) (fun h => absurd rfl h) (fun _ => ⟨rfl, World.ownsRow_nil _ _ _ _⟩) (fun _ _ _ _ => rfl) (fun h => absurd rfl h) ⟨rfl, rfl, rfl⟩
          have r3 := r2.put (w' := wr.setCell ⟨q, 2, none⟩ (.slice none 0 0)) (s' := ({ (s1.mix s1.cnt) with loose := [] } : DS).ref) 3 (by decide) (.slice none 0 0) [] (Nat.le_refl _) (fun _ _ _ => rfl) (fun b hb => by cases hb) (fun b hb => by cases hb) (fun _ => ⟨World.ownsRow_nil _ _ _ _, rfl, fun i hi => by simp at hi⟩) (fun h => by cases h) (fun j hj h3 h2 => by
            have : j = 0 ∨ j = 1 := by omega
            rcases this with rfl | rfl <;> rfl) (fun _ => rfl) ⟨rfl, rfl, rfl⟩
          have r4 := r3.congr (s' := s.synced.ref) (fun j hj h2 => by
            have : j = 0 ∨ j = 1 ∨ j = 3 := by omega
            have hS := S1.out
            rcases this with rfl | rfl | rfl
            · subst hS; rfl
            · subst hS
              show (List.range s.cnt).map (fun j => (s.now j).1) = (List.range s.cnt).map (fun j => ((if j < s.cnt then s.now j else s.las j)).1)
              exact List.map_congr_left fun j hj => by rw [if_pos (List.mem_range.1 hj)]
            · rfl) rfl (by have hS := S1.out; subst hS; exact ⟨rfl, rfl, rfl⟩)
          have R4 := hid r4
          have K4 := hid ((K.out.setCell (p := ⟨q, 2, none⟩) (.inl QM.out) (.slice none 0 0)).setCell (p := ⟨q, 3, none⟩) (.inl QM.out) (.slice none 0 0))
          have FR4 : Hid (∀ b, RB q (upd (upd vf 2 (.slice none 0 0)) 3 (.slice none 0 0)) (upd (upd UF 2 []) 3 []) b → RB q vf uf b ∨ w.heap.size ≤ b) := hid (fun b hb => by
            rcases rb_upd hb with hb | hb | hb
            · rcases rb_upd hb with hb | hb | hb
              · exact FR.out b hb
              · cases hb
              · cases hb
            · cases hb
            · cases hb)
          clear r2 r3 r4 row0
          go_wp2_with fail
          go_ret
          exact ⟨rfl, _, ⟨_, _, R4.out, rfl⟩, K4.out, rbl_sub FR4.out⟩
end Go.Proofs.YtiljhjegfklgmaaGreat
