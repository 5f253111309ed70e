/- once: the walk of the reference's LoadWindow. -/
import Derived.Test.YtkfebgbgnpdgpaaOnP
namespace Go.Proofs.Ytkfebgbgnpdgpaa
open Go.RowKit Go.Shelf
set_option maxRecDepth 100000
set_option linter.unusedSimpArgs false

def RLoad (w : World) (M : List Nat) (o : Option Tab) (e : Ending) (w' : World) : Prop :=
  (o = none ∧ e = .returned (.tuple #[.pointer none, .int .i64 4]) ∧ Keeps [] w w') ∨
  (∃ T q v rs, o = some T ∧ w.heap.size ≤ q ∧ e = .returned (.tuple #[.pointer (some ⟨q, 0, none⟩), .int .i64 0]) ∧ w'.heap[q]? = some (.cells #[v] 55 (0, 0)) ∧ RwsAt w' (q :: M) v rs ∧ rs.map Rw.con = refL T ∧ Keeps [] w w')

/-- The last client before place k. -/
def lastC (rs : List Rw) (k : Nat) : Int := if h : 0 < k ∧ k - 1 < rs.length then (rs[k - 1]'h.2).c else -1

set_option maxHeartbeats 12800000 in
theorem vLoad_any (w : World) (M : List Nat) (hM : ∀ b ∈ M, b < w.heap.size) (v : Value) (rs : List Rw) (h : RwsAt w [] v rs) (hl : rs.length ≤ 100) : Calls Try.prog 33 #[v] w (RLoad w M (loadF (-1) tab0 rs)) := by
  obtain ⟨a, c, rfl, -⟩ := id h
  have HH := hid h
  have HM := hid hM
  have ka := (Keeps.refl [] w).alloc (.cells #[.slice none 0 0] 55)
  have hb := heap_alloc_new w (.cells #[.slice none 0 0] 55)
  have hz : (w.alloc (.cells #[.slice none 0 0] 55)).heap.size = w.heap.size + 1 := by simp
  clear h hM
  go_enter Try.func33, Try.ntmps33
  go_wp2_with fail
  obtain ⟨q, hq⟩ : ∃ q, q = w.heap.size := ⟨_, rfl⟩
  rw [← hq] at hb ⊢
  obtain ⟨B, hB⟩ : ∃ B, B = (w.alloc (.cells #[.slice none 0 0] 55)).heap.size := ⟨_, rfl⟩
  have HQ := hid (show w.heap.size ≤ q by omega)
  have HQB := hid (show q < B by omega)
  have HB1 := hid (show w.heap.size ≤ B by omega)
  have HB0 := hid (show B ≤ (w.alloc (.cells #[.slice none 0 0] 55)).heap.size by omega)
  have MQ : Hid (∀ b ∈ q :: M, b < B) := hid (fun b hb => by
    rcases List.mem_cons.1 hb with rfl | hb
    · omega
    · have := HM.out b hb; omega)
  have KA := hid ka
  have BA := hid hb
  clear ka hb hz hq hB
  generalize w.alloc (.cells #[.slice none 0 0] 55) = w1 at KA BA HB0 ⊢
  go_loopw [5] (fun iv wr => ∃ (k : Nat) (T : Tab) (a2 : Option Addr) (c2 : Nat) (out : List Rw), k ≤ rs.length ∧ iv = .int .i64 k ∧ wr.heap[q]? = some (.cells #[.slice a2 k c2] 55 (0, 0)) ∧ out.length = k ∧ OwnW 60 wr B (q :: M) (.slice a2 k c2) out ∧ out.map Rw.con = (rs.take k).map Rw.con ∧ loadF (-1) tab0 rs = loadF (lastC rs k) T (rs.drop k) ∧ Keeps [] w wr ∧ B ≤ wr.heap.size) (fun iv _ => rs.length - (intOf iv).toNat)
  case atStart => exact ⟨0, tab0, none, 0, [], by omega, rfl, BA.out, rfl, OwnW.nil _ _ _ _ MQ.out, rfl, rfl, KA.out, HB0.out⟩
  case round =>
    obtain ⟨k, T, a2, c2, out, hk, rfl, hbq, hlen, ho, hcon, hL, kk, hB2⟩ := hrel
    have BQ := hid hbq
    have LEN := hid hlen
    have HO := hid ho
    have CON := hid hcon
    have HL := hid hL
    have KK := hid kk
    have HB := hid hB2
    clear hbq hlen ho hcon hL kk hB2
    by_cases hlt : k < rs.length
    · obtain ⟨_, _, haw, -, gw, -, -, -, -, -⟩ := HH.out.at k hlt
      obtain ⟨g, off, ha, -, gl, -, d0, d1, d2, d3⟩ := (HH.out.later KK.out).at k hlt
      rw [ha] at haw
      injection haw with haw
      injection haw with e1 e2 _
      subst e1; subst e2
      subst ha
      have GW := hid gw
      clear gw
      have OK := hid ((HH.out.ok rs[k] (List.getElem_mem _)).later KK.out)
      obtain ⟨ra, rc, hrow, -⟩ := OK.out.row
      rw [hrow] at d3
      have HROW := hid hrow
      have HD := hid (List.drop_eq_getElem_cons hlt)
      have HT := hid (List.take_succ_eq_append_getElem hlt)
      have LC : Hid (lastC rs (k + 1) = rs[k].c) := hid (by unfold lastC; rw [dif_pos ⟨by omega, by simpa using hlt⟩]; rfl)
      obtain ⟨pc, hpc⟩ : ∃ pc, pc = lastC rs k := ⟨_, rfl⟩
      have PREV : Hid (0 < k → wr.cell? ⟨g, off + (k - 1) * 4, none⟩ = some (.int .i64 pc)) := hid (fun h0 => by
        have h1 : k - 1 < rs.length := by omega
        obtain ⟨g', off', ha', -, -, -, e0, -, -, -⟩ := (HH.out.later KK.out).at (k - 1) h1
        have ha2 := Option.some.inj ha'
        injection ha2 with e1 e2 _
        rw [← e1, ← e2] at e0
        rw [e0, hpc]
        unfold lastC
        rw [dif_pos ⟨h0, h1⟩])
      have LZ : Hid (k = 0 → pc = -1) := hid (fun h0 => by rw [hpc]; unfold lastC; rw [dif_neg (by omega)])
      rw [← hpc] at HL
      obtain ⟨r, hr⟩ : ∃ r, r = rs[k] := ⟨_, rfl⟩
      rw [← hr] at OK HROW HD HT LC d0 d1 d2 d3
      clear hrow hr hpc
      have MB := hid (fun W => vMay_any W r.c r.l r.s)
      unfold stV at MB
      have cq : wr.cell? ⟨q, 0, none⟩ = some (.slice a2 k c2) := by
        have := BQ.out
        simp [World.cell?, this]
      have ql := lt_of_block BQ.out
      by_cases hm : mayS r.c r.l r.s = true
      · rw [hm] at MB
        have MM := hid hm
        by_cases hc : pc < r.c
        · have HL2 : Hid (loadF (-1) tab0 rs = loadF r.c (T.put r.c.toNat (r.l, r.s, r.bs)) (rs.drop (k + 1))) := hid (by
            rw [HL.out, HD.out]
            simp only [loadF]
            rw [if_pos ⟨hm, hc⟩])
          have tle : decide (r.c ≤ pc) = false := by simp; omega
          clear hm hc
          by_cases h0 : k = 0
          · have t0 : decide ((0 : Int) < (k : Int)) = false := by simp; omega
            have H0 := hid h0
            clear h0
            go_wp2_with fail
            refine wp_region_any (by kernel_rfl) (wpAny_of_held (S := KpS [] wr.heap.size wr.drew) _ _ _ _ ?_)
            change wpAnyH _ _ _ _ _ _ _ _ wr.drew
            have D0 : ∀ W1, KpS [] wr.heap.size wr.drew W1 → W1.cell? ⟨g, off + k * 4, none⟩ = some (.int .i64 r.c) := fun W1 h => h.cell (by rw [World.cell?_drew]; exact d0) gl (by simp)
            have D1 : ∀ W1, KpS [] wr.heap.size wr.drew W1 → W1.cell? ⟨g, off + k * 4 + 1, none⟩ = some (.int .i64 r.l) := fun W1 h => h.cell (by rw [World.cell?_drew]; exact d1) gl (by simp)
            have D2 : ∀ W1, KpS [] wr.heap.size wr.drew W1 → W1.cell? ⟨g, off + k * 4 + 2, none⟩ = some (.int .i64 r.s) := fun W1 h => h.cell (by rw [World.cell?_drew]; exact d2) gl (by simp)
            have D3 : ∀ W1, KpS [] wr.heap.size wr.drew W1 → W1.cell? ⟨g, off + k * 4 + 3, none⟩ = some (.slice ra r.bs.length rc) := fun W1 h => h.cell (by rw [World.cell?_drew]; exact d3) gl (by simp)
            refine held_take (i := 0) (v := .slice (some ⟨g, off, none⟩) rs.length c) rfl (by kernel_rfl) (by kernel_rfl) (by kernel_rfl) (fun _ _ _ h => h) rfl (fun W1 hW1 => rfl) (KpS.refl _ _ _) ?_
            simp only [Act.put, List.setIfInBounds_toArray, List.set_cons_zero, List.set_cons_succ]
            refine held_take (i := 1) (v := .int .i64 k) rfl (by kernel_rfl) (by kernel_rfl) (by kernel_rfl) (fun _ _ _ h => h) rfl (fun W1 hW1 => rfl) (KpS.refl _ _ _) ?_
            simp only [Act.put, List.setIfInBounds_toArray, List.set_cons_zero, List.set_cons_succ]
            refine held_take (i := 2) (v := .pointer (some ⟨g, off + k * 4, none⟩)) rfl (by kernel_rfl) (by kernel_rfl) (by kernel_rfl) (fun _ _ _ h => h) rfl (fun W1 hW1 => by go_simp) (KpS.refl _ _ _) ?_
            simp only [Act.put, List.setIfInBounds_toArray, List.set_cons_zero, List.set_cons_succ]
            refine held_take (i := 3) (v := .pointer (some ⟨g, off + k * 4, none⟩)) rfl (by kernel_rfl) (by kernel_rfl) (by kernel_rfl) (fun _ _ _ h => h) rfl (fun W1 hW1 => by go_simp) (KpS.refl _ _ _) ?_
            simp only [Act.put, List.setIfInBounds_toArray, List.set_cons_zero, List.set_cons_succ]
            refine held_take (i := 4) (v := .agg #[.int .i64 r.c, .int .i64 r.l, .int .i64 r.s]) rfl (by kernel_rfl) (by kernel_rfl) (by kernel_rfl) (fun _ _ _ h => h) rfl (fun W1 hW1 => exec_load _ _ _ _ rfl rfl (loadV8 (D0 W1 hW1) (D1 W1 hW1) (D2 W1 hW1))) (KpS.refl _ _ _) ?_
            simp only [Act.put, List.setIfInBounds_toArray, List.set_cons_zero, List.set_cons_succ]
            refine held_do (i := 5) (by kernel_rfl) rfl rfl (wp_enter (f := 34) (args := #[.agg #[.int .i64 r.c, .int .i64 r.l, .int .i64 r.s]]) (by go_simp) (MB.out wr.drew) ?_)
            rintro e w3 ⟨rfl, k3⟩
            have sC : KpS [] wr.heap.size wr.drew w3 := (KpS.refl _ _ _).keeps k3 (by simp) (by simp)
            refine ⟨_, rfl, sC, ?_⟩
            simp only [Act.put, List.setIfInBounds_toArray, List.set_cons_zero, List.set_cons_succ]
            refine held_take (i := 6) (v := .bool false) rfl (by kernel_rfl) (by kernel_rfl) (by kernel_rfl) (fun _ _ _ h => h) rfl (fun W1 hW1 => by go_simp) (sC) ?_
            simp only [Act.put, List.setIfInBounds_toArray, List.set_cons_zero, List.set_cons_succ]
            refine held_take (i := 7) (v := .bool false) rfl (by kernel_rfl) (by kernel_rfl) (by kernel_rfl) (fun _ _ _ h => h) rfl (fun W1 hW1 => by go_simp) (sC) ?_
            simp only [Act.put, List.setIfInBounds_toArray, List.set_cons_zero, List.set_cons_succ]
            refine held_takeW (i := 8) (v := .int .i64 k) rfl (by kernel_rfl) (by kernel_rfl) (by kernel_rfl) (fun _ _ _ h => h) rfl (fun W1 hW1 => rfl) (sC) ?_
            simp only [Act.put, List.setIfInBounds_toArray, List.set_cons_zero, List.set_cons_succ]
            refine held_takeW (i := 9) (v := .bool false) rfl (by kernel_rfl) (by kernel_rfl) (by kernel_rfl) (fun _ _ _ h => h) rfl (fun W1 hW1 => by go_simp; exact H0.out) (sC) ?_
            simp only [Act.put, List.setIfInBounds_toArray, List.set_cons_zero, List.set_cons_succ]
            refine held_takeW (i := 10) (v := .bool false) rfl (by kernel_rfl) (by kernel_rfl) (by kernel_rfl) (fun _ _ _ h => h) rfl (fun W1 hW1 => by go_simp) (sC) ?_
            simp only [Act.put, List.setIfInBounds_toArray, List.set_cons_zero, List.set_cons_succ]
            refine held_skip (i := 11) rfl (by kernel_rfl) (by kernel_rfl) (by kernel_rfl) (fun _ _ _ h => h) rfl (sC) ?_
            simp only [Act.put, List.setIfInBounds_toArray, List.set_cons_zero, List.set_cons_succ]
            refine held_skip (i := 12) rfl (by kernel_rfl) (by kernel_rfl) (by kernel_rfl) (fun _ _ _ h => h) rfl (sC) ?_
            simp only [Act.put, List.setIfInBounds_toArray, List.set_cons_zero, List.set_cons_succ]
            refine held_skip (i := 13) rfl (by kernel_rfl) (by kernel_rfl) (by kernel_rfl) (fun _ _ _ h => h) rfl (sC) ?_
            simp only [Act.put, List.setIfInBounds_toArray, List.set_cons_zero, List.set_cons_succ]
            refine held_skip (i := 14) rfl (by kernel_rfl) (by kernel_rfl) (by kernel_rfl) (fun _ _ _ h => h) rfl (sC) ?_
            simp only [Act.put, List.setIfInBounds_toArray, List.set_cons_zero, List.set_cons_succ]
            refine held_skip (i := 15) rfl (by kernel_rfl) (by kernel_rfl) (by kernel_rfl) (fun _ _ _ h => h) rfl (sC) ?_
            simp only [Act.put, List.setIfInBounds_toArray, List.set_cons_zero, List.set_cons_succ]
            refine held_skip (i := 16) rfl (by kernel_rfl) (by kernel_rfl) (by kernel_rfl) (fun _ _ _ h => h) rfl (sC) ?_
            simp only [Act.put, List.setIfInBounds_toArray, List.set_cons_zero, List.set_cons_succ]
            refine held_skip (i := 17) rfl (by kernel_rfl) (by kernel_rfl) (by kernel_rfl) (fun _ _ _ h => h) rfl (sC) ?_
            simp only [Act.put, List.setIfInBounds_toArray, List.set_cons_zero, List.set_cons_succ]
            refine held_skip (i := 18) rfl (by kernel_rfl) (by kernel_rfl) (by kernel_rfl) (fun _ _ _ h => h) rfl (sC) ?_
            simp only [Act.put, List.setIfInBounds_toArray, List.set_cons_zero, List.set_cons_succ]
            refine held_skip (i := 19) rfl (by kernel_rfl) (by kernel_rfl) (by kernel_rfl) (fun _ _ _ h => h) rfl (sC) ?_
            simp only [Act.put, List.setIfInBounds_toArray, List.set_cons_zero, List.set_cons_succ]
            refine held_skip (i := 20) rfl (by kernel_rfl) (by kernel_rfl) (by kernel_rfl) (fun _ _ _ h => h) rfl (sC) ?_
            simp only [Act.put, List.setIfInBounds_toArray, List.set_cons_zero, List.set_cons_succ]
            refine held_skip (i := 21) rfl (by kernel_rfl) (by kernel_rfl) (by kernel_rfl) (fun _ _ _ h => h) rfl (sC) ?_
            simp only [Act.put, List.setIfInBounds_toArray, List.set_cons_zero, List.set_cons_succ]
            refine held_skip (i := 22) rfl (by kernel_rfl) (by kernel_rfl) (by kernel_rfl) (fun _ _ _ h => h) rfl (sC) ?_
            simp only [Act.put, List.setIfInBounds_toArray, List.set_cons_zero, List.set_cons_succ]
            refine held_skip (i := 23) rfl (by kernel_rfl) (by kernel_rfl) (by kernel_rfl) (fun _ _ _ h => h) rfl (sC) ?_
            simp only [Act.put, List.setIfInBounds_toArray, List.set_cons_zero, List.set_cons_succ]
            refine held_skip (i := 24) rfl (by kernel_rfl) (by kernel_rfl) (by kernel_rfl) (fun _ _ _ h => h) rfl (sC) ?_
            simp only [Act.put, List.setIfInBounds_toArray, List.set_cons_zero, List.set_cons_succ]
            refine held_takeW (i := 25) (v := .bool false) rfl (by kernel_rfl) (by kernel_rfl) (by kernel_rfl) (fun _ _ _ h => h) rfl (fun W1 hW1 => by go_simp) (sC) ?_
            simp only [Act.put, List.setIfInBounds_toArray, List.set_cons_zero, List.set_cons_succ]
            refine held_take (i := 26) (v := .bool false) rfl (by kernel_rfl) (by kernel_rfl) (by kernel_rfl) (fun _ _ _ h => h) rfl (fun W1 hW1 => by go_simp) (sC) ?_
            simp only [Act.put, List.setIfInBounds_toArray, List.set_cons_zero, List.set_cons_succ]
            refine wpAnyH_done (by kernel_rfl) ?_ _
            have KD := hid ((Keeps.refl [] wr).drew.trans k3)
            clear D0 D1 D2 D3 sC k3
            have KK := hid (KK.out.trans KD.out)
            have HO := hid (HO.out.later KD.out)
            have OK := hid (OK.out.later KD.out)
            have BQ := hid ((KD.out.block q ql (by simp)).trans BQ.out)
            have HB := hid (Nat.le_trans HB.out KD.out.size)
            have d0 := KD.out.cell' d0 (by simp)
            have d1 := KD.out.cell' d1 (by simp)
            have d2 := KD.out.cell' d2 (by simp)
            have d3 := KD.out.cell' d3 (by simp)
            have cq := KD.out.cell' cq (by simp)
            have gl := Nat.lt_of_lt_of_le gl KD.out.size
            have ql := Nat.lt_of_lt_of_le ql KD.out.size
            have nq : q ∉ (Value.slice a2 k c2).ownBlock.toList := fun hm => by have := (HO.out.blk q (by simpa using hm)).1; have := HQB.out; omega
            have ng : g ∉ (Value.slice a2 k c2).ownBlock.toList := fun hm => by have := (HO.out.blk g (by simpa using hm)).1; have := HB1.out; have := GW.out; omega
            go_wp2_with fail
            refine wp_region_any (by kernel_rfl) (wpAny_of_late (late := [21]) (S := KpS (Value.slice a2 k c2).ownBlock.toList w3.heap.size w3.drew) _ _ _ _ ?_)
            change wpAnyT _ _ _ _ _ _ _ _ _ w3.drew
            have D0 : ∀ W1, KpS (Value.slice a2 k c2).ownBlock.toList w3.heap.size w3.drew W1 → W1.cell? ⟨g, off + k * 4, none⟩ = some (.int .i64 r.c) := fun W1 h => h.cell (by rw [World.cell?_drew]; exact d0) gl (ng)
            have D1 : ∀ W1, KpS (Value.slice a2 k c2).ownBlock.toList w3.heap.size w3.drew W1 → W1.cell? ⟨g, off + k * 4 + 1, none⟩ = some (.int .i64 r.l) := fun W1 h => h.cell (by rw [World.cell?_drew]; exact d1) gl (ng)
            have D2 : ∀ W1, KpS (Value.slice a2 k c2).ownBlock.toList w3.heap.size w3.drew W1 → W1.cell? ⟨g, off + k * 4 + 2, none⟩ = some (.int .i64 r.s) := fun W1 h => h.cell (by rw [World.cell?_drew]; exact d2) gl (ng)
            have D3 : ∀ W1, KpS (Value.slice a2 k c2).ownBlock.toList w3.heap.size w3.drew W1 → W1.cell? ⟨g, off + k * 4 + 3, none⟩ = some (.slice ra r.bs.length rc) := fun W1 h => h.cell (by rw [World.cell?_drew]; exact d3) gl (ng)
            have C0 : ∀ W1, KpS (Value.slice a2 k c2).ownBlock.toList w3.heap.size w3.drew W1 → W1.cell? ⟨q, 0, none⟩ = some (.slice a2 k c2) := fun W1 h => h.cell (by rw [World.cell?_drew]; exact cq) ql nq
            refine late_take (i := 0) (v := .pointer (some ⟨q, 0, none⟩)) rfl (by kernel_rfl) (by kernel_rfl) (by kernel_rfl) (by kernel_rfl) (by kernel_rfl) (fun _ _ _ h => h) rfl (fun W1 hW1 => rfl) (KpS.refl _ _ _) ?_
            simp only [Act.put, List.setIfInBounds_toArray, List.set_cons_zero, List.set_cons_succ]
            refine late_take (i := 1) (v := .pointer (some ⟨q, 0, none⟩)) rfl (by kernel_rfl) (by kernel_rfl) (by kernel_rfl) (by kernel_rfl) (by kernel_rfl) (fun _ _ _ h => h) rfl (fun W1 hW1 => rfl) (KpS.refl _ _ _) ?_
            simp only [Act.put, List.setIfInBounds_toArray, List.set_cons_zero, List.set_cons_succ]
            refine late_take (i := 2) (v := .pointer (some ⟨q, 0, none⟩)) rfl (by kernel_rfl) (by kernel_rfl) (by kernel_rfl) (by kernel_rfl) (by kernel_rfl) (fun _ _ _ h => h) rfl (fun W1 hW1 => by go_simp) (KpS.refl _ _ _) ?_
            simp only [Act.put, List.setIfInBounds_toArray, List.set_cons_zero, List.set_cons_succ]
            refine late_take (i := 3) (v := .pointer (some ⟨q, 0, none⟩)) rfl (by kernel_rfl) (by kernel_rfl) (by kernel_rfl) (by kernel_rfl) (by kernel_rfl) (fun _ _ _ h => h) rfl (fun W1 hW1 => by go_simp) (KpS.refl _ _ _) ?_
            simp only [Act.put, List.setIfInBounds_toArray, List.set_cons_zero, List.set_cons_succ]
            refine late_take (i := 4) (v := .slice a2 k c2) rfl (by kernel_rfl) (by kernel_rfl) (by kernel_rfl) (by kernel_rfl) (by kernel_rfl) (fun _ _ _ h => h) rfl (fun W1 hW1 => exec_load _ _ _ _ rfl rfl (run_loadCell W1 _ _ _ (C0 W1 hW1) (agg_no _ (by kernel_rfl)))) (KpS.refl _ _ _) ?_
            simp only [Act.put, List.setIfInBounds_toArray, List.set_cons_zero, List.set_cons_succ]
            refine late_take (i := 5) (v := .slice (some ⟨g, off, none⟩) rs.length c) rfl (by kernel_rfl) (by kernel_rfl) (by kernel_rfl) (by kernel_rfl) (by kernel_rfl) (fun _ _ _ h => h) rfl (fun W1 hW1 => rfl) (KpS.refl _ _ _) ?_
            simp only [Act.put, List.setIfInBounds_toArray, List.set_cons_zero, List.set_cons_succ]
            refine late_take (i := 6) (v := .int .i64 k) rfl (by kernel_rfl) (by kernel_rfl) (by kernel_rfl) (by kernel_rfl) (by kernel_rfl) (fun _ _ _ h => h) rfl (fun W1 hW1 => rfl) (KpS.refl _ _ _) ?_
            simp only [Act.put, List.setIfInBounds_toArray, List.set_cons_zero, List.set_cons_succ]
            refine late_take (i := 7) (v := .pointer (some ⟨g, off + k * 4, none⟩)) rfl (by kernel_rfl) (by kernel_rfl) (by kernel_rfl) (by kernel_rfl) (by kernel_rfl) (fun _ _ _ h => h) rfl (fun W1 hW1 => by go_simp) (KpS.refl _ _ _) ?_
            simp only [Act.put, List.setIfInBounds_toArray, List.set_cons_zero, List.set_cons_succ]
            refine late_take (i := 8) (v := .pointer (some ⟨g, off + k * 4, none⟩)) rfl (by kernel_rfl) (by kernel_rfl) (by kernel_rfl) (by kernel_rfl) (by kernel_rfl) (fun _ _ _ h => h) rfl (fun W1 hW1 => by go_simp) (KpS.refl _ _ _) ?_
            simp only [Act.put, List.setIfInBounds_toArray, List.set_cons_zero, List.set_cons_succ]
            refine late_take (i := 9) (v := .agg #[.int .i64 r.c, .int .i64 r.l, .int .i64 r.s]) rfl (by kernel_rfl) (by kernel_rfl) (by kernel_rfl) (by kernel_rfl) (by kernel_rfl) (fun _ _ _ h => h) rfl (fun W1 hW1 => exec_load _ _ _ _ rfl rfl (loadV8 (D0 W1 hW1) (D1 W1 hW1) (D2 W1 hW1))) (KpS.refl _ _ _) ?_
            simp only [Act.put, List.setIfInBounds_toArray, List.set_cons_zero, List.set_cons_succ]
            refine late_take (i := 10) (v := .slice (some ⟨g, off, none⟩) rs.length c) rfl (by kernel_rfl) (by kernel_rfl) (by kernel_rfl) (by kernel_rfl) (by kernel_rfl) (fun _ _ _ h => h) rfl (fun W1 hW1 => rfl) (KpS.refl _ _ _) ?_
            simp only [Act.put, List.setIfInBounds_toArray, List.set_cons_zero, List.set_cons_succ]
            refine late_take (i := 11) (v := .int .i64 k) rfl (by kernel_rfl) (by kernel_rfl) (by kernel_rfl) (by kernel_rfl) (by kernel_rfl) (fun _ _ _ h => h) rfl (fun W1 hW1 => rfl) (KpS.refl _ _ _) ?_
            simp only [Act.put, List.setIfInBounds_toArray, List.set_cons_zero, List.set_cons_succ]
            refine late_take (i := 12) (v := .pointer (some ⟨g, off + k * 4, none⟩)) rfl (by kernel_rfl) (by kernel_rfl) (by kernel_rfl) (by kernel_rfl) (by kernel_rfl) (fun _ _ _ h => h) rfl (fun W1 hW1 => by go_simp) (KpS.refl _ _ _) ?_
            simp only [Act.put, List.setIfInBounds_toArray, List.set_cons_zero, List.set_cons_succ]
            refine late_take (i := 13) (v := .pointer (some ⟨g, off + k * 4 + 3, none⟩)) rfl (by kernel_rfl) (by kernel_rfl) (by kernel_rfl) (by kernel_rfl) (by kernel_rfl) (fun _ _ _ h => h) rfl (fun W1 hW1 => by go_simp) (KpS.refl _ _ _) ?_
            simp only [Act.put, List.setIfInBounds_toArray, List.set_cons_zero, List.set_cons_succ]
            refine late_take (i := 14) (v := .slice ra r.bs.length rc) rfl (by kernel_rfl) (by kernel_rfl) (by kernel_rfl) (by kernel_rfl) (by kernel_rfl) (fun _ _ _ h => h) rfl (fun W1 hW1 => exec_load _ _ _ _ rfl rfl (run_loadCell W1 _ _ _ (D3 W1 hW1) (agg_no _ (by kernel_rfl)))) (KpS.refl _ _ _) ?_
            simp only [Act.put, List.setIfInBounds_toArray, List.set_cons_zero, List.set_cons_succ]
            have rr := OK.out.row
            rw [HROW.out] at rr
            refine late_do (i := 15) (by kernel_rfl) rfl rfl (wp_enter (f := 48) (args := #[.slice ra r.bs.length rc]) (by go_simp) (copyR_any w3.drew _ r.bs (rr.keep ((Keeps.refl [] w3).drew) (by intro _ _ _ _ _; simp)) (by have := OK.out.fit; omega)) ?_)
            rintro e wk3 ⟨a3, c3, rfl, r3, n3, k3⟩
            have sC : KpS (Value.slice a2 k c2).ownBlock.toList w3.heap.size w3.drew wk3 := (KpS.refl _ _ _).keeps k3 (by simp) (by simp)
            refine ⟨_, rfl, Or.inr sC, ?_⟩
            simp only [Act.put, List.setIfInBounds_toArray, List.set_cons_zero, List.set_cons_succ]
            refine late_take (i := 16) (v := .agg #[.int .i64 r.c, .int .i64 r.l, .int .i64 r.s, .slice a3 r.bs.length c3]) rfl (by kernel_rfl) (by kernel_rfl) (by kernel_rfl) (by kernel_rfl) (by kernel_rfl) (fun _ _ _ h => h) rfl (fun W1 hW1 => by go_simp) (sC) ?_
            simp only [Act.put, List.setIfInBounds_toArray, List.set_cons_zero, List.set_cons_succ]
            refine late_do (i := 17) (by kernel_rfl) rfl rfl (wp_value (exec_oneRw rtV _ _ _ _ _ _ _ rfl rfl) ?_)
            have kD : Keeps [] w3 wk3 := (Keeps.refl [] w3).drew.trans k3
            have hzr := KK.out.size
            have hzd := kD.size
            have MQ3 : ∀ b ∈ q :: M, b < w3.drew.heap.size := fun b hb => by
              rcases List.mem_cons.1 hb with rfl | hb
              · exact ql
              · have h1 := HM.out b hb
                exact Nat.lt_of_lt_of_le h1 hzr
            have OK3 : RwOk wk3 (q :: M) ⟨r.c, r.l, r.s, .slice a3 r.bs.length c3, r.bs⟩ := ⟨r3, off_new n3 MQ3, OK.out.fit, OK.out.b0, OK.out.b1, OK.out.b2⟩
            obtain ⟨a4, c4, w4, hr4, o4, k4⟩ := append_row rtV (HO.out.later kD) ⟨r.c, r.l, r.s, .slice a3 r.bs.length c3, r.bs⟩ OK3 (off_new n3 (fun b hb => (HO.out.blk b (by simpa using hb)).2)) (by rw [LEN.out]; omega) (Nat.le_trans HB.out hzd) 50 rfl
            rw [LEN.out] at hr4 o4
            refine ⟨Or.inr (sC.keeps ((Keeps.refl [] wk3).alloc _) kD.size (by simp)), ?_⟩
            simp only [Act.put, List.setIfInBounds_toArray, List.set_cons_zero, List.set_cons_succ]
            refine late_do (i := 18) (by kernel_rfl) rfl rfl (wp_value (exec_appendT 50 _ _ rfl rfl rfl hr4) ?_)
            have sF : KpS (Value.slice a2 k c2).ownBlock.toList w3.heap.size w3.drew w4 := sC.keeps k4 kD.size (fun j hj _ => hj)
            refine ⟨Or.inr sF, ?_⟩
            simp only [Act.put, List.setIfInBounds_toArray, List.set_cons_zero, List.set_cons_succ]
            refine late_take (i := 19) (v := .pointer (some ⟨q, 0, none⟩)) rfl (by kernel_rfl) (by kernel_rfl) (by kernel_rfl) (by kernel_rfl) (by kernel_rfl) (fun _ _ _ h => h) rfl (fun W1 hW1 => by go_simp) (sF) ?_
            simp only [Act.put, List.setIfInBounds_toArray, List.set_cons_zero, List.set_cons_succ]
            refine late_take (i := 20) (v := .pointer (some ⟨q, 0, none⟩)) rfl (by kernel_rfl) (by kernel_rfl) (by kernel_rfl) (by kernel_rfl) (by kernel_rfl) (fun _ _ _ h => h) rfl (fun W1 hW1 => by go_simp) (sF) ?_
            simp only [Act.put, List.setIfInBounds_toArray, List.set_cons_zero, List.set_cons_succ]
            have hbq : w4.heap[q]? = some (.cells #[.slice a2 k c2] 55 (0, 0)) := (sF.block q ql nq).trans BQ.out
            have kw4 : Keeps [] w w4 := (KK.out.trans kD).trans' k4 (fun j hj hm => by have := (HO.out.blk j (by simpa using hm)).1; have := HB1.out; omega)
            have kset : Keeps [q] w4 (w4.setCell ⟨q, 0, none⟩ (.slice a4 (k + 1) c4)) := (Keeps.refl [q] w4).setCell (p := ⟨q, 0, none⟩) (Or.inl (by simp)) _
            have hbq2 := heap_setCell_same w4 q 0 _ 55 (.slice a4 (k + 1) c4) hbq
            refine late_do (i := 21) (by kernel_rfl) rfl rfl (wp_stored (w' := w4.setCell ⟨q, 0, none⟩ (.slice a4 (k + 1) c4)) (by have q1 : w4.cell? ⟨q, 0, none⟩ = some (.slice a2 k c2) := (by simp [World.cell?, hbq]); have q2 : w4.frozen? ⟨q, 0, none⟩ = false := (by simp [World.frozen?, hbq]); go_simp) ?_)
            refine ⟨Or.inl rfl, ?_⟩
            simp only [Act.put, List.setIfInBounds_toArray, List.set_cons_zero, List.set_cons_succ]
            refine wpAnyT_done (by kernel_rfl) ?_ _
            have BQ2 : Hid ((w4.setCell ⟨q, 0, none⟩ (.slice a4 (k + 1) c4)).heap[q]? = some (.cells #[.slice a4 (k + 1) c4] 55 (0, 0))) := hid hbq2
            have O4 := hid (o4.keep kset (by simp))
            have KW4 : Hid (Keeps [] w (w4.setCell ⟨q, 0, none⟩ (.slice a4 (k + 1) c4))) := hid (kw4.trans' kset (fun j hj hm => by simp at hm; have := HQ.out; omega))
            have KSZ : Hid (B ≤ (w4.setCell ⟨q, 0, none⟩ (.slice a4 (k + 1) c4)).heap.size) := hid (by have h1 := kset.size; have h2 := k4.size; have h3 := HB.out; omega)
            clear D0 D1 D2 D3 C0 sC sF hr4 o4 k4 kD r3 n3 k3 OK3 MQ3 rr hbq hbq2 kset kw4 hzr hzd
            generalize w4.setCell ⟨q, 0, none⟩ (.slice a4 (k + 1) c4) = w5 at BQ2 O4 KW4 KSZ ⊢
            go_wp2_with fail
            go_roundw
            case rel =>
              refine ⟨k + 1, _, a4, c4, out ++ [⟨r.c, r.l, r.s, .slice a3 r.bs.length c3, r.bs⟩], by omega, by go_num, BQ2.out, by rw [List.length_append, LEN.out]; rfl, O4.out, ?_, by rw [LC.out]; exact HL2.out, KW4.out, KSZ.out⟩
              rw [HT.out, List.map_append, List.map_append, CON.out]
              rfl
            case measure => simp [intOf]; omega
          · have t0 : decide ((0 : Int) < (k : Int)) = true := by simp; omega
            have p0 := PREV.out (by omega)
            have hwk : IntKind.i64.wrap ((k : Int) - 1) = ((k - 1 : Nat) : Int) := by rw [IntKind.wrap_i64]; omega
            go_wp2_with fail
            refine wp_region_any (by kernel_rfl) (wpAny_of_held (S := KpS [] wr.heap.size wr.drew) _ _ _ _ ?_)
            change wpAnyH _ _ _ _ _ _ _ _ wr.drew
            have D0 : ∀ W1, KpS [] wr.heap.size wr.drew W1 → W1.cell? ⟨g, off + k * 4, none⟩ = some (.int .i64 r.c) := fun W1 h => h.cell (by rw [World.cell?_drew]; exact d0) gl (by simp)
            have D1 : ∀ W1, KpS [] wr.heap.size wr.drew W1 → W1.cell? ⟨g, off + k * 4 + 1, none⟩ = some (.int .i64 r.l) := fun W1 h => h.cell (by rw [World.cell?_drew]; exact d1) gl (by simp)
            have D2 : ∀ W1, KpS [] wr.heap.size wr.drew W1 → W1.cell? ⟨g, off + k * 4 + 2, none⟩ = some (.int .i64 r.s) := fun W1 h => h.cell (by rw [World.cell?_drew]; exact d2) gl (by simp)
            have D3 : ∀ W1, KpS [] wr.heap.size wr.drew W1 → W1.cell? ⟨g, off + k * 4 + 3, none⟩ = some (.slice ra r.bs.length rc) := fun W1 h => h.cell (by rw [World.cell?_drew]; exact d3) gl (by simp)
            refine held_take (i := 0) (v := .slice (some ⟨g, off, none⟩) rs.length c) rfl (by kernel_rfl) (by kernel_rfl) (by kernel_rfl) (fun _ _ _ h => h) rfl (fun W1 hW1 => rfl) (KpS.refl _ _ _) ?_
            simp only [Act.put, List.setIfInBounds_toArray, List.set_cons_zero, List.set_cons_succ]
            refine held_take (i := 1) (v := .int .i64 k) rfl (by kernel_rfl) (by kernel_rfl) (by kernel_rfl) (fun _ _ _ h => h) rfl (fun W1 hW1 => rfl) (KpS.refl _ _ _) ?_
            simp only [Act.put, List.setIfInBounds_toArray, List.set_cons_zero, List.set_cons_succ]
            refine held_take (i := 2) (v := .pointer (some ⟨g, off + k * 4, none⟩)) rfl (by kernel_rfl) (by kernel_rfl) (by kernel_rfl) (fun _ _ _ h => h) rfl (fun W1 hW1 => by go_simp) (KpS.refl _ _ _) ?_
            simp only [Act.put, List.setIfInBounds_toArray, List.set_cons_zero, List.set_cons_succ]
            refine held_take (i := 3) (v := .pointer (some ⟨g, off + k * 4, none⟩)) rfl (by kernel_rfl) (by kernel_rfl) (by kernel_rfl) (fun _ _ _ h => h) rfl (fun W1 hW1 => by go_simp) (KpS.refl _ _ _) ?_
            simp only [Act.put, List.setIfInBounds_toArray, List.set_cons_zero, List.set_cons_succ]
            refine held_take (i := 4) (v := .agg #[.int .i64 r.c, .int .i64 r.l, .int .i64 r.s]) rfl (by kernel_rfl) (by kernel_rfl) (by kernel_rfl) (fun _ _ _ h => h) rfl (fun W1 hW1 => exec_load _ _ _ _ rfl rfl (loadV8 (D0 W1 hW1) (D1 W1 hW1) (D2 W1 hW1))) (KpS.refl _ _ _) ?_
            simp only [Act.put, List.setIfInBounds_toArray, List.set_cons_zero, List.set_cons_succ]
            refine held_do (i := 5) (by kernel_rfl) rfl rfl (wp_enter (f := 34) (args := #[.agg #[.int .i64 r.c, .int .i64 r.l, .int .i64 r.s]]) (by go_simp) (MB.out wr.drew) ?_)
            rintro e w3 ⟨rfl, k3⟩
            have sC : KpS [] wr.heap.size wr.drew w3 := (KpS.refl _ _ _).keeps k3 (by simp) (by simp)
            refine ⟨_, rfl, sC, ?_⟩
            simp only [Act.put, List.setIfInBounds_toArray, List.set_cons_zero, List.set_cons_succ]
            refine held_take (i := 6) (v := .bool false) rfl (by kernel_rfl) (by kernel_rfl) (by kernel_rfl) (fun _ _ _ h => h) rfl (fun W1 hW1 => by go_simp) (sC) ?_
            simp only [Act.put, List.setIfInBounds_toArray, List.set_cons_zero, List.set_cons_succ]
            refine held_take (i := 7) (v := .bool false) rfl (by kernel_rfl) (by kernel_rfl) (by kernel_rfl) (fun _ _ _ h => h) rfl (fun W1 hW1 => by go_simp) (sC) ?_
            simp only [Act.put, List.setIfInBounds_toArray, List.set_cons_zero, List.set_cons_succ]
            refine held_takeW (i := 8) (v := .int .i64 k) rfl (by kernel_rfl) (by kernel_rfl) (by kernel_rfl) (fun _ _ _ h => h) rfl (fun W1 hW1 => rfl) (sC) ?_
            simp only [Act.put, List.setIfInBounds_toArray, List.set_cons_zero, List.set_cons_succ]
            have P0 : ∀ W1, KpS [] wr.heap.size wr.drew W1 → W1.cell? ⟨g, off + (k - 1) * 4, none⟩ = some (.int .i64 pc) := fun W1 h => h.cell (by rw [World.cell?_drew]; exact p0) gl (by simp)
            refine held_takeW (i := 9) (v := .bool true) rfl (by kernel_rfl) (by kernel_rfl) (by kernel_rfl) (fun _ _ _ h => h) rfl (fun W1 hW1 => by go_simp <;> omega) (sC) ?_
            simp only [Act.put, List.setIfInBounds_toArray, List.set_cons_zero, List.set_cons_succ]
            refine held_takeW (i := 10) (v := .bool true) rfl (by kernel_rfl) (by kernel_rfl) (by kernel_rfl) (fun _ _ _ h => h) rfl (fun W1 hW1 => by go_simp) (sC) ?_
            simp only [Act.put, List.setIfInBounds_toArray, List.set_cons_zero, List.set_cons_succ]
            refine held_takeW (i := 11) (v := .slice (some ⟨g, off, none⟩) rs.length c) rfl (by kernel_rfl) (by kernel_rfl) (by kernel_rfl) (fun _ _ _ h => h) rfl (fun W1 hW1 => rfl) (sC) ?_
            simp only [Act.put, List.setIfInBounds_toArray, List.set_cons_zero, List.set_cons_succ]
            refine held_takeW (i := 12) (v := .int .i64 k) rfl (by kernel_rfl) (by kernel_rfl) (by kernel_rfl) (fun _ _ _ h => h) rfl (fun W1 hW1 => rfl) (sC) ?_
            simp only [Act.put, List.setIfInBounds_toArray, List.set_cons_zero, List.set_cons_succ]
            refine held_takeW (i := 13) (v := .pointer (some ⟨g, off + k * 4, none⟩)) rfl (by kernel_rfl) (by kernel_rfl) (by kernel_rfl) (fun _ _ _ h => h) rfl (fun W1 hW1 => by go_simp) (sC) ?_
            simp only [Act.put, List.setIfInBounds_toArray, List.set_cons_zero, List.set_cons_succ]
            refine held_takeW (i := 14) (v := .pointer (some ⟨g, off + k * 4, none⟩)) rfl (by kernel_rfl) (by kernel_rfl) (by kernel_rfl) (fun _ _ _ h => h) rfl (fun W1 hW1 => by go_simp) (sC) ?_
            simp only [Act.put, List.setIfInBounds_toArray, List.set_cons_zero, List.set_cons_succ]
            refine held_takeW (i := 15) (v := .pointer (some ⟨g, off + k * 4, none⟩)) rfl (by kernel_rfl) (by kernel_rfl) (by kernel_rfl) (fun _ _ _ h => h) rfl (fun W1 hW1 => by go_simp) (sC) ?_
            simp only [Act.put, List.setIfInBounds_toArray, List.set_cons_zero, List.set_cons_succ]
            refine held_takeW (i := 16) (v := .int .i64 r.c) rfl (by kernel_rfl) (by kernel_rfl) (by kernel_rfl) (fun _ _ _ h => h) rfl (fun W1 hW1 => exec_load _ _ _ _ rfl rfl (run_loadCell W1 _ _ _ (D0 W1 hW1) (agg_no _ (by kernel_rfl)))) (sC) ?_
            simp only [Act.put, List.setIfInBounds_toArray, List.set_cons_zero, List.set_cons_succ]
            refine held_takeW (i := 17) (v := .slice (some ⟨g, off, none⟩) rs.length c) rfl (by kernel_rfl) (by kernel_rfl) (by kernel_rfl) (fun _ _ _ h => h) rfl (fun W1 hW1 => rfl) (sC) ?_
            simp only [Act.put, List.setIfInBounds_toArray, List.set_cons_zero, List.set_cons_succ]
            refine held_takeW (i := 18) (v := .int .i64 k) rfl (by kernel_rfl) (by kernel_rfl) (by kernel_rfl) (fun _ _ _ h => h) rfl (fun W1 hW1 => rfl) (sC) ?_
            simp only [Act.put, List.setIfInBounds_toArray, List.set_cons_zero, List.set_cons_succ]
            refine held_takeW (i := 19) (v := .int .i64 ((k - 1 : Nat) : Int)) rfl (by kernel_rfl) (by kernel_rfl) (by kernel_rfl) (fun _ _ _ h => h) rfl (fun W1 hW1 => by go_simp) (sC) ?_
            simp only [Act.put, List.setIfInBounds_toArray, List.set_cons_zero, List.set_cons_succ]
            refine held_takeW (i := 20) (v := .pointer (some ⟨g, off + (k - 1) * 4, none⟩)) rfl (by kernel_rfl) (by kernel_rfl) (by kernel_rfl) (fun _ _ _ h => h) rfl (fun W1 hW1 => by go_simp <;> (intro hh; omega)) (sC) ?_
            simp only [Act.put, List.setIfInBounds_toArray, List.set_cons_zero, List.set_cons_succ]
            refine held_takeW (i := 21) (v := .pointer (some ⟨g, off + (k - 1) * 4, none⟩)) rfl (by kernel_rfl) (by kernel_rfl) (by kernel_rfl) (fun _ _ _ h => h) rfl (fun W1 hW1 => by go_simp) (sC) ?_
            simp only [Act.put, List.setIfInBounds_toArray, List.set_cons_zero, List.set_cons_succ]
            refine held_takeW (i := 22) (v := .pointer (some ⟨g, off + (k - 1) * 4, none⟩)) rfl (by kernel_rfl) (by kernel_rfl) (by kernel_rfl) (fun _ _ _ h => h) rfl (fun W1 hW1 => by go_simp) (sC) ?_
            simp only [Act.put, List.setIfInBounds_toArray, List.set_cons_zero, List.set_cons_succ]
            refine held_takeW (i := 23) (v := .int .i64 pc) rfl (by kernel_rfl) (by kernel_rfl) (by kernel_rfl) (fun _ _ _ h => h) rfl (fun W1 hW1 => exec_load _ _ _ _ rfl rfl (run_loadCell W1 _ _ _ (P0 W1 hW1) (agg_no _ (by kernel_rfl)))) (sC) ?_
            simp only [Act.put, List.setIfInBounds_toArray, List.set_cons_zero, List.set_cons_succ]
            refine held_takeW (i := 24) (v := .bool false) rfl (by kernel_rfl) (by kernel_rfl) (by kernel_rfl) (fun _ _ _ h => h) rfl (fun W1 hW1 => by go_simp) (sC) ?_
            simp only [Act.put, List.setIfInBounds_toArray, List.set_cons_zero, List.set_cons_succ]
            refine held_takeW (i := 25) (v := .bool false) rfl (by kernel_rfl) (by kernel_rfl) (by kernel_rfl) (fun _ _ _ h => h) rfl (fun W1 hW1 => by go_simp) (sC) ?_
            simp only [Act.put, List.setIfInBounds_toArray, List.set_cons_zero, List.set_cons_succ]
            refine held_take (i := 26) (v := .bool false) rfl (by kernel_rfl) (by kernel_rfl) (by kernel_rfl) (fun _ _ _ h => h) rfl (fun W1 hW1 => by go_simp) (sC) ?_
            simp only [Act.put, List.setIfInBounds_toArray, List.set_cons_zero, List.set_cons_succ]
            refine wpAnyH_done (by kernel_rfl) ?_ _
            have KD := hid ((Keeps.refl [] wr).drew.trans k3)
            clear D0 D1 D2 D3 sC k3 P0
            clear p0 hwk h0
            have KK := hid (KK.out.trans KD.out)
            have HO := hid (HO.out.later KD.out)
            have OK := hid (OK.out.later KD.out)
            have BQ := hid ((KD.out.block q ql (by simp)).trans BQ.out)
            have HB := hid (Nat.le_trans HB.out KD.out.size)
            have d0 := KD.out.cell' d0 (by simp)
            have d1 := KD.out.cell' d1 (by simp)
            have d2 := KD.out.cell' d2 (by simp)
            have d3 := KD.out.cell' d3 (by simp)
            have cq := KD.out.cell' cq (by simp)
            have gl := Nat.lt_of_lt_of_le gl KD.out.size
            have ql := Nat.lt_of_lt_of_le ql KD.out.size
            have nq : q ∉ (Value.slice a2 k c2).ownBlock.toList := fun hm => by have := (HO.out.blk q (by simpa using hm)).1; have := HQB.out; omega
            have ng : g ∉ (Value.slice a2 k c2).ownBlock.toList := fun hm => by have := (HO.out.blk g (by simpa using hm)).1; have := HB1.out; have := GW.out; omega
            go_wp2_with fail
            refine wp_region_any (by kernel_rfl) (wpAny_of_late (late := [21]) (S := KpS (Value.slice a2 k c2).ownBlock.toList w3.heap.size w3.drew) _ _ _ _ ?_)
            change wpAnyT _ _ _ _ _ _ _ _ _ w3.drew
            have D0 : ∀ W1, KpS (Value.slice a2 k c2).ownBlock.toList w3.heap.size w3.drew W1 → W1.cell? ⟨g, off + k * 4, none⟩ = some (.int .i64 r.c) := fun W1 h => h.cell (by rw [World.cell?_drew]; exact d0) gl (ng)
            have D1 : ∀ W1, KpS (Value.slice a2 k c2).ownBlock.toList w3.heap.size w3.drew W1 → W1.cell? ⟨g, off + k * 4 + 1, none⟩ = some (.int .i64 r.l) := fun W1 h => h.cell (by rw [World.cell?_drew]; exact d1) gl (ng)
            have D2 : ∀ W1, KpS (Value.slice a2 k c2).ownBlock.toList w3.heap.size w3.drew W1 → W1.cell? ⟨g, off + k * 4 + 2, none⟩ = some (.int .i64 r.s) := fun W1 h => h.cell (by rw [World.cell?_drew]; exact d2) gl (ng)
            have D3 : ∀ W1, KpS (Value.slice a2 k c2).ownBlock.toList w3.heap.size w3.drew W1 → W1.cell? ⟨g, off + k * 4 + 3, none⟩ = some (.slice ra r.bs.length rc) := fun W1 h => h.cell (by rw [World.cell?_drew]; exact d3) gl (ng)
            have C0 : ∀ W1, KpS (Value.slice a2 k c2).ownBlock.toList w3.heap.size w3.drew W1 → W1.cell? ⟨q, 0, none⟩ = some (.slice a2 k c2) := fun W1 h => h.cell (by rw [World.cell?_drew]; exact cq) ql nq
            refine late_take (i := 0) (v := .pointer (some ⟨q, 0, none⟩)) rfl (by kernel_rfl) (by kernel_rfl) (by kernel_rfl) (by kernel_rfl) (by kernel_rfl) (fun _ _ _ h => h) rfl (fun W1 hW1 => rfl) (KpS.refl _ _ _) ?_
            simp only [Act.put, List.setIfInBounds_toArray, List.set_cons_zero, List.set_cons_succ]
            refine late_take (i := 1) (v := .pointer (some ⟨q, 0, none⟩)) rfl (by kernel_rfl) (by kernel_rfl) (by kernel_rfl) (by kernel_rfl) (by kernel_rfl) (fun _ _ _ h => h) rfl (fun W1 hW1 => rfl) (KpS.refl _ _ _) ?_
            simp only [Act.put, List.setIfInBounds_toArray, List.set_cons_zero, List.set_cons_succ]
            refine late_take (i := 2) (v := .pointer (some ⟨q, 0, none⟩)) rfl (by kernel_rfl) (by kernel_rfl) (by kernel_rfl) (by kernel_rfl) (by kernel_rfl) (fun _ _ _ h => h) rfl (fun W1 hW1 => by go_simp) (KpS.refl _ _ _) ?_
            simp only [Act.put, List.setIfInBounds_toArray, List.set_cons_zero, List.set_cons_succ]
            refine late_take (i := 3) (v := .pointer (some ⟨q, 0, none⟩)) rfl (by kernel_rfl) (by kernel_rfl) (by kernel_rfl) (by kernel_rfl) (by kernel_rfl) (fun _ _ _ h => h) rfl (fun W1 hW1 => by go_simp) (KpS.refl _ _ _) ?_
            simp only [Act.put, List.setIfInBounds_toArray, List.set_cons_zero, List.set_cons_succ]
            refine late_take (i := 4) (v := .slice a2 k c2) rfl (by kernel_rfl) (by kernel_rfl) (by kernel_rfl) (by kernel_rfl) (by kernel_rfl) (fun _ _ _ h => h) rfl (fun W1 hW1 => exec_load _ _ _ _ rfl rfl (run_loadCell W1 _ _ _ (C0 W1 hW1) (agg_no _ (by kernel_rfl)))) (KpS.refl _ _ _) ?_
            simp only [Act.put, List.setIfInBounds_toArray, List.set_cons_zero, List.set_cons_succ]
            refine late_take (i := 5) (v := .slice (some ⟨g, off, none⟩) rs.length c) rfl (by kernel_rfl) (by kernel_rfl) (by kernel_rfl) (by kernel_rfl) (by kernel_rfl) (fun _ _ _ h => h) rfl (fun W1 hW1 => rfl) (KpS.refl _ _ _) ?_
            simp only [Act.put, List.setIfInBounds_toArray, List.set_cons_zero, List.set_cons_succ]
            refine late_take (i := 6) (v := .int .i64 k) rfl (by kernel_rfl) (by kernel_rfl) (by kernel_rfl) (by kernel_rfl) (by kernel_rfl) (fun _ _ _ h => h) rfl (fun W1 hW1 => rfl) (KpS.refl _ _ _) ?_
            simp only [Act.put, List.setIfInBounds_toArray, List.set_cons_zero, List.set_cons_succ]
            refine late_take (i := 7) (v := .pointer (some ⟨g, off + k * 4, none⟩)) rfl (by kernel_rfl) (by kernel_rfl) (by kernel_rfl) (by kernel_rfl) (by kernel_rfl) (fun _ _ _ h => h) rfl (fun W1 hW1 => by go_simp) (KpS.refl _ _ _) ?_
            simp only [Act.put, List.setIfInBounds_toArray, List.set_cons_zero, List.set_cons_succ]
            refine late_take (i := 8) (v := .pointer (some ⟨g, off + k * 4, none⟩)) rfl (by kernel_rfl) (by kernel_rfl) (by kernel_rfl) (by kernel_rfl) (by kernel_rfl) (fun _ _ _ h => h) rfl (fun W1 hW1 => by go_simp) (KpS.refl _ _ _) ?_
            simp only [Act.put, List.setIfInBounds_toArray, List.set_cons_zero, List.set_cons_succ]
            refine late_take (i := 9) (v := .agg #[.int .i64 r.c, .int .i64 r.l, .int .i64 r.s]) rfl (by kernel_rfl) (by kernel_rfl) (by kernel_rfl) (by kernel_rfl) (by kernel_rfl) (fun _ _ _ h => h) rfl (fun W1 hW1 => exec_load _ _ _ _ rfl rfl (loadV8 (D0 W1 hW1) (D1 W1 hW1) (D2 W1 hW1))) (KpS.refl _ _ _) ?_
            simp only [Act.put, List.setIfInBounds_toArray, List.set_cons_zero, List.set_cons_succ]
            refine late_take (i := 10) (v := .slice (some ⟨g, off, none⟩) rs.length c) rfl (by kernel_rfl) (by kernel_rfl) (by kernel_rfl) (by kernel_rfl) (by kernel_rfl) (fun _ _ _ h => h) rfl (fun W1 hW1 => rfl) (KpS.refl _ _ _) ?_
            simp only [Act.put, List.setIfInBounds_toArray, List.set_cons_zero, List.set_cons_succ]
            refine late_take (i := 11) (v := .int .i64 k) rfl (by kernel_rfl) (by kernel_rfl) (by kernel_rfl) (by kernel_rfl) (by kernel_rfl) (fun _ _ _ h => h) rfl (fun W1 hW1 => rfl) (KpS.refl _ _ _) ?_
            simp only [Act.put, List.setIfInBounds_toArray, List.set_cons_zero, List.set_cons_succ]
            refine late_take (i := 12) (v := .pointer (some ⟨g, off + k * 4, none⟩)) rfl (by kernel_rfl) (by kernel_rfl) (by kernel_rfl) (by kernel_rfl) (by kernel_rfl) (fun _ _ _ h => h) rfl (fun W1 hW1 => by go_simp) (KpS.refl _ _ _) ?_
            simp only [Act.put, List.setIfInBounds_toArray, List.set_cons_zero, List.set_cons_succ]
            refine late_take (i := 13) (v := .pointer (some ⟨g, off + k * 4 + 3, none⟩)) rfl (by kernel_rfl) (by kernel_rfl) (by kernel_rfl) (by kernel_rfl) (by kernel_rfl) (fun _ _ _ h => h) rfl (fun W1 hW1 => by go_simp) (KpS.refl _ _ _) ?_
            simp only [Act.put, List.setIfInBounds_toArray, List.set_cons_zero, List.set_cons_succ]
            refine late_take (i := 14) (v := .slice ra r.bs.length rc) rfl (by kernel_rfl) (by kernel_rfl) (by kernel_rfl) (by kernel_rfl) (by kernel_rfl) (fun _ _ _ h => h) rfl (fun W1 hW1 => exec_load _ _ _ _ rfl rfl (run_loadCell W1 _ _ _ (D3 W1 hW1) (agg_no _ (by kernel_rfl)))) (KpS.refl _ _ _) ?_
            simp only [Act.put, List.setIfInBounds_toArray, List.set_cons_zero, List.set_cons_succ]
            have rr := OK.out.row
            rw [HROW.out] at rr
            refine late_do (i := 15) (by kernel_rfl) rfl rfl (wp_enter (f := 48) (args := #[.slice ra r.bs.length rc]) (by go_simp) (copyR_any w3.drew _ r.bs (rr.keep ((Keeps.refl [] w3).drew) (by intro _ _ _ _ _; simp)) (by have := OK.out.fit; omega)) ?_)
            rintro e wk3 ⟨a3, c3, rfl, r3, n3, k3⟩
            have sC : KpS (Value.slice a2 k c2).ownBlock.toList w3.heap.size w3.drew wk3 := (KpS.refl _ _ _).keeps k3 (by simp) (by simp)
            refine ⟨_, rfl, Or.inr sC, ?_⟩
            simp only [Act.put, List.setIfInBounds_toArray, List.set_cons_zero, List.set_cons_succ]
            refine late_take (i := 16) (v := .agg #[.int .i64 r.c, .int .i64 r.l, .int .i64 r.s, .slice a3 r.bs.length c3]) rfl (by kernel_rfl) (by kernel_rfl) (by kernel_rfl) (by kernel_rfl) (by kernel_rfl) (fun _ _ _ h => h) rfl (fun W1 hW1 => by go_simp) (sC) ?_
            simp only [Act.put, List.setIfInBounds_toArray, List.set_cons_zero, List.set_cons_succ]
            refine late_do (i := 17) (by kernel_rfl) rfl rfl (wp_value (exec_oneRw rtV _ _ _ _ _ _ _ rfl rfl) ?_)
            have kD : Keeps [] w3 wk3 := (Keeps.refl [] w3).drew.trans k3
            have hzr := KK.out.size
            have hzd := kD.size
            have MQ3 : ∀ b ∈ q :: M, b < w3.drew.heap.size := fun b hb => by
              rcases List.mem_cons.1 hb with rfl | hb
              · exact ql
              · have h1 := HM.out b hb
                exact Nat.lt_of_lt_of_le h1 hzr
            have OK3 : RwOk wk3 (q :: M) ⟨r.c, r.l, r.s, .slice a3 r.bs.length c3, r.bs⟩ := ⟨r3, off_new n3 MQ3, OK.out.fit, OK.out.b0, OK.out.b1, OK.out.b2⟩
            obtain ⟨a4, c4, w4, hr4, o4, k4⟩ := append_row rtV (HO.out.later kD) ⟨r.c, r.l, r.s, .slice a3 r.bs.length c3, r.bs⟩ OK3 (off_new n3 (fun b hb => (HO.out.blk b (by simpa using hb)).2)) (by rw [LEN.out]; omega) (Nat.le_trans HB.out hzd) 50 rfl
            rw [LEN.out] at hr4 o4
            refine ⟨Or.inr (sC.keeps ((Keeps.refl [] wk3).alloc _) kD.size (by simp)), ?_⟩
            simp only [Act.put, List.setIfInBounds_toArray, List.set_cons_zero, List.set_cons_succ]
            refine late_do (i := 18) (by kernel_rfl) rfl rfl (wp_value (exec_appendT 50 _ _ rfl rfl rfl hr4) ?_)
            have sF : KpS (Value.slice a2 k c2).ownBlock.toList w3.heap.size w3.drew w4 := sC.keeps k4 kD.size (fun j hj _ => hj)
            refine ⟨Or.inr sF, ?_⟩
            simp only [Act.put, List.setIfInBounds_toArray, List.set_cons_zero, List.set_cons_succ]
            refine late_take (i := 19) (v := .pointer (some ⟨q, 0, none⟩)) rfl (by kernel_rfl) (by kernel_rfl) (by kernel_rfl) (by kernel_rfl) (by kernel_rfl) (fun _ _ _ h => h) rfl (fun W1 hW1 => by go_simp) (sF) ?_
            simp only [Act.put, List.setIfInBounds_toArray, List.set_cons_zero, List.set_cons_succ]
            refine late_take (i := 20) (v := .pointer (some ⟨q, 0, none⟩)) rfl (by kernel_rfl) (by kernel_rfl) (by kernel_rfl) (by kernel_rfl) (by kernel_rfl) (fun _ _ _ h => h) rfl (fun W1 hW1 => by go_simp) (sF) ?_
            simp only [Act.put, List.setIfInBounds_toArray, List.set_cons_zero, List.set_cons_succ]
            have hbq : w4.heap[q]? = some (.cells #[.slice a2 k c2] 55 (0, 0)) := (sF.block q ql nq).trans BQ.out
            have kw4 : Keeps [] w w4 := (KK.out.trans kD).trans' k4 (fun j hj hm => by have := (HO.out.blk j (by simpa using hm)).1; have := HB1.out; omega)
            have kset : Keeps [q] w4 (w4.setCell ⟨q, 0, none⟩ (.slice a4 (k + 1) c4)) := (Keeps.refl [q] w4).setCell (p := ⟨q, 0, none⟩) (Or.inl (by simp)) _
            have hbq2 := heap_setCell_same w4 q 0 _ 55 (.slice a4 (k + 1) c4) hbq
            refine late_do (i := 21) (by kernel_rfl) rfl rfl (wp_stored (w' := w4.setCell ⟨q, 0, none⟩ (.slice a4 (k + 1) c4)) (by have q1 : w4.cell? ⟨q, 0, none⟩ = some (.slice a2 k c2) := (by simp [World.cell?, hbq]); have q2 : w4.frozen? ⟨q, 0, none⟩ = false := (by simp [World.frozen?, hbq]); go_simp) ?_)
            refine ⟨Or.inl rfl, ?_⟩
            simp only [Act.put, List.setIfInBounds_toArray, List.set_cons_zero, List.set_cons_succ]
            refine wpAnyT_done (by kernel_rfl) ?_ _
            have BQ2 : Hid ((w4.setCell ⟨q, 0, none⟩ (.slice a4 (k + 1) c4)).heap[q]? = some (.cells #[.slice a4 (k + 1) c4] 55 (0, 0))) := hid hbq2
            have O4 := hid (o4.keep kset (by simp))
            have KW4 : Hid (Keeps [] w (w4.setCell ⟨q, 0, none⟩ (.slice a4 (k + 1) c4))) := hid (kw4.trans' kset (fun j hj hm => by simp at hm; have := HQ.out; omega))
            have KSZ : Hid (B ≤ (w4.setCell ⟨q, 0, none⟩ (.slice a4 (k + 1) c4)).heap.size) := hid (by have h1 := kset.size; have h2 := k4.size; have h3 := HB.out; omega)
            clear D0 D1 D2 D3 C0 sC sF hr4 o4 k4 kD r3 n3 k3 OK3 MQ3 rr hbq hbq2 kset kw4 hzr hzd
            generalize w4.setCell ⟨q, 0, none⟩ (.slice a4 (k + 1) c4) = w5 at BQ2 O4 KW4 KSZ ⊢
            go_wp2_with fail
            go_roundw
            case rel =>
              refine ⟨k + 1, _, a4, c4, out ++ [⟨r.c, r.l, r.s, .slice a3 r.bs.length c3, r.bs⟩], by omega, by go_num, BQ2.out, by rw [List.length_append, LEN.out]; rfl, O4.out, ?_, by rw [LC.out]; exact HL2.out, KW4.out, KSZ.out⟩
              rw [HT.out, List.map_append, List.map_append, CON.out]
              rfl
            case measure => simp [intOf]; omega
        · have HN : Hid (loadF (-1) tab0 rs = none) := hid (by
            rw [HL.out, HD.out]
            simp only [loadF]
            rw [if_neg (fun h => hc h.2)])
          have tle : decide (r.c ≤ pc) = true := by simp; omega
          have h0 : 0 < k := by
            rcases Nat.eq_zero_or_pos k with h | h
            · have h1 := LZ.out h
              have h2 := (mayS_is.1 hm).1
              omega
            · exact h
          clear hm hc
          have t0 : decide ((0 : Int) < (k : Int)) = true := by simp; omega
          have p0 := PREV.out h0
          have hwk : IntKind.i64.wrap ((k : Int) - 1) = ((k - 1 : Nat) : Int) := by rw [IntKind.wrap_i64]; omega
          go_wp2_with fail
          refine wp_region_any (by kernel_rfl) (wpAny_of_held (S := KpS [] wr.heap.size wr.drew) _ _ _ _ ?_)
          change wpAnyH _ _ _ _ _ _ _ _ wr.drew
          have D0 : ∀ W1, KpS [] wr.heap.size wr.drew W1 → W1.cell? ⟨g, off + k * 4, none⟩ = some (.int .i64 r.c) := fun W1 h => h.cell (by rw [World.cell?_drew]; exact d0) gl (by simp)
          have D1 : ∀ W1, KpS [] wr.heap.size wr.drew W1 → W1.cell? ⟨g, off + k * 4 + 1, none⟩ = some (.int .i64 r.l) := fun W1 h => h.cell (by rw [World.cell?_drew]; exact d1) gl (by simp)
          have D2 : ∀ W1, KpS [] wr.heap.size wr.drew W1 → W1.cell? ⟨g, off + k * 4 + 2, none⟩ = some (.int .i64 r.s) := fun W1 h => h.cell (by rw [World.cell?_drew]; exact d2) gl (by simp)
          have D3 : ∀ W1, KpS [] wr.heap.size wr.drew W1 → W1.cell? ⟨g, off + k * 4 + 3, none⟩ = some (.slice ra r.bs.length rc) := fun W1 h => h.cell (by rw [World.cell?_drew]; exact d3) gl (by simp)
          refine held_take (i := 0) (v := .slice (some ⟨g, off, none⟩) rs.length c) rfl (by kernel_rfl) (by kernel_rfl) (by kernel_rfl) (fun _ _ _ h => h) rfl (fun W1 hW1 => rfl) (KpS.refl _ _ _) ?_
          simp only [Act.put, List.setIfInBounds_toArray, List.set_cons_zero, List.set_cons_succ]
          refine held_take (i := 1) (v := .int .i64 k) rfl (by kernel_rfl) (by kernel_rfl) (by kernel_rfl) (fun _ _ _ h => h) rfl (fun W1 hW1 => rfl) (KpS.refl _ _ _) ?_
          simp only [Act.put, List.setIfInBounds_toArray, List.set_cons_zero, List.set_cons_succ]
          refine held_take (i := 2) (v := .pointer (some ⟨g, off + k * 4, none⟩)) rfl (by kernel_rfl) (by kernel_rfl) (by kernel_rfl) (fun _ _ _ h => h) rfl (fun W1 hW1 => by go_simp) (KpS.refl _ _ _) ?_
          simp only [Act.put, List.setIfInBounds_toArray, List.set_cons_zero, List.set_cons_succ]
          refine held_take (i := 3) (v := .pointer (some ⟨g, off + k * 4, none⟩)) rfl (by kernel_rfl) (by kernel_rfl) (by kernel_rfl) (fun _ _ _ h => h) rfl (fun W1 hW1 => by go_simp) (KpS.refl _ _ _) ?_
          simp only [Act.put, List.setIfInBounds_toArray, List.set_cons_zero, List.set_cons_succ]
          refine held_take (i := 4) (v := .agg #[.int .i64 r.c, .int .i64 r.l, .int .i64 r.s]) rfl (by kernel_rfl) (by kernel_rfl) (by kernel_rfl) (fun _ _ _ h => h) rfl (fun W1 hW1 => exec_load _ _ _ _ rfl rfl (loadV8 (D0 W1 hW1) (D1 W1 hW1) (D2 W1 hW1))) (KpS.refl _ _ _) ?_
          simp only [Act.put, List.setIfInBounds_toArray, List.set_cons_zero, List.set_cons_succ]
          refine held_do (i := 5) (by kernel_rfl) rfl rfl (wp_enter (f := 34) (args := #[.agg #[.int .i64 r.c, .int .i64 r.l, .int .i64 r.s]]) (by go_simp) (MB.out wr.drew) ?_)
          rintro e w3 ⟨rfl, k3⟩
          have sC : KpS [] wr.heap.size wr.drew w3 := (KpS.refl _ _ _).keeps k3 (by simp) (by simp)
          refine ⟨_, rfl, sC, ?_⟩
          simp only [Act.put, List.setIfInBounds_toArray, List.set_cons_zero, List.set_cons_succ]
          refine held_take (i := 6) (v := .bool false) rfl (by kernel_rfl) (by kernel_rfl) (by kernel_rfl) (fun _ _ _ h => h) rfl (fun W1 hW1 => by go_simp) (sC) ?_
          simp only [Act.put, List.setIfInBounds_toArray, List.set_cons_zero, List.set_cons_succ]
          refine held_take (i := 7) (v := .bool false) rfl (by kernel_rfl) (by kernel_rfl) (by kernel_rfl) (fun _ _ _ h => h) rfl (fun W1 hW1 => by go_simp) (sC) ?_
          simp only [Act.put, List.setIfInBounds_toArray, List.set_cons_zero, List.set_cons_succ]
          refine held_takeW (i := 8) (v := .int .i64 k) rfl (by kernel_rfl) (by kernel_rfl) (by kernel_rfl) (fun _ _ _ h => h) rfl (fun W1 hW1 => rfl) (sC) ?_
          simp only [Act.put, List.setIfInBounds_toArray, List.set_cons_zero, List.set_cons_succ]
          have P0 : ∀ W1, KpS [] wr.heap.size wr.drew W1 → W1.cell? ⟨g, off + (k - 1) * 4, none⟩ = some (.int .i64 pc) := fun W1 h => h.cell (by rw [World.cell?_drew]; exact p0) gl (by simp)
          refine held_takeW (i := 9) (v := .bool true) rfl (by kernel_rfl) (by kernel_rfl) (by kernel_rfl) (fun _ _ _ h => h) rfl (fun W1 hW1 => by go_simp <;> omega) (sC) ?_
          simp only [Act.put, List.setIfInBounds_toArray, List.set_cons_zero, List.set_cons_succ]
          refine held_takeW (i := 10) (v := .bool true) rfl (by kernel_rfl) (by kernel_rfl) (by kernel_rfl) (fun _ _ _ h => h) rfl (fun W1 hW1 => by go_simp) (sC) ?_
          simp only [Act.put, List.setIfInBounds_toArray, List.set_cons_zero, List.set_cons_succ]
          refine held_takeW (i := 11) (v := .slice (some ⟨g, off, none⟩) rs.length c) rfl (by kernel_rfl) (by kernel_rfl) (by kernel_rfl) (fun _ _ _ h => h) rfl (fun W1 hW1 => rfl) (sC) ?_
          simp only [Act.put, List.setIfInBounds_toArray, List.set_cons_zero, List.set_cons_succ]
          refine held_takeW (i := 12) (v := .int .i64 k) rfl (by kernel_rfl) (by kernel_rfl) (by kernel_rfl) (fun _ _ _ h => h) rfl (fun W1 hW1 => rfl) (sC) ?_
          simp only [Act.put, List.setIfInBounds_toArray, List.set_cons_zero, List.set_cons_succ]
          refine held_takeW (i := 13) (v := .pointer (some ⟨g, off + k * 4, none⟩)) rfl (by kernel_rfl) (by kernel_rfl) (by kernel_rfl) (fun _ _ _ h => h) rfl (fun W1 hW1 => by go_simp) (sC) ?_
          simp only [Act.put, List.setIfInBounds_toArray, List.set_cons_zero, List.set_cons_succ]
          refine held_takeW (i := 14) (v := .pointer (some ⟨g, off + k * 4, none⟩)) rfl (by kernel_rfl) (by kernel_rfl) (by kernel_rfl) (fun _ _ _ h => h) rfl (fun W1 hW1 => by go_simp) (sC) ?_
          simp only [Act.put, List.setIfInBounds_toArray, List.set_cons_zero, List.set_cons_succ]
          refine held_takeW (i := 15) (v := .pointer (some ⟨g, off + k * 4, none⟩)) rfl (by kernel_rfl) (by kernel_rfl) (by kernel_rfl) (fun _ _ _ h => h) rfl (fun W1 hW1 => by go_simp) (sC) ?_
          simp only [Act.put, List.setIfInBounds_toArray, List.set_cons_zero, List.set_cons_succ]
          refine held_takeW (i := 16) (v := .int .i64 r.c) rfl (by kernel_rfl) (by kernel_rfl) (by kernel_rfl) (fun _ _ _ h => h) rfl (fun W1 hW1 => exec_load _ _ _ _ rfl rfl (run_loadCell W1 _ _ _ (D0 W1 hW1) (agg_no _ (by kernel_rfl)))) (sC) ?_
          simp only [Act.put, List.setIfInBounds_toArray, List.set_cons_zero, List.set_cons_succ]
          refine held_takeW (i := 17) (v := .slice (some ⟨g, off, none⟩) rs.length c) rfl (by kernel_rfl) (by kernel_rfl) (by kernel_rfl) (fun _ _ _ h => h) rfl (fun W1 hW1 => rfl) (sC) ?_
          simp only [Act.put, List.setIfInBounds_toArray, List.set_cons_zero, List.set_cons_succ]
          refine held_takeW (i := 18) (v := .int .i64 k) rfl (by kernel_rfl) (by kernel_rfl) (by kernel_rfl) (fun _ _ _ h => h) rfl (fun W1 hW1 => rfl) (sC) ?_
          simp only [Act.put, List.setIfInBounds_toArray, List.set_cons_zero, List.set_cons_succ]
          refine held_takeW (i := 19) (v := .int .i64 ((k - 1 : Nat) : Int)) rfl (by kernel_rfl) (by kernel_rfl) (by kernel_rfl) (fun _ _ _ h => h) rfl (fun W1 hW1 => by go_simp) (sC) ?_
          simp only [Act.put, List.setIfInBounds_toArray, List.set_cons_zero, List.set_cons_succ]
          refine held_takeW (i := 20) (v := .pointer (some ⟨g, off + (k - 1) * 4, none⟩)) rfl (by kernel_rfl) (by kernel_rfl) (by kernel_rfl) (fun _ _ _ h => h) rfl (fun W1 hW1 => by go_simp <;> (intro hh; omega)) (sC) ?_
          simp only [Act.put, List.setIfInBounds_toArray, List.set_cons_zero, List.set_cons_succ]
          refine held_takeW (i := 21) (v := .pointer (some ⟨g, off + (k - 1) * 4, none⟩)) rfl (by kernel_rfl) (by kernel_rfl) (by kernel_rfl) (fun _ _ _ h => h) rfl (fun W1 hW1 => by go_simp) (sC) ?_
          simp only [Act.put, List.setIfInBounds_toArray, List.set_cons_zero, List.set_cons_succ]
          refine held_takeW (i := 22) (v := .pointer (some ⟨g, off + (k - 1) * 4, none⟩)) rfl (by kernel_rfl) (by kernel_rfl) (by kernel_rfl) (fun _ _ _ h => h) rfl (fun W1 hW1 => by go_simp) (sC) ?_
          simp only [Act.put, List.setIfInBounds_toArray, List.set_cons_zero, List.set_cons_succ]
          refine held_takeW (i := 23) (v := .int .i64 pc) rfl (by kernel_rfl) (by kernel_rfl) (by kernel_rfl) (fun _ _ _ h => h) rfl (fun W1 hW1 => exec_load _ _ _ _ rfl rfl (run_loadCell W1 _ _ _ (P0 W1 hW1) (agg_no _ (by kernel_rfl)))) (sC) ?_
          simp only [Act.put, List.setIfInBounds_toArray, List.set_cons_zero, List.set_cons_succ]
          refine held_takeW (i := 24) (v := .bool true) rfl (by kernel_rfl) (by kernel_rfl) (by kernel_rfl) (fun _ _ _ h => h) rfl (fun W1 hW1 => by go_simp) (sC) ?_
          simp only [Act.put, List.setIfInBounds_toArray, List.set_cons_zero, List.set_cons_succ]
          refine held_takeW (i := 25) (v := .bool true) rfl (by kernel_rfl) (by kernel_rfl) (by kernel_rfl) (fun _ _ _ h => h) rfl (fun W1 hW1 => by go_simp) (sC) ?_
          simp only [Act.put, List.setIfInBounds_toArray, List.set_cons_zero, List.set_cons_succ]
          refine held_take (i := 26) (v := .bool true) rfl (by kernel_rfl) (by kernel_rfl) (by kernel_rfl) (fun _ _ _ h => h) rfl (fun W1 hW1 => by go_simp) (sC) ?_
          simp only [Act.put, List.setIfInBounds_toArray, List.set_cons_zero, List.set_cons_succ]
          refine wpAnyH_done (by kernel_rfl) ?_ _
          have KD := hid ((Keeps.refl [] wr).drew.trans k3)
          clear D0 D1 D2 D3 sC k3 P0
          go_wp2_with fail
          go_ret2
          exact Or.inl ⟨HN.out, rfl, KK.out.trans KD.out⟩
      · have hm' : mayS r.c r.l r.s = false := by simpa using hm
        rw [hm'] at MB
        have HN : Hid (loadF (-1) tab0 rs = none) := hid (by
          rw [HL.out, HD.out]
          simp only [loadF]
          rw [if_neg (fun h => hm h.1)])
        clear hm hm'
        go_wp2_with fail
        refine wp_region_any (by kernel_rfl) (wpAny_of_held (S := KpS [] wr.heap.size wr.drew) _ _ _ _ ?_)
        change wpAnyH _ _ _ _ _ _ _ _ wr.drew
        have D0 : ∀ W1, KpS [] wr.heap.size wr.drew W1 → W1.cell? ⟨g, off + k * 4, none⟩ = some (.int .i64 r.c) := fun W1 h => h.cell (by rw [World.cell?_drew]; exact d0) gl (by simp)
        have D1 : ∀ W1, KpS [] wr.heap.size wr.drew W1 → W1.cell? ⟨g, off + k * 4 + 1, none⟩ = some (.int .i64 r.l) := fun W1 h => h.cell (by rw [World.cell?_drew]; exact d1) gl (by simp)
        have D2 : ∀ W1, KpS [] wr.heap.size wr.drew W1 → W1.cell? ⟨g, off + k * 4 + 2, none⟩ = some (.int .i64 r.s) := fun W1 h => h.cell (by rw [World.cell?_drew]; exact d2) gl (by simp)
        have D3 : ∀ W1, KpS [] wr.heap.size wr.drew W1 → W1.cell? ⟨g, off + k * 4 + 3, none⟩ = some (.slice ra r.bs.length rc) := fun W1 h => h.cell (by rw [World.cell?_drew]; exact d3) gl (by simp)
        refine held_take (i := 0) (v := .slice (some ⟨g, off, none⟩) rs.length c) rfl (by kernel_rfl) (by kernel_rfl) (by kernel_rfl) (fun _ _ _ h => h) rfl (fun W1 hW1 => rfl) (KpS.refl _ _ _) ?_
        simp only [Act.put, List.setIfInBounds_toArray, List.set_cons_zero, List.set_cons_succ]
        refine held_take (i := 1) (v := .int .i64 k) rfl (by kernel_rfl) (by kernel_rfl) (by kernel_rfl) (fun _ _ _ h => h) rfl (fun W1 hW1 => rfl) (KpS.refl _ _ _) ?_
        simp only [Act.put, List.setIfInBounds_toArray, List.set_cons_zero, List.set_cons_succ]
        refine held_take (i := 2) (v := .pointer (some ⟨g, off + k * 4, none⟩)) rfl (by kernel_rfl) (by kernel_rfl) (by kernel_rfl) (fun _ _ _ h => h) rfl (fun W1 hW1 => by go_simp) (KpS.refl _ _ _) ?_
        simp only [Act.put, List.setIfInBounds_toArray, List.set_cons_zero, List.set_cons_succ]
        refine held_take (i := 3) (v := .pointer (some ⟨g, off + k * 4, none⟩)) rfl (by kernel_rfl) (by kernel_rfl) (by kernel_rfl) (fun _ _ _ h => h) rfl (fun W1 hW1 => by go_simp) (KpS.refl _ _ _) ?_
        simp only [Act.put, List.setIfInBounds_toArray, List.set_cons_zero, List.set_cons_succ]
        refine held_take (i := 4) (v := .agg #[.int .i64 r.c, .int .i64 r.l, .int .i64 r.s]) rfl (by kernel_rfl) (by kernel_rfl) (by kernel_rfl) (fun _ _ _ h => h) rfl (fun W1 hW1 => exec_load _ _ _ _ rfl rfl (loadV8 (D0 W1 hW1) (D1 W1 hW1) (D2 W1 hW1))) (KpS.refl _ _ _) ?_
        simp only [Act.put, List.setIfInBounds_toArray, List.set_cons_zero, List.set_cons_succ]
        refine held_do (i := 5) (by kernel_rfl) rfl rfl (wp_enter (f := 34) (args := #[.agg #[.int .i64 r.c, .int .i64 r.l, .int .i64 r.s]]) (by go_simp) (MB.out wr.drew) ?_)
        rintro e w3 ⟨rfl, k3⟩
        have sC : KpS [] wr.heap.size wr.drew w3 := (KpS.refl _ _ _).keeps k3 (by simp) (by simp)
        refine ⟨_, rfl, sC, ?_⟩
        simp only [Act.put, List.setIfInBounds_toArray, List.set_cons_zero, List.set_cons_succ]
        refine held_take (i := 6) (v := .bool true) rfl (by kernel_rfl) (by kernel_rfl) (by kernel_rfl) (fun _ _ _ h => h) rfl (fun W1 hW1 => by go_simp) (sC) ?_
        simp only [Act.put, List.setIfInBounds_toArray, List.set_cons_zero, List.set_cons_succ]
        refine held_take (i := 7) (v := .bool true) rfl (by kernel_rfl) (by kernel_rfl) (by kernel_rfl) (fun _ _ _ h => h) rfl (fun W1 hW1 => by go_simp) (sC) ?_
        simp only [Act.put, List.setIfInBounds_toArray, List.set_cons_zero, List.set_cons_succ]
        refine held_skip (i := 8) rfl (by kernel_rfl) (by kernel_rfl) (by kernel_rfl) (fun _ _ _ h => h) rfl (sC) ?_
        simp only [Act.put, List.setIfInBounds_toArray, List.set_cons_zero, List.set_cons_succ]
        refine held_skip (i := 9) rfl (by kernel_rfl) (by kernel_rfl) (by kernel_rfl) (fun _ _ _ h => h) rfl (sC) ?_
        simp only [Act.put, List.setIfInBounds_toArray, List.set_cons_zero, List.set_cons_succ]
        refine held_skip (i := 10) rfl (by kernel_rfl) (by kernel_rfl) (by kernel_rfl) (fun _ _ _ h => h) rfl (sC) ?_
        simp only [Act.put, List.setIfInBounds_toArray, List.set_cons_zero, List.set_cons_succ]
        refine held_skip (i := 11) rfl (by kernel_rfl) (by kernel_rfl) (by kernel_rfl) (fun _ _ _ h => h) rfl (sC) ?_
        simp only [Act.put, List.setIfInBounds_toArray, List.set_cons_zero, List.set_cons_succ]
        refine held_skip (i := 12) rfl (by kernel_rfl) (by kernel_rfl) (by kernel_rfl) (fun _ _ _ h => h) rfl (sC) ?_
        simp only [Act.put, List.setIfInBounds_toArray, List.set_cons_zero, List.set_cons_succ]
        refine held_skip (i := 13) rfl (by kernel_rfl) (by kernel_rfl) (by kernel_rfl) (fun _ _ _ h => h) rfl (sC) ?_
        simp only [Act.put, List.setIfInBounds_toArray, List.set_cons_zero, List.set_cons_succ]
        refine held_skip (i := 14) rfl (by kernel_rfl) (by kernel_rfl) (by kernel_rfl) (fun _ _ _ h => h) rfl (sC) ?_
        simp only [Act.put, List.setIfInBounds_toArray, List.set_cons_zero, List.set_cons_succ]
        refine held_skip (i := 15) rfl (by kernel_rfl) (by kernel_rfl) (by kernel_rfl) (fun _ _ _ h => h) rfl (sC) ?_
        simp only [Act.put, List.setIfInBounds_toArray, List.set_cons_zero, List.set_cons_succ]
        refine held_skip (i := 16) rfl (by kernel_rfl) (by kernel_rfl) (by kernel_rfl) (fun _ _ _ h => h) rfl (sC) ?_
        simp only [Act.put, List.setIfInBounds_toArray, List.set_cons_zero, List.set_cons_succ]
        refine held_skip (i := 17) rfl (by kernel_rfl) (by kernel_rfl) (by kernel_rfl) (fun _ _ _ h => h) rfl (sC) ?_
        simp only [Act.put, List.setIfInBounds_toArray, List.set_cons_zero, List.set_cons_succ]
        refine held_skip (i := 18) rfl (by kernel_rfl) (by kernel_rfl) (by kernel_rfl) (fun _ _ _ h => h) rfl (sC) ?_
        simp only [Act.put, List.setIfInBounds_toArray, List.set_cons_zero, List.set_cons_succ]
        refine held_skip (i := 19) rfl (by kernel_rfl) (by kernel_rfl) (by kernel_rfl) (fun _ _ _ h => h) rfl (sC) ?_
        simp only [Act.put, List.setIfInBounds_toArray, List.set_cons_zero, List.set_cons_succ]
        refine held_skip (i := 20) rfl (by kernel_rfl) (by kernel_rfl) (by kernel_rfl) (fun _ _ _ h => h) rfl (sC) ?_
        simp only [Act.put, List.setIfInBounds_toArray, List.set_cons_zero, List.set_cons_succ]
        refine held_skip (i := 21) rfl (by kernel_rfl) (by kernel_rfl) (by kernel_rfl) (fun _ _ _ h => h) rfl (sC) ?_
        simp only [Act.put, List.setIfInBounds_toArray, List.set_cons_zero, List.set_cons_succ]
        refine held_skip (i := 22) rfl (by kernel_rfl) (by kernel_rfl) (by kernel_rfl) (fun _ _ _ h => h) rfl (sC) ?_
        simp only [Act.put, List.setIfInBounds_toArray, List.set_cons_zero, List.set_cons_succ]
        refine held_skip (i := 23) rfl (by kernel_rfl) (by kernel_rfl) (by kernel_rfl) (fun _ _ _ h => h) rfl (sC) ?_
        simp only [Act.put, List.setIfInBounds_toArray, List.set_cons_zero, List.set_cons_succ]
        refine held_skip (i := 24) rfl (by kernel_rfl) (by kernel_rfl) (by kernel_rfl) (fun _ _ _ h => h) rfl (sC) ?_
        simp only [Act.put, List.setIfInBounds_toArray, List.set_cons_zero, List.set_cons_succ]
        refine held_skip (i := 25) rfl (by kernel_rfl) (by kernel_rfl) (by kernel_rfl) (fun _ _ _ h => h) rfl (sC) ?_
        simp only [Act.put, List.setIfInBounds_toArray, List.set_cons_zero, List.set_cons_succ]
        refine held_take (i := 26) (v := .bool true) rfl (by kernel_rfl) (by kernel_rfl) (by kernel_rfl) (fun _ _ _ h => h) rfl (fun W1 hW1 => by go_simp) (sC) ?_
        simp only [Act.put, List.setIfInBounds_toArray, List.set_cons_zero, List.set_cons_succ]
        refine wpAnyH_done (by kernel_rfl) ?_ _
        have KD := hid ((Keeps.refl [] wr).drew.trans k3)
        clear D0 D1 D2 D3 sC k3
        go_wp2_with fail
        go_ret2
        exact Or.inl ⟨HN.out, rfl, KK.out.trans KD.out⟩
    · obtain rfl : k = rs.length := by omega
      have HS : Hid (loadF (-1) tab0 rs = some T) := hid (by rw [HL.out, List.drop_length]; rfl)
      have CF : Hid (out.map Rw.con = refL T) := hid (by rw [CON.out, List.take_length]; exact (load_refL HS.out).symm)
      go_wp2_with fail
      go_ret2
      exact Or.inr ⟨T, q, _, out, HS.out, HQ.out, rfl, BQ.out, HO.out.at, CF.out, KK.out⟩
end Go.Proofs.Ytkfebgbgnpdgpaa
