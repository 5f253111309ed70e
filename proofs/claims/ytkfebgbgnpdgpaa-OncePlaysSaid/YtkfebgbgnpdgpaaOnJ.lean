/- once: the walks of the laws' model and Rows, of the reference's SameRows, of small. -/
import Derived.Test.YtkfebgbgnpdgpaaOnI
import Derived.Test.YtkfebgbgnpdgpaaSame
namespace Go.Proofs.Ytkfebgbgnpdgpaa
open Go.RowKit Go.Shelf
set_option maxRecDepth 100000
set_option linter.unusedSimpArgs false

theorem loadV8 {w : World} {b o : Nat} {x0 x1 x2 : Value} (c0 : w.cell? ⟨b, o, none⟩ = some x0) (c1 : w.cell? ⟨b, o + 1, none⟩ = some x1) (c2 : w.cell? ⟨b, o + 2, none⟩ = some x2) :
    (Instr.loadAt 57 (.pointer (some ⟨b, o, none⟩))).run Try.prog w = .ok (.agg #[x0, x1, x2]) w := load_row [x0, x1, x2] Try.underlying57 rfl iVStamp8 (cells3 c0 c1 c2)
theorem loadVB8 {w : World} {b : Nat} {x0 x1 x2 : Value} (h : w.heap[b]? = some (.cells #[x0, x1, x2] 57 (0, 0))) :
    (Instr.loadAt 57 (.pointer (some ⟨b, 0, none⟩))).run Try.prog w = .ok (.agg #[x0, x1, x2]) w := by
  obtain ⟨c0, c1, c2⟩ := block_cells3 h
  exact loadV8 c0 c1 c2

/-- What copies rows leaves. -/
def CopyPost (w : World) (M : List Nat) (rs : List Rw) (e : Ending) (w' : World) : Prop :=
  ∃ a c, e = .returned (.slice a rs.length c) ∧ RwsAt w' M (.slice a rs.length c) rs ∧ Keeps [] w w'

set_option maxHeartbeats 6400000 in
theorem j8Model_any (w : World) (M : List Nat) (hM : ∀ b ∈ M, b < w.heap.size) (v : Value) (rs : List Rw) (h : RwsAt w M v rs) (hl : rs.length ≤ 1000) : Calls Try.prog 29 #[v] w (CopyPost w M rs) := by
  obtain ⟨a, c, rfl, -⟩ := id h
  have HH := hid h
  have HM := hid hM
  clear h hM
  go_enter Try.func29, Try.ntmps29
  go_wp2_with fail
  go_loopw [3, 4] (fun o iv wr => ∃ (k : Nat) (a2 : Option Addr) (c2 : Nat), k ≤ rs.length ∧ iv = .int .i64 k ∧ o = .slice a2 k c2 ∧ OwnW 60 wr w.heap.size M (.slice a2 k c2) (rs.take k) ∧ Keeps [] w wr) (fun _ iv _ => rs.length - (intOf iv).toNat)
  case atStart => exact ⟨0, none, 0, by omega, rfl, rfl, by simpa using OwnW.nil 60 w w.heap.size M HM.out, Keeps.refl _ _⟩
  case round =>
    obtain ⟨k, a2, c2, hk, rfl, rfl, ho, kk⟩ := hrel
    have KK := hid kk
    have HO := hid ho
    clear kk ho
    by_cases hlt : k < rs.length
    · obtain ⟨g, off, ha, -, gw, -, -⟩ := HH.out.at k hlt
      obtain ⟨g', off', ha', -, gl, gM, d0, d1, d2, d3⟩ := (HH.out.later KK.out).at k hlt
      rw [ha] at ha'
      injection ha' with ha'
      injection ha' with e1 e2 _
      subst e1; subst e2
      subst ha
      have OK := hid ((HH.out.ok rs[k] (List.getElem_mem _)).later KK.out)
      have OKW := hid (HH.out.ok rs[k] (List.getElem_mem _))
      obtain ⟨ra, rc, hrow, -⟩ := OK.out.row
      rw [hrow] at d3
      have HROW := hid hrow
      have HT := hid (List.take_succ_eq_append_getElem hlt)
      have tl : (rs.take k).length = k := by rw [List.length_take]; omega
      obtain ⟨r, hr⟩ : ∃ r, r = rs[k] := ⟨_, rfl⟩
      rw [← hr] at OK OKW HROW HT d0 d1 d2 d3
      clear hrow hr
      have ownge : ∀ b ∈ (Value.slice a2 k c2).ownBlock.toList, w.heap.size ≤ b ∧ b < wr.heap.size := fun b hb => HO.out.blk b (by simpa using hb)
      have ng : g ∉ (Value.slice a2 k c2).ownBlock.toList := fun hm => by
        have := (ownge g hm).1
        omega
      go_wp2_with fail
      refine wp_region_any (by kernel_rfl) (wpAny_of_held (S := KpS [] wr.heap.size wr.drew) _ _ _ _ ?_)
      change wpAnyH _ _ _ _ _ _ _ _ wr.drew
      have D0 : ∀ W1, KpS [] wr.heap.size wr.drew W1 → W1.cell? ⟨g, off + k * 4, none⟩ = some (.int .i64 r.c) := fun W1 h => h.cell (by rw [World.cell?_drew]; exact d0) gl (by simp)
      have D1 : ∀ W1, KpS [] wr.heap.size wr.drew W1 → W1.cell? ⟨g, off + k * 4 + 1, none⟩ = some (.int .i64 r.l) := fun W1 h => h.cell (by rw [World.cell?_drew]; exact d1) gl (by simp)
      have D2 : ∀ W1, KpS [] wr.heap.size wr.drew W1 → W1.cell? ⟨g, off + k * 4 + 2, none⟩ = some (.int .i64 r.s) := fun W1 h => h.cell (by rw [World.cell?_drew]; exact d2) gl (by simp)
      refine held_take (i := 0) (v := .slice (some ⟨g, off, none⟩) rs.length c) rfl (by kernel_rfl) (by kernel_rfl) (by kernel_rfl) (fun _ _ _ h => h) rfl (fun W1 hW1 => rfl) (KpS.refl _ _ _) ?_
      simp only [Act.put, List.setIfInBounds_toArray, List.set_cons_zero, List.set_cons_succ]
      refine held_take (i := 1) (v := .int .i64 k) rfl (by kernel_rfl) (by kernel_rfl) (by kernel_rfl) (fun _ _ _ h => h) rfl (fun W1 hW1 => rfl) (KpS.refl _ _ _) ?_
      simp only [Act.put, List.setIfInBounds_toArray, List.set_cons_zero, List.set_cons_succ]
      refine held_take (i := 2) (v := .pointer (some ⟨g, off + k * 4, none⟩)) rfl (by kernel_rfl) (by kernel_rfl) (by kernel_rfl) (fun _ _ _ h => h) rfl (fun W1 hW1 => by go_simp) (KpS.refl _ _ _) ?_
      simp only [Act.put, List.setIfInBounds_toArray, List.set_cons_zero, List.set_cons_succ]
      refine held_take (i := 3) (v := .pointer (some ⟨g, off + k * 4, none⟩)) rfl (by kernel_rfl) (by kernel_rfl) (by kernel_rfl) (fun _ _ _ h => h) rfl (fun W1 hW1 => by go_simp) (KpS.refl _ _ _) ?_
      simp only [Act.put, List.setIfInBounds_toArray, List.set_cons_zero, List.set_cons_succ]
      refine held_take (i := 4) (v := .pointer (some ⟨g, off + k * 4, none⟩)) rfl (by kernel_rfl) (by kernel_rfl) (by kernel_rfl) (fun _ _ _ h => h) rfl (fun W1 hW1 => by go_simp) (KpS.refl _ _ _) ?_
      simp only [Act.put, List.setIfInBounds_toArray, List.set_cons_zero, List.set_cons_succ]
      refine held_take (i := 5) (v := .int .i64 r.c) rfl (by kernel_rfl) (by kernel_rfl) (by kernel_rfl) (fun _ _ _ h => h) rfl (fun W1 hW1 => exec_load _ _ _ _ rfl rfl (run_loadCell W1 _ _ _ (D0 W1 hW1) (agg_no _ (by kernel_rfl)))) (KpS.refl _ _ _) ?_
      simp only [Act.put, List.setIfInBounds_toArray, List.set_cons_zero, List.set_cons_succ]
      refine held_take (i := 6) (v := .slice (some ⟨g, off, none⟩) rs.length c) rfl (by kernel_rfl) (by kernel_rfl) (by kernel_rfl) (fun _ _ _ h => h) rfl (fun W1 hW1 => rfl) (KpS.refl _ _ _) ?_
      simp only [Act.put, List.setIfInBounds_toArray, List.set_cons_zero, List.set_cons_succ]
      refine held_take (i := 7) (v := .int .i64 k) rfl (by kernel_rfl) (by kernel_rfl) (by kernel_rfl) (fun _ _ _ h => h) rfl (fun W1 hW1 => rfl) (KpS.refl _ _ _) ?_
      simp only [Act.put, List.setIfInBounds_toArray, List.set_cons_zero, List.set_cons_succ]
      refine held_take (i := 8) (v := .pointer (some ⟨g, off + k * 4, none⟩)) rfl (by kernel_rfl) (by kernel_rfl) (by kernel_rfl) (fun _ _ _ h => h) rfl (fun W1 hW1 => by go_simp) (KpS.refl _ _ _) ?_
      simp only [Act.put, List.setIfInBounds_toArray, List.set_cons_zero, List.set_cons_succ]
      refine held_take (i := 9) (v := .pointer (some ⟨g, off + k * 4, none⟩)) rfl (by kernel_rfl) (by kernel_rfl) (by kernel_rfl) (fun _ _ _ h => h) rfl (fun W1 hW1 => by go_simp) (KpS.refl _ _ _) ?_
      simp only [Act.put, List.setIfInBounds_toArray, List.set_cons_zero, List.set_cons_succ]
      refine held_take (i := 10) (v := .pointer (some ⟨g, off + k * 4 + 1, none⟩)) rfl (by kernel_rfl) (by kernel_rfl) (by kernel_rfl) (fun _ _ _ h => h) rfl (fun W1 hW1 => by go_simp) (KpS.refl _ _ _) ?_
      simp only [Act.put, List.setIfInBounds_toArray, List.set_cons_zero, List.set_cons_succ]
      refine held_take (i := 11) (v := .int .i64 r.l) rfl (by kernel_rfl) (by kernel_rfl) (by kernel_rfl) (fun _ _ _ h => h) rfl (fun W1 hW1 => exec_load _ _ _ _ rfl rfl (run_loadCell W1 _ _ _ (D1 W1 hW1) (agg_no _ (by kernel_rfl)))) (KpS.refl _ _ _) ?_
      simp only [Act.put, List.setIfInBounds_toArray, List.set_cons_zero, List.set_cons_succ]
      refine held_take (i := 12) (v := .slice (some ⟨g, off, none⟩) rs.length c) rfl (by kernel_rfl) (by kernel_rfl) (by kernel_rfl) (fun _ _ _ h => h) rfl (fun W1 hW1 => rfl) (KpS.refl _ _ _) ?_
      simp only [Act.put, List.setIfInBounds_toArray, List.set_cons_zero, List.set_cons_succ]
      refine held_take (i := 13) (v := .int .i64 k) rfl (by kernel_rfl) (by kernel_rfl) (by kernel_rfl) (fun _ _ _ h => h) rfl (fun W1 hW1 => rfl) (KpS.refl _ _ _) ?_
      simp only [Act.put, List.setIfInBounds_toArray, List.set_cons_zero, List.set_cons_succ]
      refine held_take (i := 14) (v := .pointer (some ⟨g, off + k * 4, none⟩)) rfl (by kernel_rfl) (by kernel_rfl) (by kernel_rfl) (fun _ _ _ h => h) rfl (fun W1 hW1 => by go_simp) (KpS.refl _ _ _) ?_
      simp only [Act.put, List.setIfInBounds_toArray, List.set_cons_zero, List.set_cons_succ]
      refine held_take (i := 15) (v := .pointer (some ⟨g, off + k * 4, none⟩)) rfl (by kernel_rfl) (by kernel_rfl) (by kernel_rfl) (fun _ _ _ h => h) rfl (fun W1 hW1 => by go_simp) (KpS.refl _ _ _) ?_
      simp only [Act.put, List.setIfInBounds_toArray, List.set_cons_zero, List.set_cons_succ]
      refine held_take (i := 16) (v := .pointer (some ⟨g, off + k * 4 + 2, none⟩)) rfl (by kernel_rfl) (by kernel_rfl) (by kernel_rfl) (fun _ _ _ h => h) rfl (fun W1 hW1 => by go_simp) (KpS.refl _ _ _) ?_
      simp only [Act.put, List.setIfInBounds_toArray, List.set_cons_zero, List.set_cons_succ]
      refine held_take (i := 17) (v := .int .i64 r.s) rfl (by kernel_rfl) (by kernel_rfl) (by kernel_rfl) (fun _ _ _ h => h) rfl (fun W1 hW1 => exec_load _ _ _ _ rfl rfl (run_loadCell W1 _ _ _ (D2 W1 hW1) (agg_no _ (by kernel_rfl)))) (KpS.refl _ _ _) ?_
      simp only [Act.put, List.setIfInBounds_toArray, List.set_cons_zero, List.set_cons_succ]
      refine held_take (i := 18) (v := .agg #[.int .i64 r.c, .int .i64 r.l, .int .i64 r.s]) rfl (by kernel_rfl) (by kernel_rfl) (by kernel_rfl) (fun _ _ _ h => h) rfl (fun W1 hW1 => by go_simp) (KpS.refl _ _ _) ?_
      simp only [Act.put, List.setIfInBounds_toArray, List.set_cons_zero, List.set_cons_succ]
      refine held_do (i := 19) (by kernel_rfl) rfl rfl (wp_value (exec_alloc 57 _ iVStamp8 rfl) ?_)
      refine ⟨(KpS.refl _ _ _).alloc (by simp) _, ?_⟩
      simp only [Act.put, List.setIfInBounds_toArray, List.set_cons_zero, List.set_cons_succ]
      refine held_do (i := 20) (by kernel_rfl) rfl rfl (wp_stored (exec_storeNew 57 _ _ rfl wr.drew _ #[.int .i64 r.c, .int .i64 r.l, .int .i64 r.s] rfl rfl rfl iVStamp8 rfl (by simp [Value.oneCell'])) ?_)
      refine ⟨(KpS.refl _ _ _).alloc (by simp) _, ?_⟩
      simp only [Act.put, List.setIfInBounds_toArray, List.set_cons_zero, List.set_cons_succ]
      refine wpAnyH_done (by kernel_rfl) ?_ _
      have kA : Keeps [] wr (wr.drew.alloc (.cells #[.int .i64 r.c, .int .i64 r.l, .int .i64 r.s] 57)) := (Keeps.refl [] wr).drew.alloc _
      have BX := hid (heap_alloc_new wr.drew (.cells #[.int .i64 r.c, .int .i64 r.l, .int .i64 r.s] 57))
      have zx : wr.drew.heap.size = wr.heap.size := rfl
      rw [zx] at BX ⊢
      obtain ⟨gx, hgx⟩ : ∃ g, g = wr.heap.size := ⟨_, rfl⟩
      have nx : gx ∉ (Value.slice a2 k c2).ownBlock.toList := fun hm => by have := (ownge gx hm).2; omega
      rw [← hgx] at BX ⊢
      clear hgx zx D0 D1 D2
      have OKB := hid (OK.out.later kA)
      have HOB := hid (HO.out.later kA)
      have KB := hid (KK.out.trans kA)
      have d3b := kA.cell' d3 (by simp)
      generalize wr.drew.alloc (.cells #[.int .i64 r.c, .int .i64 r.l, .int .i64 r.s] 57) = wb at kA BX OKB HOB KB d3b ⊢
      have glb := World.block_lt_of_cell? _ _ d3b
      have gxb := lt_of_block BX.out
      go_wp2_with fail
      refine wp_region_any (by kernel_rfl) (wpAny_of_held (S := KpS (Value.slice a2 k c2).ownBlock.toList wb.heap.size wb.drew) _ _ _ _ ?_)
      change wpAnyH _ _ _ _ _ _ _ _ wb.drew
      have D3 : ∀ W1, KpS (Value.slice a2 k c2).ownBlock.toList wb.heap.size wb.drew W1 → W1.cell? ⟨g, off + k * 4 + 3, none⟩ = some (.slice ra r.bs.length rc) := fun W1 h => h.cell (by rw [World.cell?_drew]; exact d3b) glb ng
      have E0 : ∀ W1, KpS (Value.slice a2 k c2).ownBlock.toList wb.heap.size wb.drew W1 → W1.heap[gx]? = some (.cells #[.int .i64 r.c, .int .i64 r.l, .int .i64 r.s] 57 (0, 0)) := fun W1 h => (h.block gx gxb nx).trans BX.out
      refine held_take (i := 0) (v := .slice a2 k c2) rfl (by kernel_rfl) (by kernel_rfl) (by kernel_rfl) (fun _ _ _ h => h) rfl (fun W1 hW1 => rfl) (KpS.refl _ _ _) ?_
      simp only [Act.put, List.setIfInBounds_toArray, List.set_cons_zero, List.set_cons_succ]
      refine held_take (i := 1) (v := .agg #[.int .i64 r.c, .int .i64 r.l, .int .i64 r.s]) rfl (by kernel_rfl) (by kernel_rfl) (by kernel_rfl) (fun _ _ _ h => h) rfl (fun W1 hW1 => exec_load _ _ _ _ rfl rfl (loadVB8 (E0 W1 hW1))) (KpS.refl _ _ _) ?_
      simp only [Act.put, List.setIfInBounds_toArray, List.set_cons_zero, List.set_cons_succ]
      refine held_take (i := 2) (v := .slice (some ⟨g, off, none⟩) rs.length c) rfl (by kernel_rfl) (by kernel_rfl) (by kernel_rfl) (fun _ _ _ h => h) rfl (fun W1 hW1 => rfl) (KpS.refl _ _ _) ?_
      simp only [Act.put, List.setIfInBounds_toArray, List.set_cons_zero, List.set_cons_succ]
      refine held_take (i := 3) (v := .int .i64 k) rfl (by kernel_rfl) (by kernel_rfl) (by kernel_rfl) (fun _ _ _ h => h) rfl (fun W1 hW1 => rfl) (KpS.refl _ _ _) ?_
      simp only [Act.put, List.setIfInBounds_toArray, List.set_cons_zero, List.set_cons_succ]
      refine held_take (i := 4) (v := .pointer (some ⟨g, off + k * 4, none⟩)) rfl (by kernel_rfl) (by kernel_rfl) (by kernel_rfl) (fun _ _ _ h => h) rfl (fun W1 hW1 => by go_simp) (KpS.refl _ _ _) ?_
      simp only [Act.put, List.setIfInBounds_toArray, List.set_cons_zero, List.set_cons_succ]
      refine held_take (i := 5) (v := .pointer (some ⟨g, off + k * 4 + 3, none⟩)) rfl (by kernel_rfl) (by kernel_rfl) (by kernel_rfl) (fun _ _ _ h => h) rfl (fun W1 hW1 => by go_simp) (KpS.refl _ _ _) ?_
      simp only [Act.put, List.setIfInBounds_toArray, List.set_cons_zero, List.set_cons_succ]
      refine held_take (i := 6) (v := .slice ra r.bs.length rc) rfl (by kernel_rfl) (by kernel_rfl) (by kernel_rfl) (fun _ _ _ h => h) rfl (fun W1 hW1 => exec_load _ _ _ _ rfl rfl (run_loadCell W1 _ _ _ (D3 W1 hW1) (agg_no _ (by kernel_rfl)))) (KpS.refl _ _ _) ?_
      simp only [Act.put, List.setIfInBounds_toArray, List.set_cons_zero, List.set_cons_succ]
      refine held_take (i := 7) (v := .agg #[.int .i64 r.c, .int .i64 r.l, .int .i64 r.s, .slice ra r.bs.length rc]) rfl (by kernel_rfl) (by kernel_rfl) (by kernel_rfl) (fun _ _ _ h => h) rfl (fun W1 hW1 => by go_simp) (KpS.refl _ _ _) ?_
      simp only [Act.put, List.setIfInBounds_toArray, List.set_cons_zero, List.set_cons_succ]
      refine held_do (i := 8) (by kernel_rfl) rfl rfl (wp_value (exec_oneRw rtV _ _ _ _ _ _ _ rfl rfl) ?_)
      have kD : Keeps [] wb wb.drew := (Keeps.refl [] wb).drew
      have hzb := KB.out.size
      obtain ⟨a4, c4, w4, hr4, o4, k4⟩ := append_row rtV (HOB.out.later kD) r (OKB.out.later kD) (off_own OKW.out (fun b hb => (ownge b (by simpa using hb)).1)) (by omega) hzb 50 HROW.out
      rw [tl] at hr4 o4
      refine ⟨(KpS.refl _ _ _).alloc (by simp) _, ?_⟩
      simp only [Act.put, List.setIfInBounds_toArray, List.set_cons_zero, List.set_cons_succ]
      refine held_do (i := 9) (by kernel_rfl) rfl rfl (wp_value (exec_appendT 50 _ _ rfl rfl rfl hr4) ?_)
      have sF : KpS (Value.slice a2 k c2).ownBlock.toList wb.heap.size wb.drew w4 := (KpS.refl _ _ _).keeps k4 (Nat.le_refl _) (fun j hj _ => hj)
      refine ⟨sF, ?_⟩
      simp only [Act.put, List.setIfInBounds_toArray, List.set_cons_zero, List.set_cons_succ]
      refine held_take (i := 10) (v := .slice a4 (k + 1) c4) rfl (by kernel_rfl) (by kernel_rfl) (by kernel_rfl) (fun _ _ _ h => h) rfl (fun W1 hW1 => by go_simp) (sF) ?_
      simp only [Act.put, List.setIfInBounds_toArray, List.set_cons_zero, List.set_cons_succ]
      refine wpAnyH_done (by kernel_rfl) ?_ _
      have O4 := hid o4
      have K4 : Hid (Keeps [] w w4) := hid ((KB.out.trans kD).trans' k4 (fun j hj hm => by have := (ownge j hm).1; omega))
      clear D3 E0 sF o4 k4 hr4 kD hzb ng nx ownge glb gxb d0 d1 d2 d3 d3b kA gl gM
      go_wp2_with fail
      go_roundw
      case rel => exact ⟨k + 1, a4, c4, by omega, by go_num, rfl, by rw [HT.out]; exact O4.out, K4.out⟩
      case measure => simp [intOf]; omega
    · obtain rfl : k = rs.length := by omega
      rw [List.take_length] at HO
      go_wp2_with fail
      go_ret
      exact ⟨a2, c2, rfl, HO.out.at, KK.out⟩

set_option maxHeartbeats 6400000 in
theorem j8Rows_any (w : World) (M : List Nat) (hM : ∀ b ∈ M, b < w.heap.size) (v : Value) (rs : List Rw) (h : RwsAt w M v rs) (hl : rs.length ≤ 1000) : Calls Try.prog 32 #[v] w (CopyPost w M rs) := by
  obtain ⟨a, c, rfl, -⟩ := id h
  have HH := hid h
  have HM := hid hM
  clear h hM
  go_enter Try.func32, Try.ntmps32
  go_wp2_with fail
  go_loopw [3, 4] (fun o iv wr => ∃ (k : Nat) (a2 : Option Addr) (c2 : Nat), k ≤ rs.length ∧ iv = .int .i64 k ∧ o = .slice a2 k c2 ∧ OwnW 82 wr w.heap.size M (.slice a2 k c2) (rs.take k) ∧ Keeps [] w wr) (fun _ iv _ => rs.length - (intOf iv).toNat)
  case atStart => exact ⟨0, none, 0, by omega, rfl, rfl, by simpa using OwnW.nil 82 w w.heap.size M HM.out, Keeps.refl _ _⟩
  case round =>
    obtain ⟨k, a2, c2, hk, rfl, rfl, ho, kk⟩ := hrel
    have KK := hid kk
    have HO := hid ho
    clear kk ho
    by_cases hlt : k < rs.length
    · obtain ⟨g, off, ha, -, gw, -, -⟩ := HH.out.at k hlt
      obtain ⟨g', off', ha', -, gl, gM, d0, d1, d2, d3⟩ := (HH.out.later KK.out).at k hlt
      rw [ha] at ha'
      injection ha' with ha'
      injection ha' with e1 e2 _
      subst e1; subst e2
      subst ha
      have OK := hid ((HH.out.ok rs[k] (List.getElem_mem _)).later KK.out)
      have OKW := hid (HH.out.ok rs[k] (List.getElem_mem _))
      obtain ⟨ra, rc, hrow, -⟩ := OK.out.row
      rw [hrow] at d3
      have HROW := hid hrow
      have HT := hid (List.take_succ_eq_append_getElem hlt)
      have tl : (rs.take k).length = k := by rw [List.length_take]; omega
      obtain ⟨r, hr⟩ : ∃ r, r = rs[k] := ⟨_, rfl⟩
      rw [← hr] at OK OKW HROW HT d0 d1 d2 d3
      clear hrow hr
      have ownge : ∀ b ∈ (Value.slice a2 k c2).ownBlock.toList, w.heap.size ≤ b ∧ b < wr.heap.size := fun b hb => HO.out.blk b (by simpa using hb)
      have ng : g ∉ (Value.slice a2 k c2).ownBlock.toList := fun hm => by
        have := (ownge g hm).1
        omega
      have ST := j8Stamp_any wr.drew r.c r.l r.s
      unfold stV at ST
      go_wp2_with fail
      refine wp_region_any (by kernel_rfl) (wpAny_of_held (S := KpS (Value.slice a2 k c2).ownBlock.toList wr.heap.size wr.drew) _ _ _ _ ?_)
      change wpAnyH _ _ _ _ _ _ _ _ wr.drew
      have D0 : ∀ W1, KpS (Value.slice a2 k c2).ownBlock.toList wr.heap.size wr.drew W1 → W1.cell? ⟨g, off + k * 4, none⟩ = some (.int .i64 r.c) := fun W1 h => h.cell (by rw [World.cell?_drew]; exact d0) gl ng
      have D1 : ∀ W1, KpS (Value.slice a2 k c2).ownBlock.toList wr.heap.size wr.drew W1 → W1.cell? ⟨g, off + k * 4 + 1, none⟩ = some (.int .i64 r.l) := fun W1 h => h.cell (by rw [World.cell?_drew]; exact d1) gl ng
      have D2 : ∀ W1, KpS (Value.slice a2 k c2).ownBlock.toList wr.heap.size wr.drew W1 → W1.cell? ⟨g, off + k * 4 + 2, none⟩ = some (.int .i64 r.s) := fun W1 h => h.cell (by rw [World.cell?_drew]; exact d2) gl ng
      have D3 : ∀ W1, KpS (Value.slice a2 k c2).ownBlock.toList wr.heap.size wr.drew W1 → W1.cell? ⟨g, off + k * 4 + 3, none⟩ = some (.slice ra r.bs.length rc) := fun W1 h => h.cell (by rw [World.cell?_drew]; exact d3) gl ng
      refine held_take (i := 0) (v := .slice a2 k c2) rfl (by kernel_rfl) (by kernel_rfl) (by kernel_rfl) (fun _ _ _ h => h) rfl (fun W1 hW1 => rfl) (KpS.refl _ _ _) ?_
      simp only [Act.put, List.setIfInBounds_toArray, List.set_cons_zero, List.set_cons_succ]
      refine held_take (i := 1) (v := .slice (some ⟨g, off, none⟩) rs.length c) rfl (by kernel_rfl) (by kernel_rfl) (by kernel_rfl) (fun _ _ _ h => h) rfl (fun W1 hW1 => rfl) (KpS.refl _ _ _) ?_
      simp only [Act.put, List.setIfInBounds_toArray, List.set_cons_zero, List.set_cons_succ]
      refine held_take (i := 2) (v := .int .i64 k) rfl (by kernel_rfl) (by kernel_rfl) (by kernel_rfl) (fun _ _ _ h => h) rfl (fun W1 hW1 => rfl) (KpS.refl _ _ _) ?_
      simp only [Act.put, List.setIfInBounds_toArray, List.set_cons_zero, List.set_cons_succ]
      refine held_take (i := 3) (v := .pointer (some ⟨g, off + k * 4, none⟩)) rfl (by kernel_rfl) (by kernel_rfl) (by kernel_rfl) (fun _ _ _ h => h) rfl (fun W1 hW1 => by go_simp) (KpS.refl _ _ _) ?_
      simp only [Act.put, List.setIfInBounds_toArray, List.set_cons_zero, List.set_cons_succ]
      refine held_take (i := 4) (v := .pointer (some ⟨g, off + k * 4, none⟩)) rfl (by kernel_rfl) (by kernel_rfl) (by kernel_rfl) (fun _ _ _ h => h) rfl (fun W1 hW1 => by go_simp) (KpS.refl _ _ _) ?_
      simp only [Act.put, List.setIfInBounds_toArray, List.set_cons_zero, List.set_cons_succ]
      refine held_take (i := 5) (v := .agg #[.int .i64 r.c, .int .i64 r.l, .int .i64 r.s]) rfl (by kernel_rfl) (by kernel_rfl) (by kernel_rfl) (fun _ _ _ h => h) rfl (fun W1 hW1 => exec_load _ _ _ _ rfl rfl (loadV8 (D0 W1 hW1) (D1 W1 hW1) (D2 W1 hW1))) (KpS.refl _ _ _) ?_
      simp only [Act.put, List.setIfInBounds_toArray, List.set_cons_zero, List.set_cons_succ]
      refine held_take (i := 7) (v := .slice (some ⟨g, off, none⟩) rs.length c) rfl (by kernel_rfl) (by kernel_rfl) (by kernel_rfl) (fun _ _ _ h => h) rfl (fun W1 hW1 => rfl) (KpS.refl _ _ _) ?_
      simp only [Act.put, List.setIfInBounds_toArray, List.set_cons_zero, List.set_cons_succ]
      refine held_take (i := 8) (v := .int .i64 k) rfl (by kernel_rfl) (by kernel_rfl) (by kernel_rfl) (fun _ _ _ h => h) rfl (fun W1 hW1 => rfl) (KpS.refl _ _ _) ?_
      simp only [Act.put, List.setIfInBounds_toArray, List.set_cons_zero, List.set_cons_succ]
      refine held_take (i := 9) (v := .pointer (some ⟨g, off + k * 4, none⟩)) rfl (by kernel_rfl) (by kernel_rfl) (by kernel_rfl) (fun _ _ _ h => h) rfl (fun W1 hW1 => by go_simp) (KpS.refl _ _ _) ?_
      simp only [Act.put, List.setIfInBounds_toArray, List.set_cons_zero, List.set_cons_succ]
      refine held_take (i := 10) (v := .pointer (some ⟨g, off + k * 4 + 3, none⟩)) rfl (by kernel_rfl) (by kernel_rfl) (by kernel_rfl) (fun _ _ _ h => h) rfl (fun W1 hW1 => by go_simp) (KpS.refl _ _ _) ?_
      simp only [Act.put, List.setIfInBounds_toArray, List.set_cons_zero, List.set_cons_succ]
      refine held_take (i := 11) (v := .slice ra r.bs.length rc) rfl (by kernel_rfl) (by kernel_rfl) (by kernel_rfl) (fun _ _ _ h => h) rfl (fun W1 hW1 => exec_load _ _ _ _ rfl rfl (run_loadCell W1 _ _ _ (D3 W1 hW1) (agg_no _ (by kernel_rfl)))) (KpS.refl _ _ _) ?_
      simp only [Act.put, List.setIfInBounds_toArray, List.set_cons_zero, List.set_cons_succ]
      refine held_do (i := 6) (by kernel_rfl) rfl rfl (wp_enter (f := 24) (args := #[.agg #[.int .i64 r.c, .int .i64 r.l, .int .i64 r.s]]) (by go_simp) (ST) ?_)
      rintro e w3 ⟨rfl, k3⟩
      have sC : KpS (Value.slice a2 k c2).ownBlock.toList wr.heap.size wr.drew w3 := (KpS.refl _ _ _).keeps k3 (by simp) (by simp)
      refine ⟨_, rfl, sC, ?_⟩
      simp only [Act.put, List.setIfInBounds_toArray, List.set_cons_zero, List.set_cons_succ]
      refine held_take (i := 12) (v := .agg #[.int .i64 r.c, .int .i64 r.l, .int .i64 r.s, .slice ra r.bs.length rc]) rfl (by kernel_rfl) (by kernel_rfl) (by kernel_rfl) (fun _ _ _ h => h) rfl (fun W1 hW1 => by go_simp) (sC) ?_
      simp only [Act.put, List.setIfInBounds_toArray, List.set_cons_zero, List.set_cons_succ]
      refine held_do (i := 13) (by kernel_rfl) rfl rfl (wp_value (exec_oneRw rtP _ _ _ _ _ _ _ rfl rfl) ?_)
      have kD : Keeps [] wr w3 := (Keeps.refl [] wr).drew.trans k3
      have hzb := (KK.out.trans kD).size
      obtain ⟨a4, c4, w4, hr4, o4, k4⟩ := append_row rtP (HO.out.later kD) r (OK.out.later kD) (off_own OKW.out (fun b hb => (ownge b (by simpa using hb)).1)) (by omega) hzb 64 HROW.out
      rw [tl] at hr4 o4
      refine ⟨sC.keeps ((Keeps.refl [] w3).alloc _) kD.size (by simp), ?_⟩
      simp only [Act.put, List.setIfInBounds_toArray, List.set_cons_zero, List.set_cons_succ]
      refine held_do (i := 14) (by kernel_rfl) rfl rfl (wp_value (exec_appendT 64 _ _ rfl rfl rfl hr4) ?_)
      have sF : KpS (Value.slice a2 k c2).ownBlock.toList wr.heap.size wr.drew w4 := sC.keeps k4 kD.size (fun j hj _ => hj)
      refine ⟨sF, ?_⟩
      simp only [Act.put, List.setIfInBounds_toArray, List.set_cons_zero, List.set_cons_succ]
      refine held_take (i := 15) (v := .slice a4 (k + 1) c4) rfl (by kernel_rfl) (by kernel_rfl) (by kernel_rfl) (fun _ _ _ h => h) rfl (fun W1 hW1 => by go_simp) (sF) ?_
      simp only [Act.put, List.setIfInBounds_toArray, List.set_cons_zero, List.set_cons_succ]
      refine wpAnyH_done (by kernel_rfl) ?_ _
      have O4 := hid o4
      have K4 : Hid (Keeps [] w w4) := hid ((KK.out.trans kD).trans' k4 (fun j hj hm => by have := (ownge j hm).1; omega))
      clear D0 D1 D2 D3 sF sC o4 k4 hr4 kD hzb ng ownge d0 d1 d2 d3 gl gM ST k3
      go_wp2_with fail
      go_roundw
      case rel => exact ⟨k + 1, a4, c4, by omega, by go_num, rfl, by rw [HT.out]; exact O4.out, K4.out⟩
      case measure => simp [intOf]; omega
    · obtain rfl : k = rs.length := by omega
      rw [List.take_length] at HO
      go_wp2_with fail
      go_ret
      exact ⟨a2, c2, rfl, HO.out.at, KK.out⟩

theorem rcon_at {xs ys : List Rw} (h : xs.map Rw.con = ys.map Rw.con) (k : Nat) (hx : k < xs.length) (hy : k < ys.length) : xs[k].c = ys[k].c ∧ xs[k].l = ys[k].l ∧ xs[k].s = ys[k].s ∧ xs[k].bs = ys[k].bs := by
  have := congrArg (fun l => l[k]?) h
  simp only [List.getElem?_map, List.getElem?_eq_getElem hx, List.getElem?_eq_getElem hy, Option.map_some] at this
  have e := Option.some.inj this
  simp only [Rw.con, Prod.mk.injEq] at e
  exact e
theorem rcon_len {xs ys : List Rw} (h : xs.map Rw.con = ys.map Rw.con) : xs.length = ys.length := by simpa using congrArg List.length h

set_option maxHeartbeats 6400000 in
theorem vSameRows_any (w : World) (X Y : List Nat) (u v : Value) (xs ys : List Rw) (hx : RwsAt w X u xs) (hy : RwsAt w Y v ys) (hl : xs.length ≤ 1000) (hc : xs.map Rw.con = ys.map Rw.con) :
    Calls Try.prog 28 #[u, v] w fun e w' => e = .returned (.bool true) ∧ ∃ n, w' = w.drewN n := by
  obtain ⟨a, c, rfl, -⟩ := id hx
  obtain ⟨b, d, rfl, -⟩ := id hy
  have HX := hid hx
  have HY := hid hy
  have HC := hid hc
  have HL := hid (rcon_len hc)
  rw [← HL.out] at HY ⊢
  clear hx hy hc
  go_enter Try.func28, Try.ntmps28
  go_wp2_with fail
  go_loopw [5] (fun iv wr => ∃ k n : Nat, k ≤ xs.length ∧ iv = .int .i64 k ∧ wr = w.drewN n) (fun iv _ => xs.length - (intOf iv).toNat)
  case atStart => exact ⟨0, 0, by omega, rfl, rfl⟩
  case round =>
    obtain ⟨k, n, hk, rfl, rfl⟩ := hrel
    by_cases hlt : k < xs.length
    · have hlt2 : k < ys.length := by have := HL.out; omega
      have kk := (Keeps.refl [] w).drewN n
      obtain ⟨g1, o1, ha, -, gl1, -, d0, d1, d2, d3⟩ := (HX.out.later kk).at k hlt
      obtain ⟨g2, o2, hb, -, gl2, -, e0, e1, e2, e3⟩ := (HY.out.later kk).at k hlt2
      subst ha; subst hb
      obtain ⟨q1, q2, q3, q4⟩ := rcon_at HC.out k hlt hlt2
      rw [← q1] at e0
      rw [← q2] at e1
      rw [← q3] at e2
      have okx := (HX.out.later kk).ok xs[k] (List.getElem_mem _)
      have oky := (HY.out.later kk).ok ys[k] (List.getElem_mem _)
      obtain ⟨ra, rc, hr1, -⟩ := okx.row
      obtain ⟨rb, rd, hr2, -⟩ := oky.row
      have r1 := okx.row
      have r2 := oky.row
      rw [hr1] at d3 r1
      rw [hr2] at e3 r2
      rw [← q4] at e3 r2
      have fit := okx.fit
      obtain ⟨x, hx⟩ : ∃ x, x = xs[k] := ⟨_, rfl⟩
      rw [← hx] at d0 d1 d2 d3 e0 e1 e2 e3 r1 r2 fit
      obtain ⟨wr, hwr⟩ : ∃ z, z = w.drewN n := ⟨_, rfl⟩
      rw [← hwr] at d0 d1 d2 d3 e0 e1 e2 e3 r1 r2 gl1 gl2 ⊢
      have HWR := hid hwr
      have R1 := hid r1
      have R2 := hid r2
      have FIT := hid fit
      clear q1 q2 q3 q4 okx oky hr1 hr2 kk hwr hx r1 r2 fit
      go_wp2_with fail
      refine wp_region_any (by kernel_rfl) (wpAny_of_held (S := KpS [] wr.heap.size wr.drew) _ _ _ _ ?_)
      change wpAnyH _ _ _ _ _ _ _ _ wr.drew
      have D0 : ∀ W1, KpS [] wr.heap.size wr.drew W1 → W1.cell? ⟨g1, o1 + k * 4, none⟩ = some (.int .i64 x.c) := fun W1 h => h.cell (by rw [World.cell?_drew]; exact d0) gl1 (by simp)
      have D1 : ∀ W1, KpS [] wr.heap.size wr.drew W1 → W1.cell? ⟨g1, o1 + k * 4 + 1, none⟩ = some (.int .i64 x.l) := fun W1 h => h.cell (by rw [World.cell?_drew]; exact d1) gl1 (by simp)
      have D2 : ∀ W1, KpS [] wr.heap.size wr.drew W1 → W1.cell? ⟨g1, o1 + k * 4 + 2, none⟩ = some (.int .i64 x.s) := fun W1 h => h.cell (by rw [World.cell?_drew]; exact d2) gl1 (by simp)
      have D3 : ∀ W1, KpS [] wr.heap.size wr.drew W1 → W1.cell? ⟨g1, o1 + k * 4 + 3, none⟩ = some (.slice ra x.bs.length rc) := fun W1 h => h.cell (by rw [World.cell?_drew]; exact d3) gl1 (by simp)
      have E0 : ∀ W1, KpS [] wr.heap.size wr.drew W1 → W1.cell? ⟨g2, o2 + k * 4, none⟩ = some (.int .i64 x.c) := fun W1 h => h.cell (by rw [World.cell?_drew]; exact e0) gl2 (by simp)
      have E1 : ∀ W1, KpS [] wr.heap.size wr.drew W1 → W1.cell? ⟨g2, o2 + k * 4 + 1, none⟩ = some (.int .i64 x.l) := fun W1 h => h.cell (by rw [World.cell?_drew]; exact e1) gl2 (by simp)
      have E2 : ∀ W1, KpS [] wr.heap.size wr.drew W1 → W1.cell? ⟨g2, o2 + k * 4 + 2, none⟩ = some (.int .i64 x.s) := fun W1 h => h.cell (by rw [World.cell?_drew]; exact e2) gl2 (by simp)
      have E3 : ∀ W1, KpS [] wr.heap.size wr.drew W1 → W1.cell? ⟨g2, o2 + k * 4 + 3, none⟩ = some (.slice rb x.bs.length rd) := fun W1 h => h.cell (by rw [World.cell?_drew]; exact e3) gl2 (by simp)
      refine held_take (i := 0) (v := .slice (some ⟨g1, o1, none⟩) xs.length c) rfl (by kernel_rfl) (by kernel_rfl) (by kernel_rfl) (fun _ _ _ h => h) rfl (fun W1 hW1 => rfl) (KpS.refl _ _ _) ?_
      simp only [Act.put, List.setIfInBounds_toArray, List.set_cons_zero, List.set_cons_succ]
      refine held_take (i := 1) (v := .int .i64 k) rfl (by kernel_rfl) (by kernel_rfl) (by kernel_rfl) (fun _ _ _ h => h) rfl (fun W1 hW1 => rfl) (KpS.refl _ _ _) ?_
      simp only [Act.put, List.setIfInBounds_toArray, List.set_cons_zero, List.set_cons_succ]
      refine held_take (i := 2) (v := .pointer (some ⟨g1, o1 + k * 4, none⟩)) rfl (by kernel_rfl) (by kernel_rfl) (by kernel_rfl) (fun _ _ _ h => h) rfl (fun W1 hW1 => by go_simp) (KpS.refl _ _ _) ?_
      simp only [Act.put, List.setIfInBounds_toArray, List.set_cons_zero, List.set_cons_succ]
      refine held_take (i := 3) (v := .pointer (some ⟨g1, o1 + k * 4, none⟩)) rfl (by kernel_rfl) (by kernel_rfl) (by kernel_rfl) (fun _ _ _ h => h) rfl (fun W1 hW1 => by go_simp) (KpS.refl _ _ _) ?_
      simp only [Act.put, List.setIfInBounds_toArray, List.set_cons_zero, List.set_cons_succ]
      refine held_take (i := 4) (v := .agg #[.int .i64 x.c, .int .i64 x.l, .int .i64 x.s]) rfl (by kernel_rfl) (by kernel_rfl) (by kernel_rfl) (fun _ _ _ h => h) rfl (fun W1 hW1 => exec_load _ _ _ _ rfl rfl (loadV8 (D0 W1 hW1) (D1 W1 hW1) (D2 W1 hW1))) (KpS.refl _ _ _) ?_
      simp only [Act.put, List.setIfInBounds_toArray, List.set_cons_zero, List.set_cons_succ]
      refine held_take (i := 5) (v := .slice (some ⟨g2, o2, none⟩) xs.length d) rfl (by kernel_rfl) (by kernel_rfl) (by kernel_rfl) (fun _ _ _ h => h) rfl (fun W1 hW1 => rfl) (KpS.refl _ _ _) ?_
      simp only [Act.put, List.setIfInBounds_toArray, List.set_cons_zero, List.set_cons_succ]
      refine held_take (i := 6) (v := .int .i64 k) rfl (by kernel_rfl) (by kernel_rfl) (by kernel_rfl) (fun _ _ _ h => h) rfl (fun W1 hW1 => rfl) (KpS.refl _ _ _) ?_
      simp only [Act.put, List.setIfInBounds_toArray, List.set_cons_zero, List.set_cons_succ]
      refine held_take (i := 7) (v := .pointer (some ⟨g2, o2 + k * 4, none⟩)) rfl (by kernel_rfl) (by kernel_rfl) (by kernel_rfl) (fun _ _ _ h => h) rfl (fun W1 hW1 => by go_simp) (KpS.refl _ _ _) ?_
      simp only [Act.put, List.setIfInBounds_toArray, List.set_cons_zero, List.set_cons_succ]
      refine held_take (i := 8) (v := .pointer (some ⟨g2, o2 + k * 4, none⟩)) rfl (by kernel_rfl) (by kernel_rfl) (by kernel_rfl) (fun _ _ _ h => h) rfl (fun W1 hW1 => by go_simp) (KpS.refl _ _ _) ?_
      simp only [Act.put, List.setIfInBounds_toArray, List.set_cons_zero, List.set_cons_succ]
      refine held_take (i := 9) (v := .agg #[.int .i64 x.c, .int .i64 x.l, .int .i64 x.s]) rfl (by kernel_rfl) (by kernel_rfl) (by kernel_rfl) (fun _ _ _ h => h) rfl (fun W1 hW1 => exec_load _ _ _ _ rfl rfl (loadV8 (E0 W1 hW1) (E1 W1 hW1) (E2 W1 hW1))) (KpS.refl _ _ _) ?_
      simp only [Act.put, List.setIfInBounds_toArray, List.set_cons_zero, List.set_cons_succ]
      refine held_take (i := 10) (v := .bool false) rfl (by kernel_rfl) (by kernel_rfl) (by kernel_rfl) (fun _ _ _ h => h) rfl (fun W1 hW1 => by go_simp) (KpS.refl _ _ _) ?_
      simp only [Act.put, List.setIfInBounds_toArray, List.set_cons_zero, List.set_cons_succ]
      refine held_take (i := 11) (v := .bool false) rfl (by kernel_rfl) (by kernel_rfl) (by kernel_rfl) (fun _ _ _ h => h) rfl (fun W1 hW1 => by go_simp) (KpS.refl _ _ _) ?_
      simp only [Act.put, List.setIfInBounds_toArray, List.set_cons_zero, List.set_cons_succ]
      refine held_takeW (i := 12) (v := .slice (some ⟨g1, o1, none⟩) xs.length c) rfl (by kernel_rfl) (by kernel_rfl) (by kernel_rfl) (fun _ _ _ h => h) rfl (fun W1 hW1 => rfl) (KpS.refl _ _ _) ?_
      simp only [Act.put, List.setIfInBounds_toArray, List.set_cons_zero, List.set_cons_succ]
      refine held_takeW (i := 13) (v := .int .i64 k) rfl (by kernel_rfl) (by kernel_rfl) (by kernel_rfl) (fun _ _ _ h => h) rfl (fun W1 hW1 => rfl) (KpS.refl _ _ _) ?_
      simp only [Act.put, List.setIfInBounds_toArray, List.set_cons_zero, List.set_cons_succ]
      refine held_takeW (i := 14) (v := .pointer (some ⟨g1, o1 + k * 4, none⟩)) rfl (by kernel_rfl) (by kernel_rfl) (by kernel_rfl) (fun _ _ _ h => h) rfl (fun W1 hW1 => by go_simp) (KpS.refl _ _ _) ?_
      simp only [Act.put, List.setIfInBounds_toArray, List.set_cons_zero, List.set_cons_succ]
      refine held_takeW (i := 15) (v := .pointer (some ⟨g1, o1 + k * 4 + 3, none⟩)) rfl (by kernel_rfl) (by kernel_rfl) (by kernel_rfl) (fun _ _ _ h => h) rfl (fun W1 hW1 => by go_simp) (KpS.refl _ _ _) ?_
      simp only [Act.put, List.setIfInBounds_toArray, List.set_cons_zero, List.set_cons_succ]
      refine held_takeW (i := 16) (v := .slice ra x.bs.length rc) rfl (by kernel_rfl) (by kernel_rfl) (by kernel_rfl) (fun _ _ _ h => h) rfl (fun W1 hW1 => exec_load _ _ _ _ rfl rfl (run_loadCell W1 _ _ _ (D3 W1 hW1) (agg_no _ (by kernel_rfl)))) (KpS.refl _ _ _) ?_
      simp only [Act.put, List.setIfInBounds_toArray, List.set_cons_zero, List.set_cons_succ]
      refine held_takeW (i := 17) (v := .slice (some ⟨g2, o2, none⟩) xs.length d) rfl (by kernel_rfl) (by kernel_rfl) (by kernel_rfl) (fun _ _ _ h => h) rfl (fun W1 hW1 => rfl) (KpS.refl _ _ _) ?_
      simp only [Act.put, List.setIfInBounds_toArray, List.set_cons_zero, List.set_cons_succ]
      refine held_takeW (i := 18) (v := .int .i64 k) rfl (by kernel_rfl) (by kernel_rfl) (by kernel_rfl) (fun _ _ _ h => h) rfl (fun W1 hW1 => rfl) (KpS.refl _ _ _) ?_
      simp only [Act.put, List.setIfInBounds_toArray, List.set_cons_zero, List.set_cons_succ]
      refine held_takeW (i := 19) (v := .pointer (some ⟨g2, o2 + k * 4, none⟩)) rfl (by kernel_rfl) (by kernel_rfl) (by kernel_rfl) (fun _ _ _ h => h) rfl (fun W1 hW1 => by go_simp) (KpS.refl _ _ _) ?_
      simp only [Act.put, List.setIfInBounds_toArray, List.set_cons_zero, List.set_cons_succ]
      refine held_takeW (i := 20) (v := .pointer (some ⟨g2, o2 + k * 4 + 3, none⟩)) rfl (by kernel_rfl) (by kernel_rfl) (by kernel_rfl) (fun _ _ _ h => h) rfl (fun W1 hW1 => by go_simp) (KpS.refl _ _ _) ?_
      simp only [Act.put, List.setIfInBounds_toArray, List.set_cons_zero, List.set_cons_succ]
      refine held_takeW (i := 21) (v := .slice rb x.bs.length rd) rfl (by kernel_rfl) (by kernel_rfl) (by kernel_rfl) (fun _ _ _ h => h) rfl (fun W1 hW1 => exec_load _ _ _ _ rfl rfl (run_loadCell W1 _ _ _ (E3 W1 hW1) (agg_no _ (by kernel_rfl)))) (KpS.refl _ _ _) ?_
      simp only [Act.put, List.setIfInBounds_toArray, List.set_cons_zero, List.set_cons_succ]
      refine held_doW (i := 22) (by kernel_rfl) rfl rfl (wp_enter (f := 15) (args := #[.slice ra x.bs.length rc, .slice rb x.bs.length rd]) (by go_simp) (same_any wr.drew _ _ x.bs x.bs (R1.out.keep ((Keeps.refl [] wr).drew) (by intro _ _ _ _ _; simp)) (R2.out.keep ((Keeps.refl [] wr).drew) (by intro _ _ _ _ _; simp)) (by have := FIT.out; omega) (by have := FIT.out; omega)) ?_)
      rintro e w3 ⟨rfl, n3, rfl⟩
      rw [decide_eq_true rfl]
      have sC : KpS [] wr.heap.size wr.drew (wr.drew.drewN n3) := (KpS.refl _ _ _).keeps ((Keeps.refl [] wr.drew).drewN n3) (Nat.le_refl _) (by simp)
      refine ⟨_, rfl, sC, ?_⟩
      simp only [Act.put, List.setIfInBounds_toArray, List.set_cons_zero, List.set_cons_succ]
      refine held_takeW (i := 23) (v := .bool false) rfl (by kernel_rfl) (by kernel_rfl) (by kernel_rfl) (fun _ _ _ h => h) rfl (fun W1 hW1 => by go_simp) (sC) ?_
      simp only [Act.put, List.setIfInBounds_toArray, List.set_cons_zero, List.set_cons_succ]
      refine held_take (i := 24) (v := .bool false) rfl (by kernel_rfl) (by kernel_rfl) (by kernel_rfl) (fun _ _ _ h => h) rfl (fun W1 hW1 => by go_simp) (sC) ?_
      simp only [Act.put, List.setIfInBounds_toArray, List.set_cons_zero, List.set_cons_succ]
      refine wpAnyH_done (by kernel_rfl) ?_ _
      clear D0 D1 D2 D3 E0 E1 E2 E3 sC
      have HF : Hid (∃ n, wr.drew.drewN n3 = w.drewN n) := hid ⟨n + (1 + n3), by rw [HWR.out, World.drewN_drew, World.drewN_drewN]⟩
      generalize wr.drew.drewN n3 = w9 at HF ⊢
      obtain ⟨n9, h9⟩ := HF.out
      subst h9
      go_wp2_with fail
      go_roundw
      case rel => exact ⟨k + 1, n9, by omega, by go_num, rfl⟩
      case measure => simp [intOf]; omega
    · obtain rfl : k = xs.length := by omega
      go_wp2_with fail
      go_ret
      exact ⟨rfl, n, rfl⟩

set_option maxHeartbeats 3200000 in
theorem j8Small_any (w : World) (v : Value) (rs : List Rw) (h : R4sAt w v rs) : Calls Try.prog 23 #[v] w fun e w' => (∃ b, e = .returned (.bool b) ∧ (b = true → rs.length ≤ 100 ∧ ∀ r ∈ rs, r.bs.length ≤ 100)) ∧ w = w' := by
  obtain ⟨a, c, rfl, -⟩ := id h
  have HH := hid h
  clear h
  by_cases hl : rs.length ≤ 100
  · go_enter Try.func23, Try.ntmps23
    go_wp2_with fail
    go_loopw [3] (fun iv wr => ∃ k : Nat, k ≤ rs.length ∧ iv = .int .i64 k ∧ wr = w ∧ ∀ r ∈ rs.take k, r.bs.length ≤ 100) (fun iv _ => rs.length - (intOf iv).toNat)
    case atStart => exact ⟨0, by omega, rfl, rfl, by simp⟩
    case round =>
      obtain ⟨k, hk, rfl, rfl, hq⟩ := hrel
      have HQ := hid hq
      clear hq
      by_cases hlt : k < rs.length
      · obtain ⟨g, off, ha, gl, -, rA⟩ := HH.out.at k hlt
        subst ha
        obtain ⟨ra, rc, hrow, -⟩ := rA.row
        have d3 := rA.c3
        rw [hrow] at d3
        have HT := hid (List.take_succ_eq_append_getElem hlt)
        obtain ⟨n, hn⟩ : ∃ n, n = rs[k].bs.length := ⟨_, rfl⟩
        rw [← hn] at d3
        have HN := hid hn
        clear hrow rA hn gl
        by_cases hs : n ≤ 100
        · have hb : decide ((100 : Int) < n) = false := by simp; omega
          have HS := hid hs
          clear hs
          go_wp2_with fail
          go_roundw
          case rel =>
            refine ⟨k + 1, by omega, by go_num, trivial, fun r hr => ?_⟩
            rw [HT.out] at hr
            rcases List.mem_append.1 hr with hr | hr
            · exact HQ.out r hr
            · simp at hr; subst hr; rw [← HN.out]; exact HS.out
          case measure => simp [intOf]; omega
        · have hb : decide ((100 : Int) < n) = true := by simp; omega
          clear hs
          go_wp2_with fail
          go_ret
          exact ⟨⟨false, rfl, by simp⟩, rfl⟩
      · obtain rfl : k = rs.length := by omega
        rw [List.take_length] at HQ
        go_wp2_with fail
        go_ret
        exact ⟨⟨true, rfl, fun _ => ⟨hl, HQ.out⟩⟩, rfl⟩
  · go_enter Try.func23, Try.ntmps23
    go_wp2_with fail
    go_ret
    exact ⟨⟨false, rfl, by simp⟩, rfl⟩
end Go.Proofs.Ytkfebgbgnpdgpaa
