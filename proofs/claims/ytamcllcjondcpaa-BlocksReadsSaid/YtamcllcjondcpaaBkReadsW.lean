/- blocks: the walk of the law BlocksReads. -/
import Derived.Test.YtamcllcjondcpaaBkRj
import Derived.Test.YtamcllcjondcpaaBkLk
import Derived.Test.YtamcllcjondcpaaBkY
import Derived.Test.YtamcllcjondcpaaBkM
import Derived.Test.YtamcllcjondcpaaBkC
namespace Go.Proofs.Ytamcllcjondcpaa
open Go.RowKit Go.Shelf
set_option maxRecDepth 100000
set_option linter.unusedSimpArgs false

theorem EyL.base {w0 w1 w : World} {B p : Nat} {v : Value} {st : PSt} (h : EyL w0 w B p v st) (hs : w0.heap.size ≤ w1.heap.size) : EyL w1 w B p v st := by
  obtain ⟨v2, he, hb, ho⟩ := h
  exact ⟨v2, he, hb, fun g hg => ho g (by omega)⟩
theorem EyL.rebase {w2 w3 w : World} {B p : Nat} {v : Value} {st : PSt} {zs : List Int} (h : EyL w3 w B p v st) (h0 : OffB w2.heap.size v zs) (hne : st.1 ≠ [] → zs ≠ []) : EyL w2 w B p v st := by
  obtain ⟨v2, he, hb, _⟩ := h
  exact ⟨v2, he, hb, h0.same hb hne⟩
theorem EyL.left {w wr : World} {B p : Nat} {v : Value} {st : PSt} (h : EyL w wr B p v st) : Calls Try.prog 13 #[.pointer (some ⟨p, 0, none⟩)] wr fun e w' => e = .returned (.int .i64 st.1.length) ∧ wr = w' := by
  obtain ⟨v2, he, _⟩ := h
  exact left_any wr B p v2 st.1 st.2 he
theorem reye_newB {w0 w : World} {u : Value} {zs : List Int} (k0 : Keeps [] w0 w) (h : RowAt w0 u zs) (hl : zs.length ≤ 35184372088832) : REyL (w.alloc (.cells #[u, .int .i64 0] 29)) w0.heap.size w.heap.size (zs, 0) := by
  have k := (k0).alloc (.cells #[u, .int .i64 0] 29)
  refine ⟨u, heap_alloc_new w _, h.keep k (by intro _ _ _ _ _; simp), fun S hS ad n c e hne hm => ?_, k0.size, hl⟩
  have hpos : 0 < zs.length := List.length_pos_iff.2 hne
  obtain ⟨g2, off, cap, rfl, _, hc⟩ := h.open hpos
  injection e with e1 _ _
  obtain rfl := Option.some.inj e1
  have h1 := World.block_lt_of_cell? _ _ (hc 0 hpos)
  have h2 := hS _ hm
  simp only at h1 h2
  omega
theorem rk_newR (w : World) : RkAt (w.alloc (.cells #[.int .i64 0, .slice none 0 0] 41)) w.heap.size [w.heap.size] bk0 := rk_new0 w
/-- Both maps apart. -/
structure BkR (w0 w : World) (m p : Nat) (s : Bk) : Prop where
  ex : ∃ M F, BkAt w M m s ∧ RkAt w p F s ∧ (∀ b ∈ F, b ∈ M) ∧ (∀ b ∈ M, w0.heap.size ≤ b ∧ b < w.heap.size) ∧ m ∉ F
  kept : Keeps [] w0 w
theorem DlsAt.sameR {w' : World} {g off n cap : Nat} {ds : List Dl} (h : DlsAt w' (.slice (some ⟨g, off, none⟩) n cap) ds) (i : Nat) (hi : i < ds.length) : g < w'.heap.size ∧ w'.rangeAt g (off + i * 14) ds[i].cells := by
  obtain ⟨g', off', e, hg, hr⟩ := h.at i hi
  injection e with e
  injection e with e1 e2
  subst e1; subst e2
  exact ⟨hg, hr⟩

set_option maxHeartbeats 25600000 in
theorem readsBig1_any (w : World) (bv v : Value) (zs : List Int) (ds : List Dl) (hz : RowAt w bv zs) (hv : DlsAt w v ds) (h1 : (2000 : Int) < (zs.length : Int)) :
    Calls Try.prog 3 #[bv, v] w fun e w' => e = .returned (.bool true) ∧ Keeps [] w w' := by
  have HZ := hid hz
  have HV := hid hv
  obtain ⟨ba, bc, rfl⟩ : ∃ a c, bv = .slice a zs.length c := by obtain ⟨a, c, h, _⟩ := hz; exact ⟨a, c, h⟩
  obtain ⟨a, c, rfl⟩ := hv.shape
  clear hz hv
  go_enter Try.func3, Try.ntmps3
  go_wp2_with fail
  refine (bkAwake_any w).mono ?_
  rintro e w1 ⟨rfl, k1⟩
  have K1 := hid k1
  clear k1
  go_wp2_with (first | go_big_skip | fail)
  go_ret
  exact ⟨rfl, K1.out⟩

set_option maxHeartbeats 25600000 in
theorem readsBig2_any (w : World) (bv v : Value) (zs : List Int) (ds : List Dl) (hz : RowAt w bv zs) (hv : DlsAt w v ds) (h1 : ¬ (2000 : Int) < (zs.length : Int)) (h2 : (100 : Int) < (ds.length : Int)) :
    Calls Try.prog 3 #[bv, v] w fun e w' => e = .returned (.bool true) ∧ Keeps [] w w' := by
  have HZ := hid hz
  have HV := hid hv
  obtain ⟨ba, bc, rfl⟩ : ∃ a c, bv = .slice a zs.length c := by obtain ⟨a, c, h, _⟩ := hz; exact ⟨a, c, h⟩
  obtain ⟨a, c, rfl⟩ := hv.shape
  clear hz hv
  go_enter Try.func3, Try.ntmps3
  go_wp2_with fail
  refine (bkAwake_any w).mono ?_
  rintro e w1 ⟨rfl, k1⟩
  have K1 := hid k1
  clear k1
  go_wp2_with (first | go_big_skip | fail)
  go_ret
  exact ⟨rfl, K1.out⟩

set_option maxHeartbeats 25600000 in
theorem readsErr_any (w : World) (bv v : Value) (zs : List Int) (ds : List Dl) (hz : RowAt w bv zs) (hv : DlsAt w v ds) (h1 : ¬ (2000 : Int) < (zs.length : Int)) (h2 : ¬ (100 : Int) < (ds.length : Int)) (y : Int) (s2 : PSt) (hr : readM (zs, 0) = (.error y, s2)) (hy : y ≠ 0) :
    Calls Try.prog 3 #[bv, v] w fun e w' => e = .returned (.bool true) ∧ Keeps [] w w' := by
  have HZ := hid hz
  have HV := hid hv
  obtain ⟨ba, bc, rfl⟩ : ∃ a c, bv = .slice a zs.length c := by obtain ⟨a, c, h, _⟩ := hz; exact ⟨a, c, h⟩
  obtain ⟨a, c, rfl⟩ := hv.shape
  clear hz hv
  have HR := hid hr
  have HL := hid h2
  have HZL := hid (show zs.length ≤ 35184372088832 by omega)
  have hyb : (y == 0) = false := by simpa using hy
  have hyn : (y != 0) = true := by simpa using hy
  clear hy
  clear hr
  go_enter Try.func3, Try.ntmps3
  go_wp2_with fail
  refine (bkAwake_any w).mono ?_
  rintro e w1 ⟨rfl, k1⟩
  have K1 := hid k1
  clear k1
  go_wp2_with (first | go_big_skip | fail)
  clear h1 h2
  refine (newEye_any w1 w.heap.size (.slice ba zs.length bc) zs (HZ.out.keep K1.out (by intro _ _ _ _ _; simp)) K1.out.size HZL.out).mono ?_
  rintro e w2 ⟨q, ve, rfl, hq, he, k2, _⟩
  have HQ := hid (show w.heap.size ≤ q from Nat.le_trans K1.out.size hq)
  have HQL := hid he.lt
  have OF := hid (show OffB w2.heap.size ve zs from fun g hg => off_oldB he.row hg)
  have E2 : Hid (EyL w2 w2 w.heap.size q ve (zs, 0)) := hid ⟨ve, he, SameBlk.refl _, OF.out⟩
  have K2 := hid (K1.out.trans k2)
  clear hq he k2
  have ka : Keeps [] w2 (w2.alloc (.cells #[.slice ba zs.length bc, .int .i64 0] 29)) := (Keeps.refl [] w2).alloc _
  have RE3 := hid (reye_newB K2.out HZ.out HZL.out)
  have E3 := hid ((E2.out.more ka).base (w1 := w2.alloc (.cells #[.slice ba zs.length bc, .int .i64 0] 29)) ka.size)
  have HS3 := hid (show w2.heap.size < (w2.alloc (.cells #[.slice ba zs.length bc, .int .i64 0] 29)).heap.size by simp)
  have K3 := hid (K2.out.trans ka)
  clear ka
  go_wp2_with fail
  generalize w2.alloc (.cells #[.slice ba zs.length bc, .int .i64 0] 29) = w3 at RE3 E3 HS3 K3 ⊢
  obtain ⟨pm, hpm⟩ : ∃ n, n = w2.heap.size := ⟨_, rfl⟩
  rw [← hpm] at RE3 HS3 ⊢
  have HPM := hid hpm
  clear hpm
  refine (zRead_any w3 w.heap.size q ve (zs, 0) E3.out).mono ?_
  rw [HR.out]
  rintro e w4 ⟨e4, k4, rfl, -⟩
  have K4 := hid (K3.out.trans' k4 (S := []) (fun i hi hm => by simp at hm; have := HQ.out; omega))
  have RE4 := hid (RE3.out.later k4 HQ.out (by have := HQL.out; have := HPM.out; omega))
  have HB4 := hid (show w.heap.size ≤ w4.heap.size from K4.out.size)
  clear e4 k4
  go_wp2_with fail
  refine (rReadMap_any w4 w.heap.size pm (zs, 0) RE4.out HB4.out HZ.out.bytes).mono ?_
  rw [HR.out]
  rintro e w5 ⟨my, rfl, hmy, k5, -, r, e5⟩
  have E5 := hid e5
  obtain ⟨cb, cf⟩ := e5.cells
  have HP5 := hid e5.lt
  have K5 := hid (K4.out.trans' k5 (S := []) (fun i hi hm => by simp at hm; have := HPM.out; have := K2.out.size; omega))
  clear hmy k5 e5 cf
  have hyy : (y != y) = false := by simp
  go_wp2_with fail
  refine wp_region_any (by kernel_rfl) (wpAny_of_held (S := KpS [] w5.heap.size w5.drew) _ _ _ _ ?_)
  change wpAnyH _ _ _ _ _ _ _ _ w5.drew
  have cB : ∀ W1, KpS [] w5.heap.size w5.drew W1 → W1.cell? ⟨pm, 1, none⟩ = some (.int .i64 y) := fun W1 h => h.cell (by rw [World.cell?_drew]; exact cb) HP5.out (by simp)
  clear cb
  refine held_take (i := 0) (v := .int .i64 y) rfl (by kernel_rfl) (by kernel_rfl) (by kernel_rfl) (fun _ _ _ h => h) rfl (fun W1 hW1 => rfl) (KpS.refl _ _ _) ?_
  simp only [Act.put, List.setIfInBounds_toArray, List.set_cons_zero, List.set_cons_succ]
  refine held_take (i := 1) (v := .pointer (some ⟨pm, 0, none⟩)) rfl (by kernel_rfl) (by kernel_rfl) (by kernel_rfl) (fun _ _ _ h => h) rfl (fun W1 hW1 => rfl) (KpS.refl _ _ _) ?_
  simp only [Act.put, List.setIfInBounds_toArray, List.set_cons_zero, List.set_cons_succ]
  refine held_take (i := 2) (v := .pointer (some ⟨pm, 0, none⟩)) rfl (by kernel_rfl) (by kernel_rfl) (by kernel_rfl) (fun _ _ _ h => h) rfl (fun W1 hW1 => by go_simp) (KpS.refl _ _ _) ?_
  simp only [Act.put, List.setIfInBounds_toArray, List.set_cons_zero, List.set_cons_succ]
  refine held_take (i := 3) (v := .pointer (some ⟨pm, 1, none⟩)) rfl (by kernel_rfl) (by kernel_rfl) (by kernel_rfl) (fun _ _ _ h => h) rfl (fun W1 hW1 => by go_simp) (KpS.refl _ _ _) ?_
  simp only [Act.put, List.setIfInBounds_toArray, List.set_cons_zero, List.set_cons_succ]
  refine held_take (i := 4) (v := .int .i64 y) rfl (by kernel_rfl) (by kernel_rfl) (by kernel_rfl) (fun _ _ _ h => h) rfl (fun W1 hW1 => exec_load _ _ _ _ rfl rfl (run_loadCell W1 _ _ _ (cB W1 hW1) (agg_no _ (by kernel_rfl)))) (KpS.refl _ _ _) ?_
  simp only [Act.put, List.setIfInBounds_toArray, List.set_cons_zero, List.set_cons_succ]
  refine held_take (i := 5) (v := .bool false) rfl (by kernel_rfl) (by kernel_rfl) (by kernel_rfl) (fun _ _ _ h => h) rfl (fun W1 hW1 => by go_simp) (KpS.refl _ _ _) ?_
  simp only [Act.put, List.setIfInBounds_toArray, List.set_cons_zero, List.set_cons_succ]
  refine held_take (i := 6) (v := .bool false) rfl (by kernel_rfl) (by kernel_rfl) (by kernel_rfl) (fun _ _ _ h => h) rfl (fun W1 hW1 => rfl) (KpS.refl _ _ _) ?_
  simp only [Act.put, List.setIfInBounds_toArray, List.set_cons_zero, List.set_cons_succ]
  refine held_takeW (i := 7) (v := .pointer (some ⟨pm, 0, none⟩)) rfl (by kernel_rfl) (by kernel_rfl) (by kernel_rfl) (fun _ _ _ h => h) rfl (fun W1 hW1 => rfl) (KpS.refl _ _ _) ?_
  simp only [Act.put, List.setIfInBounds_toArray, List.set_cons_zero, List.set_cons_succ]
  refine held_takeW (i := 8) (v := .pointer (some ⟨pm, 0, none⟩)) rfl (by kernel_rfl) (by kernel_rfl) (by kernel_rfl) (fun _ _ _ h => h) rfl (fun W1 hW1 => by go_simp) (KpS.refl _ _ _) ?_
  simp only [Act.put, List.setIfInBounds_toArray, List.set_cons_zero, List.set_cons_succ]
  refine held_takeW (i := 9) (v := .pointer (some ⟨pm, 1, none⟩)) rfl (by kernel_rfl) (by kernel_rfl) (by kernel_rfl) (fun _ _ _ h => h) rfl (fun W1 hW1 => by go_simp) (KpS.refl _ _ _) ?_
  simp only [Act.put, List.setIfInBounds_toArray, List.set_cons_zero, List.set_cons_succ]
  refine held_takeW (i := 10) (v := .int .i64 y) rfl (by kernel_rfl) (by kernel_rfl) (by kernel_rfl) (fun _ _ _ h => h) rfl (fun W1 hW1 => exec_load _ _ _ _ rfl rfl (run_loadCell W1 _ _ _ (cB W1 hW1) (agg_no _ (by kernel_rfl)))) (KpS.refl _ _ _) ?_
  simp only [Act.put, List.setIfInBounds_toArray, List.set_cons_zero, List.set_cons_succ]
  refine held_takeW (i := 11) (v := .bool true) rfl (by kernel_rfl) (by kernel_rfl) (by kernel_rfl) (fun _ _ _ h => h) rfl (fun W1 hW1 => by go_simp) (KpS.refl _ _ _) ?_
  simp only [Act.put, List.setIfInBounds_toArray, List.set_cons_zero, List.set_cons_succ]
  refine held_takeW (i := 12) (v := .bool true) rfl (by kernel_rfl) (by kernel_rfl) (by kernel_rfl) (fun _ _ _ h => h) rfl (fun W1 hW1 => rfl) (KpS.refl _ _ _) ?_
  simp only [Act.put, List.setIfInBounds_toArray, List.set_cons_zero, List.set_cons_succ]
  refine held_takeW (i := 13) (v := .pointer none) rfl (by kernel_rfl) (by kernel_rfl) (by kernel_rfl) (fun _ _ _ h => h) rfl (fun W1 hW1 => rfl) (KpS.refl _ _ _) ?_
  simp only [Act.put, List.setIfInBounds_toArray, List.set_cons_zero, List.set_cons_succ]
  refine held_takeW (i := 14) (v := .bool false) rfl (by kernel_rfl) (by kernel_rfl) (by kernel_rfl) (fun _ _ _ h => h) rfl (fun W1 hW1 => by go_simp) (KpS.refl _ _ _) ?_
  simp only [Act.put, List.setIfInBounds_toArray, List.set_cons_zero, List.set_cons_succ]
  refine held_takeW (i := 15) (v := .bool false) rfl (by kernel_rfl) (by kernel_rfl) (by kernel_rfl) (fun _ _ _ h => h) rfl (fun W1 hW1 => by go_simp) (KpS.refl _ _ _) ?_
  simp only [Act.put, List.setIfInBounds_toArray, List.set_cons_zero, List.set_cons_succ]
  refine held_take (i := 16) (v := .bool false) rfl (by kernel_rfl) (by kernel_rfl) (by kernel_rfl) (fun _ _ _ h => h) rfl (fun W1 hW1 => by go_simp) (KpS.refl _ _ _) ?_
  simp only [Act.put, List.setIfInBounds_toArray, List.set_cons_zero, List.set_cons_succ]
  refine held_take (i := 17) (v := .bool false) rfl (by kernel_rfl) (by kernel_rfl) (by kernel_rfl) (fun _ _ _ h => h) rfl (fun W1 hW1 => rfl) (KpS.refl _ _ _) ?_
  simp only [Act.put, List.setIfInBounds_toArray, List.set_cons_zero, List.set_cons_succ]
  refine held_takeW (i := 18) (v := .pointer (some ⟨pm, 0, none⟩)) rfl (by kernel_rfl) (by kernel_rfl) (by kernel_rfl) (fun _ _ _ h => h) rfl (fun W1 hW1 => rfl) (KpS.refl _ _ _) ?_
  simp only [Act.put, List.setIfInBounds_toArray, List.set_cons_zero, List.set_cons_succ]
  refine held_takeW (i := 19) (v := .pointer (some ⟨pm, 0, none⟩)) rfl (by kernel_rfl) (by kernel_rfl) (by kernel_rfl) (fun _ _ _ h => h) rfl (fun W1 hW1 => by go_simp) (KpS.refl _ _ _) ?_
  simp only [Act.put, List.setIfInBounds_toArray, List.set_cons_zero, List.set_cons_succ]
  refine held_takeW (i := 20) (v := .pointer (some ⟨pm, 1, none⟩)) rfl (by kernel_rfl) (by kernel_rfl) (by kernel_rfl) (fun _ _ _ h => h) rfl (fun W1 hW1 => by go_simp) (KpS.refl _ _ _) ?_
  simp only [Act.put, List.setIfInBounds_toArray, List.set_cons_zero, List.set_cons_succ]
  refine held_takeW (i := 21) (v := .int .i64 y) rfl (by kernel_rfl) (by kernel_rfl) (by kernel_rfl) (fun _ _ _ h => h) rfl (fun W1 hW1 => exec_load _ _ _ _ rfl rfl (run_loadCell W1 _ _ _ (cB W1 hW1) (agg_no _ (by kernel_rfl)))) (KpS.refl _ _ _) ?_
  simp only [Act.put, List.setIfInBounds_toArray, List.set_cons_zero, List.set_cons_succ]
  refine held_takeW (i := 22) (v := .bool false) rfl (by kernel_rfl) (by kernel_rfl) (by kernel_rfl) (fun _ _ _ h => h) rfl (fun W1 hW1 => by go_simp) (KpS.refl _ _ _) ?_
  simp only [Act.put, List.setIfInBounds_toArray, List.set_cons_zero, List.set_cons_succ]
  refine held_takeW (i := 23) (v := .bool false) rfl (by kernel_rfl) (by kernel_rfl) (by kernel_rfl) (fun _ _ _ h => h) rfl (fun W1 hW1 => rfl) (KpS.refl _ _ _) ?_
  simp only [Act.put, List.setIfInBounds_toArray, List.set_cons_zero, List.set_cons_succ]
  refine held_skip (i := 24) rfl (by kernel_rfl) (by kernel_rfl) (by kernel_rfl) (fun _ _ _ h => h) rfl (KpS.refl _ _ _) ?_
  simp only [Act.put, List.setIfInBounds_toArray, List.set_cons_zero, List.set_cons_succ]
  refine held_skip (i := 25) rfl (by kernel_rfl) (by kernel_rfl) (by kernel_rfl) (fun _ _ _ h => h) rfl (KpS.refl _ _ _) ?_
  simp only [Act.put, List.setIfInBounds_toArray, List.set_cons_zero, List.set_cons_succ]
  refine held_skip (i := 26) rfl (by kernel_rfl) (by kernel_rfl) (by kernel_rfl) (fun _ _ _ h => h) rfl (KpS.refl _ _ _) ?_
  simp only [Act.put, List.setIfInBounds_toArray, List.set_cons_zero, List.set_cons_succ]
  refine held_skip (i := 27) rfl (by kernel_rfl) (by kernel_rfl) (by kernel_rfl) (fun _ _ _ h => h) rfl (KpS.refl _ _ _) ?_
  simp only [Act.put, List.setIfInBounds_toArray, List.set_cons_zero, List.set_cons_succ]
  refine held_skip (i := 28) rfl (by kernel_rfl) (by kernel_rfl) (by kernel_rfl) (fun _ _ _ h => h) rfl (KpS.refl _ _ _) ?_
  simp only [Act.put, List.setIfInBounds_toArray, List.set_cons_zero, List.set_cons_succ]
  refine held_skip (i := 29) rfl (by kernel_rfl) (by kernel_rfl) (by kernel_rfl) (fun _ _ _ h => h) rfl (KpS.refl _ _ _) ?_
  simp only [Act.put, List.setIfInBounds_toArray, List.set_cons_zero, List.set_cons_succ]
  refine held_skip (i := 30) rfl (by kernel_rfl) (by kernel_rfl) (by kernel_rfl) (fun _ _ _ h => h) rfl (KpS.refl _ _ _) ?_
  simp only [Act.put, List.setIfInBounds_toArray, List.set_cons_zero, List.set_cons_succ]
  refine held_skip (i := 31) rfl (by kernel_rfl) (by kernel_rfl) (by kernel_rfl) (fun _ _ _ h => h) rfl (KpS.refl _ _ _) ?_
  simp only [Act.put, List.setIfInBounds_toArray, List.set_cons_zero, List.set_cons_succ]
  refine held_skip (i := 32) rfl (by kernel_rfl) (by kernel_rfl) (by kernel_rfl) (fun _ _ _ h => h) rfl (KpS.refl _ _ _) ?_
  simp only [Act.put, List.setIfInBounds_toArray, List.set_cons_zero, List.set_cons_succ]
  refine held_skip (i := 33) rfl (by kernel_rfl) (by kernel_rfl) (by kernel_rfl) (fun _ _ _ h => h) rfl (KpS.refl _ _ _) ?_
  simp only [Act.put, List.setIfInBounds_toArray, List.set_cons_zero, List.set_cons_succ]
  refine held_skip (i := 34) rfl (by kernel_rfl) (by kernel_rfl) (by kernel_rfl) (fun _ _ _ h => h) rfl (KpS.refl _ _ _) ?_
  simp only [Act.put, List.setIfInBounds_toArray, List.set_cons_zero, List.set_cons_succ]
  refine held_skip (i := 35) rfl (by kernel_rfl) (by kernel_rfl) (by kernel_rfl) (fun _ _ _ h => h) rfl (KpS.refl _ _ _) ?_
  simp only [Act.put, List.setIfInBounds_toArray, List.set_cons_zero, List.set_cons_succ]
  refine held_skip (i := 36) rfl (by kernel_rfl) (by kernel_rfl) (by kernel_rfl) (fun _ _ _ h => h) rfl (KpS.refl _ _ _) ?_
  simp only [Act.put, List.setIfInBounds_toArray, List.set_cons_zero, List.set_cons_succ]
  refine held_skip (i := 37) rfl (by kernel_rfl) (by kernel_rfl) (by kernel_rfl) (fun _ _ _ h => h) rfl (KpS.refl _ _ _) ?_
  simp only [Act.put, List.setIfInBounds_toArray, List.set_cons_zero, List.set_cons_succ]
  refine held_takeW (i := 38) (v := .bool false) rfl (by kernel_rfl) (by kernel_rfl) (by kernel_rfl) (fun _ _ _ h => h) rfl (fun W1 hW1 => by go_simp) (KpS.refl _ _ _) ?_
  simp only [Act.put, List.setIfInBounds_toArray, List.set_cons_zero, List.set_cons_succ]
  refine held_take (i := 39) (v := .bool false) rfl (by kernel_rfl) (by kernel_rfl) (by kernel_rfl) (fun _ _ _ h => h) rfl (fun W1 hW1 => by go_simp) (KpS.refl _ _ _) ?_
  simp only [Act.put, List.setIfInBounds_toArray, List.set_cons_zero, List.set_cons_succ]
  refine wpAnyH_done (by kernel_rfl) ?_ _
  clear cB
  have K9 := hid (K5.out.drew)
  generalize w5.drew = w9 at K9 ⊢
  go_wp2_with fail
  refine (zNew_any w9).mono ?_
  rintro e wz ⟨rfl, hwz⟩
  have B0 := hid (show BkAt wz [w9.heap.size] w9.heap.size bk0 by rw [hwz]; exact bk_new w9 [])
  have KZ := hid (show Keeps [] w9 wz by rw [hwz]; exact (Keeps.refl [] w9).alloc _)
  clear hwz
  obtain ⟨m, hm⟩ : ∃ m, m = w9.heap.size := ⟨_, rfl⟩
  have KZ2 := hid (K9.out.trans KZ.out)
  have HWM := hid (show w.heap.size ≤ m by rw [hm]; exact K9.out.size)
  rw [← hm] at B0 ⊢
  clear hm KZ K9
  have HMW := hid B0.out.lt
  have RK := hid (rk_newR wz)
  have KA := hid (KZ2.out.alloc (.cells #[.int .i64 0, .slice none 0 0] 41))
  have KB := hid ((Keeps.refl [] wz).alloc (.cells #[.int .i64 0, .slice none 0 0] 41))
  have HSZ := hid (show (wz.alloc (.cells #[.int .i64 0, .slice none 0 0] 41)).heap.size = wz.heap.size + 1 by simp)
  have HI : Hid (BkR w (wz.alloc (.cells #[.int .i64 0, .slice none 0 0] 41)) m wz.heap.size bk0) := hid (by
    have h1 := HMW.out
    have h2 := HSZ.out
    have h3 := HWM.out
    have h5 := KZ2.out.size
    have b1 : BkAt (wz.alloc (.cells #[.int .i64 0, .slice none 0 0] 41)) [wz.heap.size, m] m bk0 := (B0.out.more (N := [wz.heap.size, m]) (fun b hb => by
      simp only [List.mem_cons, List.not_mem_nil, or_false] at hb
      rcases hb with rfl | rfl
      · exact Or.inr (Nat.le_refl _)
      · exact Or.inl (by simp)) (by simp)).later KB.out
    refine ⟨⟨_, [wz.heap.size], b1, RK.out, by simp, ?_, by simp; omega⟩, KA.out⟩
    intro b hb
    simp only [List.mem_cons, List.not_mem_nil, or_false] at hb
    rcases hb with rfl | rfl <;> omega)
  go_wp2_with fail
  clear B0 KA KB RK HMW KZ2
  generalize wz.alloc (.cells #[.int .i64 0, .slice none 0 0] 41) = wy at HI HSZ ⊢
  generalize hp : wz.heap.size = p at HI ⊢
  clear hp HWM HSZ
  go_loopw [12] (fun iv wr => ∃ (k : Nat) (s : Bk), iv = .int .i64 k ∧ k ≤ ds.length ∧ BkR w wr m p s) (fun iv _ => ds.length - (intOf iv).toNat)
  case atStart => exact ⟨0, bk0, rfl, Nat.zero_le _, HI.out⟩
  case round =>
    obtain ⟨k, s, rfl, hk, hb⟩ := hrel
    clear HI
    have HI := hid hb
    have K := hid hb.kept
    clear hb
    by_cases hlt : k < ds.length
    · have hk150 : k < 150 := by have := HL.out; omega
      obtain ⟨x, hx⟩ : ∃ x, x = ds[k] := ⟨_, rfl⟩
      have HX := hid hx
      clear hx
      obtain ⟨g, off, rfl, hg, hr⟩ := (HV.out.keep K.out).at k hlt
      rw [← HX.out] at hr
      have R := hid hr
      clear hg hr
      obtain ⟨M, F, bm, rk, hFM, hM, hmF⟩ := HI.out.ex
      have BM := hid bm
      have RK := hid rk
      have HFM := hid hFM
      have HM := hid hM
      have HMF := hid hmF
      have HG := hid bm.good
      clear bm rk hFM hM hmF
      have A1 := hid (zApply_any BM.out (fun b hb => (HM.out b hb).2) x)
      unfold ApplyPost at A1
      obtain ⟨gl, hgl⟩ : ∃ l, l = goneD s x := ⟨_, rfl⟩
      obtain ⟨mb, hmb⟩ : ∃ l, l = mayD s x := ⟨_, rfl⟩
      have A2' := hid (fun (W : World) (h : RkAt W p F s) => rApply_any h HG.out x)
      unfold RapPost at A2'
      rw [← hgl, ← hmb] at A1 A2'
      clear hgl hmb
      go_wp2_with (first | (refine wpList_isW rfl _ _ (exec_load _ _ _ _ rfl rfl (loadDl_run _ g (off + k * 14) x R.out)) ?_) | fail)
      refine A1.out.mono ?_
      rintro e wb ⟨a2, c2, rfl, -, b2, k2⟩
      have BM2 := hid b2
      have RK2 := hid (RK.out.keep k2 (fun b hb hm => by simp at hm; subst hm; exact HMF.out hb))
      have KB := hid (K.out.trans' k2 (fun i hi hm => by simp at hm; subst hm; have := (HM.out _ BM.out.mem).1; omega))
      have HS2 := hid k2.size
      clear b2 k2 A1
      have R2 := hid (((HV.out.keep KB.out).sameR k hlt).2)
      rw [← HX.out] at R2
      have A2 := hid (A2'.out wb RK2.out)
      clear A2'
      go_wp2_with (first | (refine wpList_isW rfl _ _ (exec_load _ _ _ _ rfl rfl (loadDl_run _ g (off + k * 14) x R2.out)) ?_) | fail)
      refine A2.out.mono ?_
      rintro e wc ⟨a3, c3, rfl, -, F3, r3, k3, f3⟩
      have HIC : Hid (BkR w wc m p (stepD s x)) := hid (by
        have hmm := HM.out m BM.out.mem
        have h2 := HS2.out
        have h3 := k3.size
        have more : ∀ b ∈ F3 ++ M, b ∈ M ∨ wb.heap.size ≤ b := by
          intro b hb
          rcases List.mem_append.1 hb with hb | hb
          · exact (f3 b hb).imp (HFM.out b) id
          · exact Or.inl hb
        refine ⟨⟨F3 ++ M, F3, (BM2.out.more more (by simp [BM.out.mem])).keep k3 HMF.out (fun b hb => by simp [HFM.out b hb]), r3, fun b hb => by simp [hb], ?_, ?_⟩, KB.out.trans' k3 (fun i hi hm => by have := (HM.out _ (HFM.out i hm)).1; omega)⟩
        · intro b hb
          rcases List.mem_append.1 hb with hb | hb
          · refine ⟨?_, r3.lt b hb⟩
            rcases f3 b hb with h | h
            · exact (HM.out b (HFM.out b h)).1
            · omega
          · have := HM.out b hb; omega
        · intro hb
          rcases f3 m hb with h | h
          · exact HMF.out h
          · omega)
      clear r3 k3 f3 A2
      go_wp2_with fail
      go_roundw
      case rel => exact ⟨k + 1, stepD s x, by go_num, by omega, HIC.out⟩
      case measure => simp [intOf]; omega
    · obtain rfl : k = ds.length := by omega
      obtain ⟨M, F, bm, rk, hFM, hM, hmF⟩ := HI.out.ex
      have BM := hid bm
      have RK := hid rk
      have HG := hid bm.good
      clear bm rk hFM hM hmF
      obtain ⟨bs, hbs⟩ : ∃ l, l = bytesB s := ⟨_, rfl⟩
      have RB := hid (show readM (bs, 0) = (.ok s, ([], 0)) by rw [hbs]; exact read_bytes HG.out)
      have LB := hid (show bs.length ≤ 35184372088832 by rw [hbs]; have := bytesB_len s; omega)
      have A1 := lBytes11_any BM.out
      rw [← hbs] at A1
      clear hbs
      go_wp2_with fail
      refine A1.mono ?_
      rintro e wd ⟨a5, c5, rfl, r5, -, k5⟩
      have R5 := hid r5
      have KD := hid (K.out.trans k5)
      have RKD := hid (RK.out.later k5)
      clear r5 k5 A1
      go_wp2_with fail
      refine (newEye_any wd wd.heap.size _ bs R5.out (Nat.le_refl _) LB.out).mono ?_
      rintro e we ⟨q2, ve2, rfl, hq2, he2, k2, _⟩
      have E2e : Hid (EyL we we wd.heap.size q2 ve2 (bs, 0)) := hid ⟨ve2, he2, SameBlk.refl _, fun g hg => off_oldB he2.row hg⟩
      have KE := hid (KD.out.trans k2)
      have RKE := hid (RKD.out.later k2)
      have HQ2 := hid (show w.heap.size ≤ q2 ∧ wd.heap.size ≤ q2 from ⟨Nat.le_trans KD.out.size hq2, hq2⟩)
      have RKL := hid (show ∀ b ∈ F, b < wd.heap.size from RKD.out.lt)
      clear hq2 he2 k2
      go_wp2_with fail
      refine (zRead_any we wd.heap.size q2 ve2 (bs, 0) E2e.out).mono ?_
      rw [RB.out]
      rintro e wf ⟨-, kf, mv, rfl, hmv, bf⟩
      have BF := hid (bf [] (by simp))
      have KF := hid (KE.out.trans' kf (fun i hi hm => by simp at hm; have := HQ2.out; omega))
      have RKF := hid (RKE.out.keep kf (fun b hb hm => by simp at hm; subst hm; have := RKL.out b hb; have := HQ2.out; omega))
      clear kf bf hmv
      go_wp2_with fail
      refine (lLooks_any BF.out (fun b hb => by simp at hb; subst hb; exact BF.out.lt) RKF.out).mono ?_
      rintro e wg ⟨rfl, kg⟩
      have KG := hid (KF.out.trans kg)
      clear kg
      go_wp2_with fail
      go_ret
      exact ⟨rfl, KG.out⟩

set_option maxHeartbeats 25600000 in
theorem readsOk_any (w : World) (bv v : Value) (zs : List Int) (ds : List Dl) (hz : RowAt w bv zs) (hv : DlsAt w v ds) (h1 : ¬ (2000 : Int) < (zs.length : Int)) (h2 : ¬ (100 : Int) < (ds.length : Int)) (s0 : Bk) (r : List Int) (hr : readM (zs, 0) = (.ok s0, (r, 0))) :
    Calls Try.prog 3 #[bv, v] w fun e w' => e = .returned (.bool true) ∧ Keeps [] w w' := by
  have HZ := hid hz
  have HV := hid hv
  obtain ⟨ba, bc, rfl⟩ : ∃ a c, bv = .slice a zs.length c := by obtain ⟨a, c, h, _⟩ := hz; exact ⟨a, c, h⟩
  obtain ⟨a, c, rfl⟩ := hv.shape
  clear hz hv
  have HR := hid hr
  have HL := hid h2
  have HZL := hid (show zs.length ≤ 35184372088832 by omega)
  clear hr
  go_enter Try.func3, Try.ntmps3
  go_wp2_with fail
  refine (bkAwake_any w).mono ?_
  rintro e w1 ⟨rfl, k1⟩
  have K1 := hid k1
  clear k1
  go_wp2_with (first | go_big_skip | fail)
  clear h1 h2
  refine (newEye_any w1 w.heap.size (.slice ba zs.length bc) zs (HZ.out.keep K1.out (by intro _ _ _ _ _; simp)) K1.out.size HZL.out).mono ?_
  rintro e w2 ⟨q, ve, rfl, hq, he, k2, _⟩
  have HQ := hid (show w.heap.size ≤ q from Nat.le_trans K1.out.size hq)
  have HQL := hid he.lt
  have OF := hid (show OffB w2.heap.size ve zs from fun g hg => off_oldB he.row hg)
  have E2 : Hid (EyL w2 w2 w.heap.size q ve (zs, 0)) := hid ⟨ve, he, SameBlk.refl _, OF.out⟩
  have K2 := hid (K1.out.trans k2)
  clear hq he k2
  have ka : Keeps [] w2 (w2.alloc (.cells #[.slice ba zs.length bc, .int .i64 0] 29)) := (Keeps.refl [] w2).alloc _
  have RE3 := hid (reye_newB K2.out HZ.out HZL.out)
  have E3 := hid ((E2.out.more ka).base (w1 := w2.alloc (.cells #[.slice ba zs.length bc, .int .i64 0] 29)) ka.size)
  have HS3 := hid (show w2.heap.size < (w2.alloc (.cells #[.slice ba zs.length bc, .int .i64 0] 29)).heap.size by simp)
  have K3 := hid (K2.out.trans ka)
  clear ka
  go_wp2_with fail
  generalize w2.alloc (.cells #[.slice ba zs.length bc, .int .i64 0] 29) = w3 at RE3 E3 HS3 K3 ⊢
  obtain ⟨pm, hpm⟩ : ∃ n, n = w2.heap.size := ⟨_, rfl⟩
  rw [← hpm] at RE3 HS3 ⊢
  have HPM := hid hpm
  clear hpm
  refine (zRead_any w3 w.heap.size q ve (zs, 0) E3.out).mono ?_
  rw [HR.out]
  rintro e w4 ⟨e4, k4, mx, rfl, hmx, b4⟩
  have K4 := hid (K3.out.trans' k4 (S := []) (fun i hi hm => by simp at hm; have := HQ.out; omega))
  have RE4 := hid (RE3.out.later k4 HQ.out (by have := HQL.out; have := HPM.out; omega))
  have HB4 := hid (show w.heap.size ≤ w4.heap.size from K4.out.size)
  have BX4 := hid (b4 [pm] (fun b hb => by simp at hb; subst hb; exact HS3.out))
  have E4 := hid (e4.rebase OF.out (fun h => by have := readM_ne (st := (zs, 0)) (by rw [HR.out]; exact h); exact this))
  have HMX := hid (show pm < mx by have := HS3.out; omega)
  clear e4 k4 b4 hmx
  go_wp2_with fail
  refine (rReadMap_any w4 w.heap.size pm (zs, 0) RE4.out HB4.out HZ.out.bytes).mono ?_
  rw [HR.out]
  rintro e w5 ⟨my, rfl, hmy, k5, -, e5, F, rk5, hF⟩
  simp only at e5
  have E5 := hid e5
  have EQ5 := hid (E4.out.later k5 (by have := HPM.out; omega) (by have := HQL.out; have := HPM.out; omega))
  have BX5 := hid (BX4.out.keep k5 (by have := HMX.out; simp; omega) (by simp))
  have RK5 := hid rk5
  obtain ⟨v2, he2⟩ := e5
  obtain ⟨ra, rc, rfl⟩ : ∃ a c, v2 = .slice a r.length c := by obtain ⟨a, c, h, _⟩ := he2.row; exact ⟨a, c, h⟩
  have cb := he2.cell1
  have cr := he2.cell0
  simp only at cb cr
  have HP5 := hid (lt_of_block he2.blk)
  have K5 := hid (K4.out.trans' k5 (S := []) (fun i hi hm => by simp at hm; have := HPM.out; have := K2.out.size; omega))
  have HLT5 := hid (show ∀ b ∈ [mx, pm], b < w5.heap.size from fun b hb => by
    have h1 := BX5.out.lt
    have h2 := HP5.out
    simp only [List.mem_cons, List.not_mem_nil, or_false] at hb
    rcases hb with rfl | rfl <;> omega)
  clear hmy k5 he2 rk5 hF
  have hrr : ((r.length : Int) != (r.length : Int)) = false := by simp
  go_wp2_with fail
  refine wp_region_any (by kernel_rfl) (wpAny_of_held (S := KpS [] w5.heap.size w5.drew) _ _ _ _ ?_)
  change wpAnyH _ _ _ _ _ _ _ _ w5.drew
  have cB : ∀ W1, KpS [] w5.heap.size w5.drew W1 → W1.cell? ⟨pm, 1, none⟩ = some (.int .i64 0) := fun W1 h => h.cell (by rw [World.cell?_drew]; exact cb) HP5.out (by simp)
  have cR : ∀ W1, KpS [] w5.heap.size w5.drew W1 → W1.cell? ⟨pm, 0, none⟩ = some (.slice ra r.length rc) := fun W1 h => h.cell (by rw [World.cell?_drew]; exact cr) HP5.out (by simp)
  clear cb cr
  have s0' : KpS [] w5.heap.size w5.drew w5.drew := KpS.refl _ _ _
  refine held_take (i := 0) (v := .int .i64 0) rfl (by kernel_rfl) (by kernel_rfl) (by kernel_rfl) (fun _ _ _ h => h) rfl (fun W1 hW1 => rfl) (KpS.refl _ _ _) ?_
  simp only [Act.put, List.setIfInBounds_toArray, List.set_cons_zero, List.set_cons_succ]
  refine held_take (i := 1) (v := .pointer (some ⟨pm, 0, none⟩)) rfl (by kernel_rfl) (by kernel_rfl) (by kernel_rfl) (fun _ _ _ h => h) rfl (fun W1 hW1 => rfl) (KpS.refl _ _ _) ?_
  simp only [Act.put, List.setIfInBounds_toArray, List.set_cons_zero, List.set_cons_succ]
  refine held_take (i := 2) (v := .pointer (some ⟨pm, 0, none⟩)) rfl (by kernel_rfl) (by kernel_rfl) (by kernel_rfl) (fun _ _ _ h => h) rfl (fun W1 hW1 => by go_simp) (KpS.refl _ _ _) ?_
  simp only [Act.put, List.setIfInBounds_toArray, List.set_cons_zero, List.set_cons_succ]
  refine held_take (i := 3) (v := .pointer (some ⟨pm, 1, none⟩)) rfl (by kernel_rfl) (by kernel_rfl) (by kernel_rfl) (fun _ _ _ h => h) rfl (fun W1 hW1 => by go_simp) (KpS.refl _ _ _) ?_
  simp only [Act.put, List.setIfInBounds_toArray, List.set_cons_zero, List.set_cons_succ]
  refine held_take (i := 4) (v := .int .i64 0) rfl (by kernel_rfl) (by kernel_rfl) (by kernel_rfl) (fun _ _ _ h => h) rfl (fun W1 hW1 => exec_load _ _ _ _ rfl rfl (run_loadCell W1 _ _ _ (cB W1 hW1) (agg_no _ (by kernel_rfl)))) (KpS.refl _ _ _) ?_
  simp only [Act.put, List.setIfInBounds_toArray, List.set_cons_zero, List.set_cons_succ]
  refine held_take (i := 5) (v := .bool false) rfl (by kernel_rfl) (by kernel_rfl) (by kernel_rfl) (fun _ _ _ h => h) rfl (fun W1 hW1 => by go_simp) (KpS.refl _ _ _) ?_
  simp only [Act.put, List.setIfInBounds_toArray, List.set_cons_zero, List.set_cons_succ]
  refine held_take (i := 6) (v := .bool false) rfl (by kernel_rfl) (by kernel_rfl) (by kernel_rfl) (fun _ _ _ h => h) rfl (fun W1 hW1 => rfl) (KpS.refl _ _ _) ?_
  simp only [Act.put, List.setIfInBounds_toArray, List.set_cons_zero, List.set_cons_succ]
  refine held_takeW (i := 7) (v := .pointer (some ⟨pm, 0, none⟩)) rfl (by kernel_rfl) (by kernel_rfl) (by kernel_rfl) (fun _ _ _ h => h) rfl (fun W1 hW1 => rfl) (KpS.refl _ _ _) ?_
  simp only [Act.put, List.setIfInBounds_toArray, List.set_cons_zero, List.set_cons_succ]
  refine held_takeW (i := 8) (v := .pointer (some ⟨pm, 0, none⟩)) rfl (by kernel_rfl) (by kernel_rfl) (by kernel_rfl) (fun _ _ _ h => h) rfl (fun W1 hW1 => by go_simp) (KpS.refl _ _ _) ?_
  simp only [Act.put, List.setIfInBounds_toArray, List.set_cons_zero, List.set_cons_succ]
  refine held_takeW (i := 9) (v := .pointer (some ⟨pm, 1, none⟩)) rfl (by kernel_rfl) (by kernel_rfl) (by kernel_rfl) (fun _ _ _ h => h) rfl (fun W1 hW1 => by go_simp) (KpS.refl _ _ _) ?_
  simp only [Act.put, List.setIfInBounds_toArray, List.set_cons_zero, List.set_cons_succ]
  refine held_takeW (i := 10) (v := .int .i64 0) rfl (by kernel_rfl) (by kernel_rfl) (by kernel_rfl) (fun _ _ _ h => h) rfl (fun W1 hW1 => exec_load _ _ _ _ rfl rfl (run_loadCell W1 _ _ _ (cB W1 hW1) (agg_no _ (by kernel_rfl)))) (KpS.refl _ _ _) ?_
  simp only [Act.put, List.setIfInBounds_toArray, List.set_cons_zero, List.set_cons_succ]
  refine held_takeW (i := 11) (v := .bool false) rfl (by kernel_rfl) (by kernel_rfl) (by kernel_rfl) (fun _ _ _ h => h) rfl (fun W1 hW1 => by go_simp) (KpS.refl _ _ _) ?_
  simp only [Act.put, List.setIfInBounds_toArray, List.set_cons_zero, List.set_cons_succ]
  refine held_takeW (i := 12) (v := .bool false) rfl (by kernel_rfl) (by kernel_rfl) (by kernel_rfl) (fun _ _ _ h => h) rfl (fun W1 hW1 => rfl) (KpS.refl _ _ _) ?_
  simp only [Act.put, List.setIfInBounds_toArray, List.set_cons_zero, List.set_cons_succ]
  refine held_skip (i := 13) rfl (by kernel_rfl) (by kernel_rfl) (by kernel_rfl) (fun _ _ _ h => h) rfl (KpS.refl _ _ _) ?_
  simp only [Act.put, List.setIfInBounds_toArray, List.set_cons_zero, List.set_cons_succ]
  refine held_skip (i := 14) rfl (by kernel_rfl) (by kernel_rfl) (by kernel_rfl) (fun _ _ _ h => h) rfl (KpS.refl _ _ _) ?_
  simp only [Act.put, List.setIfInBounds_toArray, List.set_cons_zero, List.set_cons_succ]
  refine held_takeW (i := 15) (v := .bool false) rfl (by kernel_rfl) (by kernel_rfl) (by kernel_rfl) (fun _ _ _ h => h) rfl (fun W1 hW1 => by go_simp) (KpS.refl _ _ _) ?_
  simp only [Act.put, List.setIfInBounds_toArray, List.set_cons_zero, List.set_cons_succ]
  refine held_take (i := 16) (v := .bool false) rfl (by kernel_rfl) (by kernel_rfl) (by kernel_rfl) (fun _ _ _ h => h) rfl (fun W1 hW1 => by go_simp) (KpS.refl _ _ _) ?_
  simp only [Act.put, List.setIfInBounds_toArray, List.set_cons_zero, List.set_cons_succ]
  refine held_take (i := 17) (v := .bool false) rfl (by kernel_rfl) (by kernel_rfl) (by kernel_rfl) (fun _ _ _ h => h) rfl (fun W1 hW1 => rfl) (KpS.refl _ _ _) ?_
  simp only [Act.put, List.setIfInBounds_toArray, List.set_cons_zero, List.set_cons_succ]
  refine held_takeW (i := 18) (v := .pointer (some ⟨pm, 0, none⟩)) rfl (by kernel_rfl) (by kernel_rfl) (by kernel_rfl) (fun _ _ _ h => h) rfl (fun W1 hW1 => rfl) (KpS.refl _ _ _) ?_
  simp only [Act.put, List.setIfInBounds_toArray, List.set_cons_zero, List.set_cons_succ]
  refine held_takeW (i := 19) (v := .pointer (some ⟨pm, 0, none⟩)) rfl (by kernel_rfl) (by kernel_rfl) (by kernel_rfl) (fun _ _ _ h => h) rfl (fun W1 hW1 => by go_simp) (KpS.refl _ _ _) ?_
  simp only [Act.put, List.setIfInBounds_toArray, List.set_cons_zero, List.set_cons_succ]
  refine held_takeW (i := 20) (v := .pointer (some ⟨pm, 1, none⟩)) rfl (by kernel_rfl) (by kernel_rfl) (by kernel_rfl) (fun _ _ _ h => h) rfl (fun W1 hW1 => by go_simp) (KpS.refl _ _ _) ?_
  simp only [Act.put, List.setIfInBounds_toArray, List.set_cons_zero, List.set_cons_succ]
  refine held_takeW (i := 21) (v := .int .i64 0) rfl (by kernel_rfl) (by kernel_rfl) (by kernel_rfl) (fun _ _ _ h => h) rfl (fun W1 hW1 => exec_load _ _ _ _ rfl rfl (run_loadCell W1 _ _ _ (cB W1 hW1) (agg_no _ (by kernel_rfl)))) (KpS.refl _ _ _) ?_
  simp only [Act.put, List.setIfInBounds_toArray, List.set_cons_zero, List.set_cons_succ]
  refine held_takeW (i := 22) (v := .bool true) rfl (by kernel_rfl) (by kernel_rfl) (by kernel_rfl) (fun _ _ _ h => h) rfl (fun W1 hW1 => by go_simp) (KpS.refl _ _ _) ?_
  simp only [Act.put, List.setIfInBounds_toArray, List.set_cons_zero, List.set_cons_succ]
  refine held_takeW (i := 23) (v := .bool true) rfl (by kernel_rfl) (by kernel_rfl) (by kernel_rfl) (fun _ _ _ h => h) rfl (fun W1 hW1 => rfl) (KpS.refl _ _ _) ?_
  simp only [Act.put, List.setIfInBounds_toArray, List.set_cons_zero, List.set_cons_succ]
  refine held_takeW (i := 24) (v := .pointer (some ⟨mx, 0, none⟩)) rfl (by kernel_rfl) (by kernel_rfl) (by kernel_rfl) (fun _ _ _ h => h) rfl (fun W1 hW1 => rfl) (KpS.refl _ _ _) ?_
  simp only [Act.put, List.setIfInBounds_toArray, List.set_cons_zero, List.set_cons_succ]
  refine held_takeW (i := 25) (v := .pointer (some ⟨my, 0, none⟩)) rfl (by kernel_rfl) (by kernel_rfl) (by kernel_rfl) (fun _ _ _ h => h) rfl (fun W1 hW1 => rfl) (KpS.refl _ _ _) ?_
  simp only [Act.put, List.setIfInBounds_toArray, List.set_cons_zero, List.set_cons_succ]
  refine held_doW (i := 26) (by kernel_rfl) rfl rfl (wp_enter (f := 12) (args := #[.pointer (some ⟨mx, 0, none⟩), .pointer (some ⟨my, 0, none⟩)]) (by go_simp) (lLooks_any (BX5.out.later ((Keeps.refl [] w5).drew)) (fun b hb => HLT5.out b hb) (RK5.out.later ((Keeps.refl [] w5).drew))) ?_)
  rintro e w6 ⟨rfl, k6⟩
  have s6 : KpS [] w5.heap.size w5.drew w6 := s0'.keeps k6 s0'.size (by simp)
  have K56 := hid (((Keeps.refl [] w5).drew).trans k6)
  clear k6
  refine ⟨_, rfl, s6, ?_⟩
  simp only [Act.put, List.setIfInBounds_toArray, List.set_cons_zero, List.set_cons_succ]
  refine held_takeW (i := 27) (v := .bool false) rfl (by kernel_rfl) (by kernel_rfl) (by kernel_rfl) (fun _ _ _ h => h) rfl (fun W1 hW1 => by go_simp) (s6) ?_
  simp only [Act.put, List.setIfInBounds_toArray, List.set_cons_zero, List.set_cons_succ]
  refine held_takeW (i := 28) (v := .bool false) rfl (by kernel_rfl) (by kernel_rfl) (by kernel_rfl) (fun _ _ _ h => h) rfl (fun W1 hW1 => rfl) (s6) ?_
  simp only [Act.put, List.setIfInBounds_toArray, List.set_cons_zero, List.set_cons_succ]
  refine held_takeW (i := 29) (v := .pointer (some ⟨q, 0, none⟩)) rfl (by kernel_rfl) (by kernel_rfl) (by kernel_rfl) (fun _ _ _ h => h) rfl (fun W1 hW1 => rfl) (s6) ?_
  simp only [Act.put, List.setIfInBounds_toArray, List.set_cons_zero, List.set_cons_succ]
  refine held_takeW (i := 31) (v := .pointer (some ⟨pm, 0, none⟩)) rfl (by kernel_rfl) (by kernel_rfl) (by kernel_rfl) (fun _ _ _ h => h) rfl (fun W1 hW1 => rfl) (s6) ?_
  simp only [Act.put, List.setIfInBounds_toArray, List.set_cons_zero, List.set_cons_succ]
  refine held_takeW (i := 32) (v := .pointer (some ⟨pm, 0, none⟩)) rfl (by kernel_rfl) (by kernel_rfl) (by kernel_rfl) (fun _ _ _ h => h) rfl (fun W1 hW1 => by go_simp) (s6) ?_
  simp only [Act.put, List.setIfInBounds_toArray, List.set_cons_zero, List.set_cons_succ]
  refine held_takeW (i := 33) (v := .pointer (some ⟨pm, 0, none⟩)) rfl (by kernel_rfl) (by kernel_rfl) (by kernel_rfl) (fun _ _ _ h => h) rfl (fun W1 hW1 => by go_simp) (s6) ?_
  simp only [Act.put, List.setIfInBounds_toArray, List.set_cons_zero, List.set_cons_succ]
  refine held_takeW (i := 34) (v := .slice ra r.length rc) rfl (by kernel_rfl) (by kernel_rfl) (by kernel_rfl) (fun _ _ _ h => h) rfl (fun W1 hW1 => exec_load _ _ _ _ rfl rfl (run_loadCell W1 _ _ _ (cR W1 hW1) (agg_no _ (by kernel_rfl)))) (s6) ?_
  simp only [Act.put, List.setIfInBounds_toArray, List.set_cons_zero, List.set_cons_succ]
  refine held_takeW (i := 35) (v := .int .i64 (r.length : Int)) rfl (by kernel_rfl) (by kernel_rfl) (by kernel_rfl) (fun _ _ _ h => h) rfl (fun W1 hW1 => by go_simp) (s6) ?_
  simp only [Act.put, List.setIfInBounds_toArray, List.set_cons_zero, List.set_cons_succ]
  refine held_doW (i := 30) (by kernel_rfl) rfl rfl (wp_enter (f := 13) (args := #[.pointer (some ⟨q, 0, none⟩)]) (by go_simp) ((EQ5.out.more K56.out).left) ?_)
  rintro e w7 ⟨rfl, hw7⟩
  rw [← hw7]
  clear hw7
  refine ⟨_, rfl, s6, ?_⟩
  simp only [Act.put, List.setIfInBounds_toArray, List.set_cons_zero, List.set_cons_succ]
  refine held_takeW (i := 36) (v := .bool false) rfl (by kernel_rfl) (by kernel_rfl) (by kernel_rfl) (fun _ _ _ h => h) rfl (fun W1 hW1 => by go_simp) (s6) ?_
  simp only [Act.put, List.setIfInBounds_toArray, List.set_cons_zero, List.set_cons_succ]
  refine held_takeW (i := 37) (v := .bool false) rfl (by kernel_rfl) (by kernel_rfl) (by kernel_rfl) (fun _ _ _ h => h) rfl (fun W1 hW1 => by go_simp) (s6) ?_
  simp only [Act.put, List.setIfInBounds_toArray, List.set_cons_zero, List.set_cons_succ]
  refine held_takeW (i := 38) (v := .bool false) rfl (by kernel_rfl) (by kernel_rfl) (by kernel_rfl) (fun _ _ _ h => h) rfl (fun W1 hW1 => by go_simp) (s6) ?_
  simp only [Act.put, List.setIfInBounds_toArray, List.set_cons_zero, List.set_cons_succ]
  refine held_take (i := 39) (v := .bool false) rfl (by kernel_rfl) (by kernel_rfl) (by kernel_rfl) (fun _ _ _ h => h) rfl (fun W1 hW1 => by go_simp) (s6) ?_
  simp only [Act.put, List.setIfInBounds_toArray, List.set_cons_zero, List.set_cons_succ]
  refine wpAnyH_done (by kernel_rfl) ?_ _
  clear cB cR s0' s6
  have K9 := hid (K5.out.trans K56.out)
  generalize w6 = w9 at K9 ⊢
  go_wp2_with fail
  refine (zNew_any w9).mono ?_
  rintro e wz ⟨rfl, hwz⟩
  have B0 := hid (show BkAt wz [w9.heap.size] w9.heap.size bk0 by rw [hwz]; exact bk_new w9 [])
  have KZ := hid (show Keeps [] w9 wz by rw [hwz]; exact (Keeps.refl [] w9).alloc _)
  clear hwz
  obtain ⟨m, hm⟩ : ∃ m, m = w9.heap.size := ⟨_, rfl⟩
  have KZ2 := hid (K9.out.trans KZ.out)
  have HWM := hid (show w.heap.size ≤ m by rw [hm]; exact K9.out.size)
  rw [← hm] at B0 ⊢
  clear hm KZ K9
  have HMW := hid B0.out.lt
  have RK := hid (rk_newR wz)
  have KA := hid (KZ2.out.alloc (.cells #[.int .i64 0, .slice none 0 0] 41))
  have KB := hid ((Keeps.refl [] wz).alloc (.cells #[.int .i64 0, .slice none 0 0] 41))
  have HSZ := hid (show (wz.alloc (.cells #[.int .i64 0, .slice none 0 0] 41)).heap.size = wz.heap.size + 1 by simp)
  have HI : Hid (BkR w (wz.alloc (.cells #[.int .i64 0, .slice none 0 0] 41)) m wz.heap.size bk0) := hid (by
    have h1 := HMW.out
    have h2 := HSZ.out
    have h3 := HWM.out
    have h5 := KZ2.out.size
    have b1 : BkAt (wz.alloc (.cells #[.int .i64 0, .slice none 0 0] 41)) [wz.heap.size, m] m bk0 := (B0.out.more (N := [wz.heap.size, m]) (fun b hb => by
      simp only [List.mem_cons, List.not_mem_nil, or_false] at hb
      rcases hb with rfl | rfl
      · exact Or.inr (Nat.le_refl _)
      · exact Or.inl (by simp)) (by simp)).later KB.out
    refine ⟨⟨_, [wz.heap.size], b1, RK.out, by simp, ?_, by simp; omega⟩, KA.out⟩
    intro b hb
    simp only [List.mem_cons, List.not_mem_nil, or_false] at hb
    rcases hb with rfl | rfl <;> omega)
  go_wp2_with fail
  clear B0 KA KB RK HMW KZ2
  generalize wz.alloc (.cells #[.int .i64 0, .slice none 0 0] 41) = wy at HI HSZ ⊢
  generalize hp : wz.heap.size = p at HI ⊢
  clear hp HWM HSZ
  go_loopw [12] (fun iv wr => ∃ (k : Nat) (s : Bk), iv = .int .i64 k ∧ k ≤ ds.length ∧ BkR w wr m p s) (fun iv _ => ds.length - (intOf iv).toNat)
  case atStart => exact ⟨0, bk0, rfl, Nat.zero_le _, HI.out⟩
  case round =>
    obtain ⟨k, s, rfl, hk, hb⟩ := hrel
    clear HI
    have HI := hid hb
    have K := hid hb.kept
    clear hb
    by_cases hlt : k < ds.length
    · have hk150 : k < 150 := by have := HL.out; omega
      obtain ⟨x, hx⟩ : ∃ x, x = ds[k] := ⟨_, rfl⟩
      have HX := hid hx
      clear hx
      obtain ⟨g, off, rfl, hg, hr⟩ := (HV.out.keep K.out).at k hlt
      rw [← HX.out] at hr
      have R := hid hr
      clear hg hr
      obtain ⟨M, F, bm, rk, hFM, hM, hmF⟩ := HI.out.ex
      have BM := hid bm
      have RK := hid rk
      have HFM := hid hFM
      have HM := hid hM
      have HMF := hid hmF
      have HG := hid bm.good
      clear bm rk hFM hM hmF
      have A1 := hid (zApply_any BM.out (fun b hb => (HM.out b hb).2) x)
      unfold ApplyPost at A1
      obtain ⟨gl, hgl⟩ : ∃ l, l = goneD s x := ⟨_, rfl⟩
      obtain ⟨mb, hmb⟩ : ∃ l, l = mayD s x := ⟨_, rfl⟩
      have A2' := hid (fun (W : World) (h : RkAt W p F s) => rApply_any h HG.out x)
      unfold RapPost at A2'
      rw [← hgl, ← hmb] at A1 A2'
      clear hgl hmb
      go_wp2_with (first | (refine wpList_isW rfl _ _ (exec_load _ _ _ _ rfl rfl (loadDl_run _ g (off + k * 14) x R.out)) ?_) | fail)
      refine A1.out.mono ?_
      rintro e wb ⟨a2, c2, rfl, -, b2, k2⟩
      have BM2 := hid b2
      have RK2 := hid (RK.out.keep k2 (fun b hb hm => by simp at hm; subst hm; exact HMF.out hb))
      have KB := hid (K.out.trans' k2 (fun i hi hm => by simp at hm; subst hm; have := (HM.out _ BM.out.mem).1; omega))
      have HS2 := hid k2.size
      clear b2 k2 A1
      have R2 := hid (((HV.out.keep KB.out).sameR k hlt).2)
      rw [← HX.out] at R2
      have A2 := hid (A2'.out wb RK2.out)
      clear A2'
      go_wp2_with (first | (refine wpList_isW rfl _ _ (exec_load _ _ _ _ rfl rfl (loadDl_run _ g (off + k * 14) x R2.out)) ?_) | fail)
      refine A2.out.mono ?_
      rintro e wc ⟨a3, c3, rfl, -, F3, r3, k3, f3⟩
      have HIC : Hid (BkR w wc m p (stepD s x)) := hid (by
        have hmm := HM.out m BM.out.mem
        have h2 := HS2.out
        have h3 := k3.size
        have more : ∀ b ∈ F3 ++ M, b ∈ M ∨ wb.heap.size ≤ b := by
          intro b hb
          rcases List.mem_append.1 hb with hb | hb
          · exact (f3 b hb).imp (HFM.out b) id
          · exact Or.inl hb
        refine ⟨⟨F3 ++ M, F3, (BM2.out.more more (by simp [BM.out.mem])).keep k3 HMF.out (fun b hb => by simp [HFM.out b hb]), r3, fun b hb => by simp [hb], ?_, ?_⟩, KB.out.trans' k3 (fun i hi hm => by have := (HM.out _ (HFM.out i hm)).1; omega)⟩
        · intro b hb
          rcases List.mem_append.1 hb with hb | hb
          · refine ⟨?_, r3.lt b hb⟩
            rcases f3 b hb with h | h
            · exact (HM.out b (HFM.out b h)).1
            · omega
          · have := HM.out b hb; omega
        · intro hb
          rcases f3 m hb with h | h
          · exact HMF.out h
          · omega)
      clear r3 k3 f3 A2
      go_wp2_with fail
      go_roundw
      case rel => exact ⟨k + 1, stepD s x, by go_num, by omega, HIC.out⟩
      case measure => simp [intOf]; omega
    · obtain rfl : k = ds.length := by omega
      obtain ⟨M, F, bm, rk, hFM, hM, hmF⟩ := HI.out.ex
      have BM := hid bm
      have RK := hid rk
      have HG := hid bm.good
      clear bm rk hFM hM hmF
      obtain ⟨bs, hbs⟩ : ∃ l, l = bytesB s := ⟨_, rfl⟩
      have RB := hid (show readM (bs, 0) = (.ok s, ([], 0)) by rw [hbs]; exact read_bytes HG.out)
      have LB := hid (show bs.length ≤ 35184372088832 by rw [hbs]; have := bytesB_len s; omega)
      have A1 := lBytes11_any BM.out
      rw [← hbs] at A1
      clear hbs
      go_wp2_with fail
      refine A1.mono ?_
      rintro e wd ⟨a5, c5, rfl, r5, -, k5⟩
      have R5 := hid r5
      have KD := hid (K.out.trans k5)
      have RKD := hid (RK.out.later k5)
      clear r5 k5 A1
      go_wp2_with fail
      refine (newEye_any wd wd.heap.size _ bs R5.out (Nat.le_refl _) LB.out).mono ?_
      rintro e we ⟨q2, ve2, rfl, hq2, he2, k2, _⟩
      have E2e : Hid (EyL we we wd.heap.size q2 ve2 (bs, 0)) := hid ⟨ve2, he2, SameBlk.refl _, fun g hg => off_oldB he2.row hg⟩
      have KE := hid (KD.out.trans k2)
      have RKE := hid (RKD.out.later k2)
      have HQ2 := hid (show w.heap.size ≤ q2 ∧ wd.heap.size ≤ q2 from ⟨Nat.le_trans KD.out.size hq2, hq2⟩)
      have RKL := hid (show ∀ b ∈ F, b < wd.heap.size from RKD.out.lt)
      clear hq2 he2 k2
      go_wp2_with fail
      refine (zRead_any we wd.heap.size q2 ve2 (bs, 0) E2e.out).mono ?_
      rw [RB.out]
      rintro e wf ⟨-, kf, mv, rfl, hmv, bf⟩
      have BF := hid (bf [] (by simp))
      have KF := hid (KE.out.trans' kf (fun i hi hm => by simp at hm; have := HQ2.out; omega))
      have RKF := hid (RKE.out.keep kf (fun b hb hm => by simp at hm; subst hm; have := RKL.out b hb; have := HQ2.out; omega))
      clear kf bf hmv
      go_wp2_with fail
      refine (lLooks_any BF.out (fun b hb => by simp at hb; subst hb; exact BF.out.lt) RKF.out).mono ?_
      rintro e wg ⟨rfl, kg⟩
      have KG := hid (KF.out.trans kg)
      clear kg
      go_wp2_with fail
      go_ret
      exact ⟨rfl, KG.out⟩

theorem readM_zero {st : PSt} {s : Bk} {st2 : PSt} (h : readM st = (.ok s, st2)) : st2.2 = 0 := by
  have rd : ∀ (t : PSt), t.2 = 0 → ∀ k l t2, rdI t k = (.ok l, t2) → t2.2 = 0 := by
    intro t ht k
    induction k with
    | zero => intro l t2 h; unfold rdI at h; injection h with _ h; subst h; exact ht
    | succ k ih =>
      intro l t2 h
      have h' : rdS (rdI t k) = (.ok l, t2) := h
      obtain ⟨o, s, hq⟩ : ∃ o s, rdI t k = (o, s) := ⟨_, _, rfl⟩
      rw [hq] at h'
      cases o with
      | error y => unfold rdS at h'; simp only at h'; injection h' with h1 _; cases h1
      | ok l0 =>
        by_cases hz : (getP s).2.2 = 0
        · cases hm : mayP (getP s).1 with
          | false => rw [rdS_form hz hm] at h'; injection h' with h1 _; cases h1
          | true => rw [rdS_good hz hm] at h'; injection h' with _ h2; rw [← h2]; exact hz
        · rw [rdS_fail hz] at h'; injection h' with h1 _; cases h1
  unfold readM at h
  split at h
  · injection h with h1 _; cases h1
  · rename_i hz
    have hz : (numE 2 st).2.2 = 0 := by
      by_cases h0 : (numE 2 st).2.2 = 0
      · exact h0
      · exact absurd h0 hz
    split at h
    · obtain ⟨o, t2, hq⟩ : ∃ o t2, rdI (numE 2 st).2 (cnt (numE 2 st).1) = (o, t2) := ⟨_, _, rfl⟩
      rw [hq] at h
      cases o with
      | error y => injection h with h1 _; cases h1
      | ok l => injection h with _ h2; rw [← h2]; exact rd _ hz _ _ _ hq
    · injection h with h1 _; cases h1
theorem readM_bad {st : PSt} {y : Int} {st2 : PSt} (h : readM st = (.error y, st2)) : y ≠ 0 := by
  have rd : ∀ (t : PSt) k y, (rdI t k).1 = .error y → y ≠ 0 := by
    intro t k
    induction k with
    | zero => intro y h; cases h
    | succ k ih =>
      intro y h
      have h' : (rdS (rdI t k)).1 = .error y := h
      obtain ⟨o, s, hq⟩ : ∃ o s, rdI t k = (o, s) := ⟨_, _, rfl⟩
      rw [hq] at h' ih
      cases o with
      | error z => unfold rdS at h'; simp only at h'; exact ih y h'
      | ok l0 =>
        by_cases hz : (getP s).2.2 = 0
        · cases hm : mayP (getP s).1 with
          | false => rw [rdS_form hz hm] at h'; injection h' with h1; rw [← h1]; decide
          | true => rw [rdS_good hz hm] at h'; cases h'
        · rw [rdS_fail hz] at h'; injection h' with h1; rw [← h1]; exact hz
  unfold readM at h
  split at h
  · rename_i hz; injection h with h1 _; injection h1 with h1; rw [← h1]; exact hz
  · split at h
    · obtain ⟨o, t2, hq⟩ : ∃ o t2, rdI (numE 2 st).2 (cnt (numE 2 st).1) = (o, t2) := ⟨_, _, rfl⟩
      rw [hq] at h
      cases o with
      | error z => injection h with h1 _; injection h1 with h1; rw [← h1]; exact rd _ _ _ (by rw [hq])
      | ok l => injection h with h1 _; cases h1
    · injection h with h1 _; injection h1 with h1; rw [← h1]; decide
theorem m11Reads_any (w : World) (bv v : Value) (zs : List Int) (ds : List Dl) (hz : RowAt w bv zs) (hv : DlsAt w v ds) : Calls Try.prog 3 #[bv, v] w fun e w' => e = .returned (.bool true) ∧ Keeps [] w w' := by
  by_cases h1 : (2000 : Int) < (zs.length : Int)
  · exact readsBig1_any w bv v zs ds hz hv h1
  · by_cases h2 : (100 : Int) < (ds.length : Int)
    · exact readsBig2_any w bv v zs ds hz hv h1 h2
    · obtain ⟨o, st2, hr⟩ : ∃ o s, readM (zs, 0) = (o, s) := ⟨_, _, rfl⟩
      cases o with
      | error y => exact readsErr_any w bv v zs ds hz hv h1 h2 y st2 hr (readM_bad hr)
      | ok s0 =>
        obtain ⟨r, b⟩ := st2
        have hb : b = 0 := readM_zero hr
        subst hb
        exact readsOk_any w bv v zs ds hz hv h1 h2 s0 r hr
end Go.Proofs.Ytamcllcjondcpaa
