/- bag: the walks of the reference's Same, and of the laws' model. -/
import Derived.Test.YtehbibimfjipiaaBgO
import Derived.Deep.QuietTactic
import Derived.BigQuiet
namespace Go.Proofs.Ytehbibimfjipiaa
open Go.RowKit Go.Shelf
set_option maxRecDepth 100000

theorem con_at {xs ys : List Mg} (h : xs.map con = ys.map con) (k : Nat) (hx : k < xs.length) (hy : k < ys.length) : con xs[k] = con ys[k] := by
  have := congrArg (fun l => l[k]?) h
  simp only [List.getElem?_map, List.getElem?_eq_getElem hx, List.getElem?_eq_getElem hy, Option.map_some] at this
  exact Option.some.inj this
theorem con_len {xs ys : List Mg} (h : xs.map con = ys.map con) : xs.length = ys.length := by simpa using congrArg List.length h

set_option maxHeartbeats 3200000 in
theorem rbSame_any (w : World) (X Y : List Nat) (u v : Value) (xs ys : List Mg) (hx : MsgsAt w X u xs) (hy : MsgsAt w Y v ys) (hl : xs.length ≤ 1000) (hc : xs.map con = ys.map con) :
    Calls Try.prog 17 #[u, v] w fun e w' => e = .returned (.bool true) ∧ ∃ n, w' = w.drewN n := by
  obtain ⟨a, c, rfl, -⟩ := id hx
  obtain ⟨b, d, rfl, -⟩ := id hy
  have HX := hid hx
  have HY := hid hy
  have HC := hid hc
  have HL := hid (con_len hc)
  rw [← HL.out] at HY ⊢
  clear hx hy hc
  go_enter Try.func17, Try.ntmps17
  go_wp2_with fail
  go_loopw [5] (fun iv wr => ∃ k n : Nat, k ≤ xs.length ∧ iv = .int .i64 k ∧ wr = w.drewN n) (fun iv _ => xs.length - (intOf iv).toNat)
  case atStart => exact ⟨0, 0, by omega, rfl, rfl⟩
  case round =>
    obtain ⟨k, n, hk, rfl, rfl⟩ := hrel
    by_cases hlt : k < xs.length
    · have hlt2 : k < ys.length := by have := HL.out; omega
      have kk := (Keeps.refl [] w).drewN n
      obtain ⟨g1, o1, ha, -, -, d0, d1, d2⟩ := (HX.out.keep kk).at k hlt
      obtain ⟨g2, o2, hb, -, -, e0, e1, e2⟩ := (HY.out.keep kk).at k hlt2
      subst ha; subst hb
      have hcc := con_at HC.out k hlt hlt2
      simp only [con, Prod.mk.injEq] at hcc
      obtain ⟨q1, q2, q3⟩ := hcc
      rw [← q1] at e0
      rw [← q2] at e1
      have okx := HX.out.ok xs[k] (List.getElem_mem _)
      have oky := HY.out.ok ys[k] (List.getElem_mem _)
      obtain ⟨ra, rc, hr1, -⟩ := okx.row
      obtain ⟨rb, rd, hr2, -⟩ := oky.row
      rw [hr1] at d2
      rw [hr2] at e2
      have SM : Hid (∀ m, Calls Try.prog 14 #[.slice ra xs[k].bs.length rc, .slice rb ys[k].bs.length rd] ((w.drewN n).drewN m) fun e w'' => e = .returned (.bool true) ∧ ∃ m', w'' = (w.drewN n).drewN m') := hid fun m => by
        have r1 := okx.row
        have r2 := oky.row
        rw [hr1] at r1
        rw [hr2] at r2
        have f1 := okx.fit
        have f2 := oky.fit
        refine (same_any _ _ _ xs[k].bs ys[k].bs (r1.keep ((kk.drewN m)) (by intro _ _ _ _ _; simp)) (r2.keep (kk.drewN m) (by intro _ _ _ _ _; simp)) (by omega) (by omega)).mono ?_
        rintro e w' ⟨rfl, x, rfl⟩
        exact ⟨by rw [decide_eq_true q3], m + x, by rw [World.drewN_drewN]⟩
      obtain ⟨wr, hwr⟩ : ∃ z, z = w.drewN n := ⟨_, rfl⟩
      rw [← hwr] at d0 d1 d2 e0 e1 e2 SM ⊢
      have HWR := hid hwr
      clear q1 q2 q3 okx oky hr1 hr2 kk hwr
      go_wp2_with fail
      go_quiet ((go_at_call 14; exact SM.out _))
      go_wp2_with fail
      go_roundw
      case rel => exact ⟨k + 1, n + nq, by omega, by go_num, by rw [HWR.out, World.drewN_drewN]⟩
      case measure => simp [intOf]; omega
    · obtain rfl : k = xs.length := by omega
      go_wp2_with fail
      go_ret
      exact ⟨rfl, n, rfl⟩

def ModelPost (w : World) (X : List Nat) (ms : List Mg) (e : Ending) (w' : World) : Prop :=
  ∃ a c, e = .returned (.slice a ms.length c) ∧ Own 38 w' w.heap.size X (.slice a ms.length c) ms ∧ Keeps [] w w'

set_option maxHeartbeats 3200000 in
theorem bModel_any (w : World) (X : List Nat) (hX : ∀ k ∈ X, k < w.heap.size) (v : Value) (ms : List Mg) (h : MsgsAt w X v ms) (hl : ms.length ≤ 1000) : Calls Try.prog 18 #[v] w (ModelPost w X ms) := by
  obtain ⟨a, c, rfl, -⟩ := id h
  have HH := hid h
  have HX := hid hX
  clear h hX
  go_enter Try.func18, Try.ntmps18
  go_wp2_with fail
  go_loopw [3, 4] (fun o iv wr => ∃ (k : Nat) (a2 : Option Addr) (c2 : Nat), k ≤ ms.length ∧ iv = .int .i64 k ∧ o = .slice a2 k c2 ∧ Own 38 wr w.heap.size X (.slice a2 k c2) (ms.take k) ∧ Keeps [] w wr) (fun _ iv _ => ms.length - (intOf iv).toNat)
  case atStart => exact ⟨0, none, 0, by omega, rfl, rfl, by simpa using (Own.nil 38 w w.heap.size).wide X HX.out (Nat.le_refl _), Keeps.refl _ _⟩
  case round =>
    obtain ⟨k, a2, c2, hk, rfl, rfl, ho, kk⟩ := hrel
    have KK := hid kk
    have HO := hid ho
    by_cases hlt : k < ms.length
    · obtain ⟨g, off, ha, _, gl, d0, d1, d2⟩ := (HH.out.keep kk).at k hlt
      subst ha
      have ng : g ∉ (Value.slice a2 k c2).ownBlock.toList := fun hm => by
        obtain ⟨_, _, ha', _, gl', _⟩ := HH.out.at k hlt
        have e := congrArg Addr.block (Option.some.inj ha')
        simp only at e
        have := (ho.blk g (by simpa using hm)).1
        omega
      have OK := hid ((HH.out.ok ms[k] (List.getElem_mem _)).keep kk (by simp))
      obtain ⟨ra, rc, hrow, -⟩ := OK.out.row
      rw [hrow] at d2
      have HROW := hid hrow
      have HT := hid (List.take_succ_eq_append_getElem hlt)
      have tl : (ms.take k).length = k := by rw [List.length_take]; omega
      clear kk ho hrow
      go_wp2_with fail
      refine wp_region_any (by kernel_rfl) (wpAny_of_held (S := KpS (Value.slice a2 k c2).ownBlock.toList wr.heap.size wr.drew) _ _ _ _ ?_)
      change wpAnyH _ _ _ _ _ _ _ _ wr.drew
      have D0 : ∀ W1, KpS (Value.slice a2 k c2).ownBlock.toList wr.heap.size wr.drew W1 → W1.cell? ⟨g, off + k * 3, none⟩ = some (.int .i64 ms[k].f) := fun W1 h => h.cell (by rw [World.cell?_drew]; exact d0) gl ng
      have D1 : ∀ W1, KpS (Value.slice a2 k c2).ownBlock.toList wr.heap.size wr.drew W1 → W1.cell? ⟨g, off + k * 3 + 1, none⟩ = some (.int .i64 ms[k].t) := fun W1 h => h.cell (by rw [World.cell?_drew]; exact d1) gl ng
      have D2 : ∀ W1, KpS (Value.slice a2 k c2).ownBlock.toList wr.heap.size wr.drew W1 → W1.cell? ⟨g, off + k * 3 + 2, none⟩ = some (.slice ra ms[k].bs.length rc) := fun W1 h => h.cell (by rw [World.cell?_drew]; exact d2) gl ng
      refine held_take (i := 0) (v := .slice a2 k c2) rfl (by kernel_rfl) (by kernel_rfl) (by kernel_rfl) (fun _ _ _ h => h) rfl (fun W1 hW1 => rfl) (KpS.refl _ _ _) ?_
      simp only [Act.put, List.setIfInBounds_toArray, List.set_cons_zero, List.set_cons_succ]
      refine held_take (i := 1) (v := .slice (some ⟨g, off, none⟩) ms.length c) rfl (by kernel_rfl) (by kernel_rfl) (by kernel_rfl) (fun _ _ _ h => h) rfl (fun W1 hW1 => rfl) (KpS.refl _ _ _) ?_
      simp only [Act.put, List.setIfInBounds_toArray, List.set_cons_zero, List.set_cons_succ]
      refine held_take (i := 2) (v := .int .i64 k) rfl (by kernel_rfl) (by kernel_rfl) (by kernel_rfl) (fun _ _ _ h => h) rfl (fun W1 hW1 => rfl) (KpS.refl _ _ _) ?_
      simp only [Act.put, List.setIfInBounds_toArray, List.set_cons_zero, List.set_cons_succ]
      refine held_take (i := 3) (v := .pointer (some ⟨g, off + k * 3, none⟩)) rfl (by kernel_rfl) (by kernel_rfl) (by kernel_rfl) (fun _ _ _ h => h) rfl (fun W1 hW1 => by go_simp) (KpS.refl _ _ _) ?_
      simp only [Act.put, List.setIfInBounds_toArray, List.set_cons_zero, List.set_cons_succ]
      refine held_take (i := 4) (v := .pointer (some ⟨g, off + k * 3, none⟩)) rfl (by kernel_rfl) (by kernel_rfl) (by kernel_rfl) (fun _ _ _ h => h) rfl (fun W1 hW1 => by go_simp) (KpS.refl _ _ _) ?_
      simp only [Act.put, List.setIfInBounds_toArray, List.set_cons_zero, List.set_cons_succ]
      refine held_take (i := 5) (v := .int .i64 ms[k].f) rfl (by kernel_rfl) (by kernel_rfl) (by kernel_rfl) (fun _ _ _ h => h) rfl (fun W1 hW1 => exec_load _ _ _ _ rfl rfl (run_loadCell W1 _ _ _ (D0 W1 hW1) (agg_no _ (by kernel_rfl)))) (KpS.refl _ _ _) ?_
      simp only [Act.put, List.setIfInBounds_toArray, List.set_cons_zero, List.set_cons_succ]
      refine held_take (i := 6) (v := .slice (some ⟨g, off, none⟩) ms.length c) rfl (by kernel_rfl) (by kernel_rfl) (by kernel_rfl) (fun _ _ _ h => h) rfl (fun W1 hW1 => rfl) (KpS.refl _ _ _) ?_
      simp only [Act.put, List.setIfInBounds_toArray, List.set_cons_zero, List.set_cons_succ]
      refine held_take (i := 7) (v := .int .i64 k) rfl (by kernel_rfl) (by kernel_rfl) (by kernel_rfl) (fun _ _ _ h => h) rfl (fun W1 hW1 => rfl) (KpS.refl _ _ _) ?_
      simp only [Act.put, List.setIfInBounds_toArray, List.set_cons_zero, List.set_cons_succ]
      refine held_take (i := 8) (v := .pointer (some ⟨g, off + k * 3, none⟩)) rfl (by kernel_rfl) (by kernel_rfl) (by kernel_rfl) (fun _ _ _ h => h) rfl (fun W1 hW1 => by go_simp) (KpS.refl _ _ _) ?_
      simp only [Act.put, List.setIfInBounds_toArray, List.set_cons_zero, List.set_cons_succ]
      refine held_take (i := 9) (v := .pointer (some ⟨g, off + k * 3 + 1, none⟩)) rfl (by kernel_rfl) (by kernel_rfl) (by kernel_rfl) (fun _ _ _ h => h) rfl (fun W1 hW1 => by go_simp) (KpS.refl _ _ _) ?_
      simp only [Act.put, List.setIfInBounds_toArray, List.set_cons_zero, List.set_cons_succ]
      refine held_take (i := 10) (v := .int .i64 ms[k].t) rfl (by kernel_rfl) (by kernel_rfl) (by kernel_rfl) (fun _ _ _ h => h) rfl (fun W1 hW1 => exec_load _ _ _ _ rfl rfl (run_loadCell W1 _ _ _ (D1 W1 hW1) (agg_no _ (by kernel_rfl)))) (KpS.refl _ _ _) ?_
      simp only [Act.put, List.setIfInBounds_toArray, List.set_cons_zero, List.set_cons_succ]
      refine held_take (i := 11) (v := .slice (some ⟨g, off, none⟩) ms.length c) rfl (by kernel_rfl) (by kernel_rfl) (by kernel_rfl) (fun _ _ _ h => h) rfl (fun W1 hW1 => rfl) (KpS.refl _ _ _) ?_
      simp only [Act.put, List.setIfInBounds_toArray, List.set_cons_zero, List.set_cons_succ]
      refine held_take (i := 12) (v := .int .i64 k) rfl (by kernel_rfl) (by kernel_rfl) (by kernel_rfl) (fun _ _ _ h => h) rfl (fun W1 hW1 => rfl) (KpS.refl _ _ _) ?_
      simp only [Act.put, List.setIfInBounds_toArray, List.set_cons_zero, List.set_cons_succ]
      refine held_take (i := 13) (v := .pointer (some ⟨g, off + k * 3, none⟩)) rfl (by kernel_rfl) (by kernel_rfl) (by kernel_rfl) (fun _ _ _ h => h) rfl (fun W1 hW1 => by go_simp) (KpS.refl _ _ _) ?_
      simp only [Act.put, List.setIfInBounds_toArray, List.set_cons_zero, List.set_cons_succ]
      refine held_take (i := 14) (v := .pointer (some ⟨g, off + k * 3 + 2, none⟩)) rfl (by kernel_rfl) (by kernel_rfl) (by kernel_rfl) (fun _ _ _ h => h) rfl (fun W1 hW1 => by go_simp) (KpS.refl _ _ _) ?_
      simp only [Act.put, List.setIfInBounds_toArray, List.set_cons_zero, List.set_cons_succ]
      refine held_take (i := 15) (v := .slice ra ms[k].bs.length rc) rfl (by kernel_rfl) (by kernel_rfl) (by kernel_rfl) (fun _ _ _ h => h) rfl (fun W1 hW1 => exec_load _ _ _ _ rfl rfl (run_loadCell W1 _ _ _ (D2 W1 hW1) (agg_no _ (by kernel_rfl)))) (KpS.refl _ _ _) ?_
      simp only [Act.put, List.setIfInBounds_toArray, List.set_cons_zero, List.set_cons_succ]
      refine held_take (i := 16) (v := .agg #[.int .i64 ms[k].f, .int .i64 ms[k].t, .slice ra ms[k].bs.length rc]) rfl (by kernel_rfl) (by kernel_rfl) (by kernel_rfl) (fun _ _ _ h => h) rfl (fun W1 hW1 => by go_simp) (KpS.refl _ _ _) ?_
      simp only [Act.put, List.setIfInBounds_toArray, List.set_cons_zero, List.set_cons_succ]
      refine held_do (i := 17) (by kernel_rfl) rfl rfl (wp_value (exec_oneMg mtR _ _ _ _ _ _ rfl rfl) ?_)
      have kB : Keeps [] wr (wr.drew.alloc (.cells #[.int .i64 ms[k].f, .int .i64 ms[k].t, .slice ra ms[k].bs.length rc] 38)) := (Keeps.refl [] wr).drew.alloc _
      have sB : KpS (Value.slice a2 k c2).ownBlock.toList wr.heap.size wr.drew (wr.drew.alloc (.cells #[.int .i64 ms[k].f, .int .i64 ms[k].t, .slice ra ms[k].bs.length rc] 38)) := (KpS.refl _ _ _).alloc (by simp) _
      have oB := one_msgs (E := 38) (OK.out.keep ((Keeps.refl [] wr).drew) (by simp)) HROW.out
      refine ⟨sB, ?_⟩
      simp only [Act.put, List.setIfInBounds_toArray, List.set_cons_zero, List.set_cons_succ]
      generalize wr.drew.alloc (.cells #[.int .i64 ms[k].f, .int .i64 ms[k].t, .slice ra ms[k].bs.length rc] 38) = wB at kB sB oB ⊢
      have hw0 := KK.out.size
      obtain ⟨a3, c3, w2, hr2, o2, k2, n2⟩ := append_msgs mtR (HO.out.later kB) _ 1 1 oB (by simp; omega) (by have := kB.size; omega) 46
      rw [tl] at hr2 o2
      have K2 : Hid (Keeps [] w w2) := hid ((KK.out.trans kB).trans' k2 (fun j hj hm => by have := (HO.out.blk j (by simpa using hm)).1; omega))
      have O2 := hid o2
      refine held_do (i := 18) (by kernel_rfl) rfl rfl (wp_value (exec_appendT 46 _ _ rfl rfl rfl hr2) ?_)
      refine ⟨sB.keeps k2 kB.size (fun j hj _ => hj), ?_⟩
      simp only [Act.put, List.setIfInBounds_toArray, List.set_cons_zero, List.set_cons_succ]
      have sE : KpS (Value.slice a2 k c2).ownBlock.toList wr.heap.size wr.drew w2 := sB.keeps k2 kB.size (fun j hj _ => hj)
      refine held_take (i := 19) (v := .slice a3 (k + 1) c3) rfl (by kernel_rfl) (by kernel_rfl) (by kernel_rfl) (fun _ _ _ h => h) rfl (fun W1 hW1 => by go_simp) (sE) ?_
      simp only [Act.put, List.setIfInBounds_toArray, List.set_cons_zero, List.set_cons_succ]
      refine wpAnyH_done (by kernel_rfl) ?_ _
      clear D0 D1 D2 kB sB oB hr2 o2 k2 n2 sE ng d0 d1 d2 gl
      go_wp2_with fail
      go_roundw
      case rel => exact ⟨k + 1, a3, c3, by omega, by go_num, rfl, by rw [HT.out]; exact O2.out, K2.out⟩
      case measure => simp [intOf]; omega
    · obtain rfl : k = ms.length := by omega
      rw [List.take_length] at HO
      clear kk ho hlt
      go_wp2_with fail
      go_ret
      exact ⟨a2, c2, rfl, HO.out, KK.out⟩
end Go.Proofs.Ytehbibimfjipiaa
