/- bag: the walk of the reference's Take. -/
import Derived.Test.YtehbibimfjipiaaBgM
import Derived.Deep.Cut
import Derived.Deep.CutBlock
namespace Go.Proofs.Ytehbibimfjipiaa
open Go.RowKit Go.Shelf
set_option maxRecDepth 100000

theorem rbag_new {w w1 : World} {p : Nat} {X X' : List Nat} {v v' : Value} {most : Int} {ms ms' : List Mg} (H : BagAt 48 38 w1 p X v most ms) (k : Keeps [] w w1) (hp : p < w.heap.size) (o : Own 38 w1 w.heap.size X' v' ms') (hX : ∀ b ∈ X', b ∈ X ∨ w.heap.size ≤ b) (hl : (ms'.length : Int) ≤ most) :
    BagAt 48 38 (w1.setCell ⟨p, 1, none⟩ v') p X' v' most ms' ∧ Keeps (bfoot p X v) w (w1.setCell ⟨p, 1, none⟩ v') ∧ Fr w (bfoot p X v) (bfoot p X' v') := bag_stored H k hp o hX hl

set_option maxHeartbeats 6400000 in
theorem rbTake_any (w : World) (p : Nat) (X : List Nat) (v : Value) (most : Int) (ms : List Mg) (H : BagAt 48 38 w p X v most ms) (n : Int) (hn : i64 n) :
    Calls Try.prog 13 #[.pointer (some ⟨p, 0, none⟩), .int .i64 n] w (TakePost7 48 38 w p X v most ms n) := by
  have fits := H.fits
  have m2 := H.m2
  have ka := (Keeps.refl [] w).alloc (.cells #[.int .i64 0, .int .i64 0, .slice none 0 0] 38)
  have b1 := heap_alloc_new w (.cells #[.int .i64 0, .int .i64 0, .slice none 0 0] 38)
  have za : (w.alloc (.cells #[.int .i64 0, .int .i64 0, .slice none 0 0] 38)).heap.size = w.heap.size + 1 := by simp
  have KA := hid ka
  have B1 := hid b1
  have ZA := hid za
  have HA := hid (H.later ka)
  have LT := hid H.lt
  have XL := hid H.own.lt
  obtain ⟨a0, cp, hv⟩ := H.own.shape
  subst hv
  by_cases h0 : ms = []
  · subst h0
    clear H ka b1 za
    go_enter Try.func13, Try.ntmps13
    go_upto_region 1 with (fail)
    generalize w.alloc (.cells #[.int .i64 0, .int .i64 0, .slice none 0 0] 38) = wA at KA B1 HA ZA ⊢
    have c1 := HA.out.c1
    go_wp2_with (first | (refine wpList_storeMg mtR rfl _ _ rfl _ rfl #[.int .i64 0, .int .i64 0, .slice none 0 0] rfl B1.out (.int .i64 0) (.int .i64 0) (.slice none 0 0) rfl (by simp [Value.oneCell']) ?_; intro w1 s1 s2) | fail)
    refine bodyPost_ret (v := .tuple #[.agg #[.int .i64 0, .int .i64 0, .slice none 0 0], .bool false]) (res_cell_slot rfl _ _ _ _ _ _ _ rfl s1.out Try.underlying38 rfl (by kernel_rfl) _ rfl) rfl ?_
    exact Or.inl ⟨rfl, rfl, KA.out.trans' s2.out (fun i hi hm => by simp at hm; omega)⟩
  · obtain ⟨i, hi, hmod⟩ := pick_is (n := n) h0
    have hpos : 0 < ms.length := by omega
    have HMOD := hid hmod
    have hmi := mod_is n ms.length
    rw [hmod] at hmi
    obtain ⟨n1, n2⟩ := hn
    have t1 : -(ms.length : Int) < n.tmod ms.length := by
      have := Int.tmod_lt_of_pos (-n) (show (0 : Int) < ms.length by omega)
      rw [Int.neg_tmod] at this
      omega
    have t2 : n.tmod ms.length < ms.length := Int.tmod_lt_of_pos n (by omega)
    have hk0 : (ms.length : Int) ≠ 0 := by omega
    have hz1 : ((ms.length : Int) == 0) = false := by simp; omega
    clear H ka b1 za hmod h0
    go_enter Try.func13, Try.ntmps13
    go_upto_region 1 with (fail)
    generalize w.alloc (.cells #[.int .i64 0, .int .i64 0, .slice none 0 0] 38) = wA at KA B1 HA ZA ⊢
    have c1 := HA.out.c1
    obtain ⟨g, off, ha, _, gl, d0, d1, d2⟩ := HA.out.own.at.at i hi
    subst ha
    obtain ⟨ra, rc, hrow, _⟩ := (HA.out.own.ok ms[i] (List.getElem_mem _)).row
    rw [hrow] at d2
    have HROW := hid hrow
    clear hrow
    go_wp2_with fail
    have ZB := hid (show (wA.alloc (.cells #[.int .i64 ms[i].f, .int .i64 ms[i].t, .slice ra ms[i].bs.length rc] 38)).heap.size = wA.heap.size + 1 by simp)
    have KB := hid ((Keeps.refl [] wA).alloc (.cells #[.int .i64 ms[i].f, .int .i64 ms[i].t, .slice ra ms[i].bs.length rc] 38))
    have B7 := hid (heap_alloc_new wA (.cells #[.int .i64 ms[i].f, .int .i64 ms[i].t, .slice ra ms[i].bs.length rc] 38))
    generalize wA.alloc (.cells #[.int .i64 ms[i].f, .int .i64 ms[i].t, .slice ra ms[i].bs.length rc] 38) = wB at KB B7 ZB ⊢
    have HB := hid (HA.out.later KB.out)
    have BR := hid ((KB.out.block _ (by have := ZA.out; omega) (by simp)).trans B1.out)
    have S1 := hid ((msgs_take mtR HB.out.own.at i (by omega)).1)
    obtain ⟨a1, sd1, _, sd2⟩ := msgs_drop mtR HB.out.own.at (i + 1) (by omega)
    have S2 := hid sd1
    have T1 := hid ((msgs_take mtR HB.out.own.at i (by omega)).2.2 wB HB.out.own.at)
    have T2 := hid (sd2 wB HB.out.own.at)
    clear sd1 sd2 c1 d0 d1 d2 gl
    have hw1 : IntKind.i64.wrap ((i : Int) + 1) = (i : Int) + 1 := by rw [IntKind.wrap_i64]; omega
    clear t1 t2 n1 n2 hmi
    refine wp_region_any (by kernel_rfl) (wpAny_of_late (late := [19]) (S := KpS [] wB.heap.size wB.drew) _ _ _ _ ?_)
    change wpAnyT _ _ _ _ _ _ _ _ _ wB.drew
    have cP : ∀ W1, KpS [] wB.heap.size wB.drew W1 → W1.cell? ⟨p, 1, none⟩ = some (.slice (some ⟨g, off, none⟩) ms.length cp) := fun W1 h => h.cell (by rw [World.cell?_drew]; exact HB.out.c1) HB.out.lt (by simp)
    refine late_take (i := 0) (v := .pointer (some ⟨p, 0, none⟩)) rfl (by kernel_rfl) (by kernel_rfl) (by kernel_rfl) (by kernel_rfl) (by kernel_rfl) (fun _ _ _ h => h) rfl (fun W1 hW1 => rfl) (KpS.refl _ _ _) ?_
    simp only [Act.put, List.setIfInBounds_toArray, List.set_cons_zero, List.set_cons_succ]
    refine late_take (i := 2) (v := .pointer (some ⟨p, 0, none⟩)) rfl (by kernel_rfl) (by kernel_rfl) (by kernel_rfl) (by kernel_rfl) (by kernel_rfl) (fun _ _ _ h => h) rfl (fun W1 hW1 => rfl) (KpS.refl _ _ _) ?_
    simp only [Act.put, List.setIfInBounds_toArray, List.set_cons_zero, List.set_cons_succ]
    refine late_take (i := 3) (v := .pointer (some ⟨p, 0, none⟩)) rfl (by kernel_rfl) (by kernel_rfl) (by kernel_rfl) (by kernel_rfl) (by kernel_rfl) (fun _ _ _ h => h) rfl (fun W1 hW1 => by go_simp) (KpS.refl _ _ _) ?_
    simp only [Act.put, List.setIfInBounds_toArray, List.set_cons_zero, List.set_cons_succ]
    refine late_take (i := 4) (v := .pointer (some ⟨p, 1, none⟩)) rfl (by kernel_rfl) (by kernel_rfl) (by kernel_rfl) (by kernel_rfl) (by kernel_rfl) (fun _ _ _ h => h) rfl (fun W1 hW1 => by go_simp) (KpS.refl _ _ _) ?_
    simp only [Act.put, List.setIfInBounds_toArray, List.set_cons_zero, List.set_cons_succ]
    refine late_take (i := 5) (v := .slice (some ⟨g, off, none⟩) ms.length cp) rfl (by kernel_rfl) (by kernel_rfl) (by kernel_rfl) (by kernel_rfl) (by kernel_rfl) (fun _ _ _ h => h) rfl (fun W1 hW1 => exec_load _ _ _ _ rfl rfl (run_loadCell W1 _ _ _ (cP W1 hW1) (agg_no _ (by kernel_rfl)))) (KpS.refl _ _ _) ?_
    simp only [Act.put, List.setIfInBounds_toArray, List.set_cons_zero, List.set_cons_succ]
    refine late_take (i := 6) (v := .int .i64 i) rfl (by kernel_rfl) (by kernel_rfl) (by kernel_rfl) (by kernel_rfl) (by kernel_rfl) (fun _ _ _ h => h) rfl (fun W1 hW1 => rfl) (KpS.refl _ _ _) ?_
    simp only [Act.put, List.setIfInBounds_toArray, List.set_cons_zero, List.set_cons_succ]
    refine late_take (i := 7) (v := .slice (some ⟨g, off, none⟩) i cp) rfl (by kernel_rfl) (by kernel_rfl) (by kernel_rfl) (by kernel_rfl) (by kernel_rfl) (fun _ _ _ h => h) rfl (fun W1 hW1 => exec_sliceR _ _ _ _ _ rfl (S1.out W1)) (KpS.refl _ _ _) ?_
    simp only [Act.put, List.setIfInBounds_toArray, List.set_cons_zero, List.set_cons_succ]
    refine late_take (i := 9) (v := .pointer (some ⟨p, 0, none⟩)) rfl (by kernel_rfl) (by kernel_rfl) (by kernel_rfl) (by kernel_rfl) (by kernel_rfl) (fun _ _ _ h => h) rfl (fun W1 hW1 => rfl) (KpS.refl _ _ _) ?_
    simp only [Act.put, List.setIfInBounds_toArray, List.set_cons_zero, List.set_cons_succ]
    refine late_take (i := 10) (v := .pointer (some ⟨p, 0, none⟩)) rfl (by kernel_rfl) (by kernel_rfl) (by kernel_rfl) (by kernel_rfl) (by kernel_rfl) (fun _ _ _ h => h) rfl (fun W1 hW1 => by go_simp) (KpS.refl _ _ _) ?_
    simp only [Act.put, List.setIfInBounds_toArray, List.set_cons_zero, List.set_cons_succ]
    refine late_take (i := 11) (v := .pointer (some ⟨p, 1, none⟩)) rfl (by kernel_rfl) (by kernel_rfl) (by kernel_rfl) (by kernel_rfl) (by kernel_rfl) (fun _ _ _ h => h) rfl (fun W1 hW1 => by go_simp) (KpS.refl _ _ _) ?_
    simp only [Act.put, List.setIfInBounds_toArray, List.set_cons_zero, List.set_cons_succ]
    refine late_take (i := 12) (v := .slice (some ⟨g, off, none⟩) ms.length cp) rfl (by kernel_rfl) (by kernel_rfl) (by kernel_rfl) (by kernel_rfl) (by kernel_rfl) (fun _ _ _ h => h) rfl (fun W1 hW1 => exec_load _ _ _ _ rfl rfl (run_loadCell W1 _ _ _ (cP W1 hW1) (agg_no _ (by kernel_rfl)))) (KpS.refl _ _ _) ?_
    simp only [Act.put, List.setIfInBounds_toArray, List.set_cons_zero, List.set_cons_succ]
    refine late_take (i := 13) (v := .int .i64 i) rfl (by kernel_rfl) (by kernel_rfl) (by kernel_rfl) (by kernel_rfl) (by kernel_rfl) (fun _ _ _ h => h) rfl (fun W1 hW1 => rfl) (KpS.refl _ _ _) ?_
    simp only [Act.put, List.setIfInBounds_toArray, List.set_cons_zero, List.set_cons_succ]
    refine late_take (i := 14) (v := .int .i64 ((i + 1 : Nat) : Int)) rfl (by kernel_rfl) (by kernel_rfl) (by kernel_rfl) (by kernel_rfl) (by kernel_rfl) (fun _ _ _ h => h) rfl (fun W1 hW1 => by go_simp) (KpS.refl _ _ _) ?_
    simp only [Act.put, List.setIfInBounds_toArray, List.set_cons_zero, List.set_cons_succ]
    refine late_take (i := 15) (v := .slice a1 (ms.length - (i + 1)) (cp - (i + 1))) rfl (by kernel_rfl) (by kernel_rfl) (by kernel_rfl) (by kernel_rfl) (by kernel_rfl) (fun _ _ _ h => h) rfl (fun W1 hW1 => exec_sliceR _ _ _ _ _ rfl (S2.out W1)) (KpS.refl _ _ _) ?_
    simp only [Act.put, List.setIfInBounds_toArray, List.set_cons_zero, List.set_cons_succ]
    refine late_do (i := 1) (by kernel_rfl) rfl rfl (wp_value (exec_noMg mtR rfl) ?_)
    have kC : Keeps [] wB (wB.drew.alloc (.cells #[] 38)) := (Keeps.refl [] wB).drew.alloc _
    have sC : KpS [] wB.heap.size wB.drew (wB.drew.alloc (.cells #[] 38)) := (KpS.refl _ _ _).alloc (by simp) _
    have oC := own_none 38 wB.drew
    refine ⟨Or.inr sC, ?_⟩
    simp only [Act.put, List.setIfInBounds_toArray, List.set_cons_zero, List.set_cons_succ]
    generalize wB.drew.alloc (.cells #[] 38) = wC at kC sC oC ⊢
    have hXl : ∀ k ∈ X, k < wB.drew.heap.size := fun k hk => HB.out.own.lt k hk
    have oC2 := oC.wide X hXl kC.size
    have lt1 : (ms.take i).length = i := by rw [List.length_take]; omega
    have lt2 : (ms.drop (i + 1)).length = ms.length - (i + 1) := by rw [List.length_drop]
    obtain ⟨a2, c2, wD, run2, o2, k2, nr2⟩ := append_msgs mtR oC2 (some ⟨g, off, none⟩) i cp (T1.out.keep kC) (by rw [lt1]; simp; omega) kC.size 46
    simp only [List.length_nil, Nat.zero_add, List.nil_append] at run2 o2
    have sD : KpS [] wB.heap.size wB.drew wD := sC.keeps k2 kC.size (fun j hj hlt => by have := (oC2.blk j (by simpa using hj)).1; have e : wB.drew.heap.size = wB.heap.size := rfl; omega)
    have kD : Keeps [] wB wD := kC.trans' k2 (fun j hlt hj => by have := (oC2.blk j (by simpa using hj)).1; have e : wB.drew.heap.size = wB.heap.size := rfl; omega)
    refine late_do (i := 8) (by kernel_rfl) rfl rfl (wp_value (exec_appendT 46 _ _ rfl rfl rfl run2) ?_)
    refine ⟨Or.inr sD, ?_⟩
    simp only [Act.put, List.setIfInBounds_toArray, List.set_cons_zero, List.set_cons_succ]
    obtain ⟨a3, c3, wE, run3, o3, k3, nr3⟩ := append_msgs mtR o2 a1 (ms.length - (i + 1)) (cp - (i + 1)) (T2.out.keep kD) (by rw [lt1, lt2]; omega) kD.size 46
    rw [lt1] at run3 o3
    have sE : KpS [] wB.heap.size wB.drew wE := sD.keeps k3 kD.size (fun j hj hlt => by have := (o2.blk j (by simpa using hj)).1; have e : wB.drew.heap.size = wB.heap.size := rfl; omega)
    have kE : Keeps [] wB wE := kD.trans' k3 (fun j hlt hj => by have := (o2.blk j (by simpa using hj)).1; have e : wB.drew.heap.size = wB.heap.size := rfl; omega)
    refine late_do (i := 16) (by kernel_rfl) rfl rfl (wp_value (exec_appendT 46 _ _ rfl rfl rfl run3) ?_)
    refine ⟨Or.inr sE, ?_⟩
    simp only [Act.put, List.setIfInBounds_toArray, List.set_cons_zero, List.set_cons_succ]
    refine late_take (i := 17) (v := .pointer (some ⟨p, 0, none⟩)) rfl (by kernel_rfl) (by kernel_rfl) (by kernel_rfl) (by kernel_rfl) (by kernel_rfl) (fun _ _ _ h => h) rfl (fun W1 hW1 => by go_simp) (sE) ?_
    simp only [Act.put, List.setIfInBounds_toArray, List.set_cons_zero, List.set_cons_succ]
    refine late_take (i := 18) (v := .pointer (some ⟨p, 1, none⟩)) rfl (by kernel_rfl) (by kernel_rfl) (by kernel_rfl) (by kernel_rfl) (by kernel_rfl) (fun _ _ _ h => h) rfl (fun W1 hW1 => by go_simp) (sE) ?_
    simp only [Act.put, List.setIfInBounds_toArray, List.set_cons_zero, List.set_cons_succ]
    have hD := HB.out.later kE
    have cd := hD.c1
    have fd := hD.f1
    refine late_do (i := 19) (by kernel_rfl) rfl rfl (wp_stored (w' := wE.setCell ⟨p, 1, none⟩ (.slice a3 (i + (ms.length - (i + 1))) c3)) (by go_simp) ⟨Or.inl rfl, ?_⟩)
    simp only [Act.put]
    refine wpAnyT_done (by kernel_rfl) ?_ _
    have kAB := KA.out.trans KB.out
    have hzAB := kAB.size
    have hl3 : ((ms.take i ++ ms.drop (i + 1)).length : Int) ≤ most := by rw [List.length_append, lt1, lt2]; omega
    have e0 : wB.drew.heap.size = wB.heap.size := rfl
    have R := hid (rbag_new hD (kAB.trans kE) LT.out (o3.base (fun b hb => by have := (o3.blk b hb).1; omega)) (X' := X) (fun b hb => Or.inl hb) hl3)
    have OW := hid (R.out.2.1)
    have RN : Hid (∀ b ∈ bfoot p X (.slice a3 (i + (ms.length - (i + 1))) c3), b ≠ w.heap.size) := hid (fun b hb e => by
      have := LT.out
      have := ZA.out
      have := KB.out.size
      rcases mem_bfoot.1 hb with hb | hb | hb
      · omega
      · have := (o3.blk b hb).1; omega
      · have := XL.out b hb; omega)
    have MM := hid ((HB.out.own.ok ms[i] (List.getElem_mem _)).keep kE (by simp))
    have BR5 : Hid ((wE.setCell ⟨p, 1, none⟩ (.slice a3 (i + (ms.length - (i + 1))) c3)).heap[w.heap.size]? = some (.cells #[.int .i64 0, .int .i64 0, .slice none 0 0] 38 (0, 0))) := hid (by
      rw [heap_setCell_other _ _ _ _ (by have := LT.out; simp; omega), kE.block _ (lt_of_block BR.out) (by simp)]
      exact BR.out)
    have B75 : Hid ((wE.setCell ⟨p, 1, none⟩ (.slice a3 (i + (ms.length - (i + 1))) c3)).heap[wA.heap.size]? = some (.cells #[.int .i64 ms[i].f, .int .i64 ms[i].t, .slice ra ms[i].bs.length rc] 38 (0, 0))) := hid (by
      rw [heap_setCell_other _ _ _ _ (by have := LT.out; have := ZA.out; simp; omega), kE.block _ (lt_of_block B7.out) (by simp)]
      exact B7.out)
    have MS : Hid (MgOk (wE.setCell ⟨p, 1, none⟩ (.slice a3 (i + (ms.length - (i + 1))) c3)) X ms[i]) := hid (MM.out.keep ((Keeps.refl [p] wE).setCell (p := ⟨p, 1, none⟩) (Or.inl (by simp)) _) (fun b hb hm => by simp at hm; subst hm; exact HB.out.pX hb))
    generalize wE.setCell ⟨p, 1, none⟩ (.slice a3 (i + (ms.length - (i + 1))) c3) = wF at R OW BR5 B75 MS ⊢
    clear cP kC sC oC hXl oC2 lt1 lt2 run2 o2 k2 nr2 sD kD run3 o3 k3 nr3 sE kE hD cd fd kAB hzAB hl3 e0 hw1
    obtain ⟨e0, e1, e2, _⟩ := row_block3 B75.out
    have ldB := hid (loadR e0 e1 e2)
    clear e0 e1 e2
    go_wp2_with (first | (refine wpList_is rfl _ _ (exec_load _ _ _ _ rfl rfl ldB.out) ?_) | (refine wpList_storeMg mtR rfl _ _ rfl _ rfl #[.int .i64 0, .int .i64 0, .slice none 0 0] rfl BR5.out (.int .i64 ms[i].f) (.int .i64 ms[i].t) (.slice ra ms[i].bs.length rc) rfl (by simp [Value.oneCell']) ?_; intro w1 s1 s2) | fail)
    refine bodyPost_ret (v := .tuple #[.agg #[.int .i64 ms[i].f, .int .i64 ms[i].t, .slice ra ms[i].bs.length rc], .bool true]) (res_cell_slot rfl _ _ _ _ _ _ _ rfl s1.out Try.underlying38 rfl (by kernel_rfl) _ rfl) rfl ?_
    have hw : w.heap.size < wF.heap.size := lt_of_block BR5.out
    refine Or.inr ⟨i, hi, HMOD.out, ms[i], X, by rw [mgV, HROW.out], rfl, MS.out.keep s2.out (fun b hb hm => by simp at hm; have := XL.out b hb; omega), fun b hb => Or.inl (mem_bfoot.2 (Or.inr (Or.inr hb))), fun b hb => by have := XL.out b hb; have := s2.out.size; omega, X, _, R.out.1.keep s2.out (fun b hb hm => RN.out b hb (by simpa using hm)), OW.out.trans' s2.out (fun j hj hm => by simp at hm; omega), ?_⟩
    have := R.out.2.2
    exact this
end Go.Proofs.Ytehbibimfjipiaa
