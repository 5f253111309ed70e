/- LyL, KitH. -/
import Derived.Test.YtcfmonlgpccndaaDoorPkG14
import Derived.Test.YtcfmonlgpccndaaDoorPkG15
import Derived.Test.YtcfmonlgpccndaaDoorPkG16
import Derived.Test.YtcfmonlgpccndaaDoorPkG06
/- layout: rows of rows in memory; Cut's two closures. -/
namespace Go.Proofs.YtcfmonlgpccndaaDoor
open Go.RowKit Go.Shelf
set_option maxRecDepth 100000
set_option linter.unusedSimpArgs false
set_option linter.unusedVariables false

/-- A slice of rows: what they hold. -/
def RsAt (w : World) (v : Value) (ls : List (List Int)) : Prop := ∃ rs : List (El w), raws rs = ls ∧ RowsAt w v rs
theorem RowsAt.kept {w0 w w' : World} {v : Value} {rs : List (El w0)} (h : RowsAt w v rs) (k : Keeps [] w w') : RowsAt w' v rs := by
  obtain ⟨a, cap, rfl, h1, h2, h3, h4⟩ := h
  exact ⟨a, cap, rfl, h1, h2, h3, fun ad had j u hu => k.cell (h4 ad had j u hu) (by simp)⟩
theorem RsAt.keep {w w' : World} {v : Value} {ls : List (List Int)} (h : RsAt w v ls) (k : Keeps [] w w') : RsAt w' v ls := by
  obtain ⟨rs, rfl, hr⟩ := h
  exact ⟨rs.map (El.keep k), raws_keep k rs, (hr.kept k).moved k⟩
theorem HeadsAt.els {w : World} {g : Nat} {F : List Nat} {vs : List Value} {ls : List (List Int)} (h : HeadsAt w g F vs ls) : ∃ rs : List (El w), rs.map (fun r => r.1.1) = vs ∧ raws rs = ls := by
  have hlen := h.len
  obtain ⟨rs', e⟩ := els_of (w := w) (vs.zip ls) (fun r hr => by
    obtain ⟨i, hi, rfl⟩ := List.getElem_of_mem hr
    rw [List.getElem_zip]
    have h1 : i < vs.length := by rw [List.length_zip] at hi; omega
    have h2 : i < ls.length := by omega
    have hr := h.row i h1
    rw [List.getD_eq_getElem?_getD, List.getElem?_eq_getElem h2] at hr
    exact ⟨hr, h.few _ (List.getElem_mem h2)⟩)
  have e1 : rs'.map (fun r => r.1.1) = (rs'.map (fun r => r.1)).map Prod.fst := by rw [List.map_map]; rfl
  have e2 : raws rs' = (rs'.map (fun r => r.1)).map Prod.snd := by unfold raws; rw [List.map_map]; rfl
  refine ⟨rs', ?_, ?_⟩
  · rw [e1, e, List.map_fst_zip (by omega)]
  · rw [e2, e, List.map_snd_zip (by omega)]
/-- The heads of a block, owned. -/
theorem heads_own {w : World} {g B n : Nat} {vs : List Value} (hb : w.heap[g]? = some (.cells vs.toArray 31 (0, 0))) (hn : vs.length = n) (hB : B ≤ g) (hm : n ≤ maxLen) : w.ownsRow B 31 1 (.slice (some ⟨g, 0, none⟩) n n) n vs :=
  ⟨by simp [hn], Or.inr ⟨g, n, vs.toArray, rfl, hB, hb, Nat.le_refl _, hm, by simp [hn], by rw [← hn]; simp⟩⟩
theorem HeadsAt.rs {w : World} {g n : Nat} {F : List Nat} {vs : List Value} {ls : List (List Int)} (h : HeadsAt w g F vs ls) (hb : w.heap[g]? = some (.cells vs.toArray 31 (0, 0))) (hn : vs.length = n) (hm : n ≤ maxLen) : RsAt w (.slice (some ⟨g, 0, none⟩) n n) ls := by
  obtain ⟨rs, e1, e2⟩ := h.els
  refine ⟨rs, e2, ?_⟩
  have ho := heads_own (B := 0) hb hn (Nat.zero_le _) hm
  rw [← e1] at ho
  exact rows_of_own ho
/-- A part of a row. -/
theorem row_sub {w : World} {a : Option Addr} {len cap : Nat} {zs : List Int} (h : RowAt w (.slice a len cap) zs) (f n : Nat) (hn : f + n ≤ zs.length) :
    ∃ a1, (∀ W, (Instr.sliceAt 31 (.slice a len cap) (some (.int .i64 (f : Int))) (some (.int .i64 ((f + n : Nat) : Int))) none).run Tryd.prog W = .ok (.slice a1 n (cap - f)) W) ∧
      (∀ W, RowAt W (.slice a len cap) zs → RowAt W (.slice a1 n (cap - f)) ((zs.drop f).take n)) ∧ (∀ ad, a1 = some ad → ∃ ad', a = some ad' ∧ ad'.block = ad.block) := by
  obtain ⟨ad1, r1, r2, r3, r4⟩ := row_drop h f (by omega)
  obtain ⟨a', cap', hv, h1, h2, h3, h4, h5⟩ := id h
  injection hv with e1 e2 e3
  subst e1; subst e2; subst e3
  have hd := r3 w h
  obtain ⟨ad2, t1, t2, t3, t4⟩ := row_take hd n (by rw [List.length_drop]; omega)
  have hrun : ∀ W, (Instr.slice 31 (.slice a zs.length cap) (some (.int .i64 (f : Int))) (some (.int .i64 ((f + n : Nat) : Int))) none).run Tryd.prog W = .ok (.slice (if cap = f then a else a.map (·.add f)) n (cap - f)) W := by
    intro W
    rw [run_slice_lh W 31 a zs.length cap bytes_elem .i64 .i64 f (f + n : Nat) (by omega) (by omega) (by omega), bytes_el, size_u8]
    simp [Result.andThen, sliced]
    omega
  have hsl : ∀ W, (Instr.slice 31 (.slice a zs.length cap) (some (.int .i64 (f : Int))) none none).run Tryd.prog W = .ok (.slice (if cap = f then a else a.map (·.add f)) (zs.length - f) (cap - f)) W := by
    intro W
    rw [run_slice_l W 31 a zs.length cap bytes_elem .i64 f (by omega) (by omega), bytes_el, size_u8]
    simp [Result.andThen, sliced]
  have e1 : ad1 = if cap = f then a else a.map (·.add f) := by
    have := (r2 w).symm.trans (hsl w)
    injection this with this
    injection this
  refine ⟨_, fun W => by rw [run_sliceAt_slice W 31 _ _ _ _ bytes_elem]; exact hrun W, fun W hW => ?_, fun ad had => r4 ad (by rw [e1]; exact had)⟩
  have hdW := r3 W hW
  rw [e1] at hdW
  obtain ⟨a', cap', hv, g1, g2, g3, g4, g5⟩ := hdW
  injection hv with q1 q2 q3
  subst q1; subst q3
  have hl2 : ((zs.drop f).take n).length = n := by rw [List.length_take, List.length_drop]; omega
  refine ⟨_, cap - f, by rw [hl2], by rw [hl2]; omega, g2, g3, fun z hz => g4 z (List.mem_of_mem_take hz), fun ad had j u hu => g5 ad had j u ?_⟩
  rw [List.map_take, List.getElem?_take] at hu
  split at hu
  · exact hu
  · cases hu

/-- Nothing but the new heads was written since. -/
def KI (w : World) (_ : Nat) (F : List Nat) (W : World) : Prop := F = [] ∧ Keeps [w.heap.size] w W
theorem KI.start (w : World) : KI w 0 [] w := ⟨rfl, Keeps.refl _ _⟩
theorem KI.step (w : World) : ∀ k F W W', KI w k F W → Keeps [w.heap.size] W W' → KI w k F W' := fun _ _ _ _ h k => ⟨h.1, h.2.trans k⟩
theorem KI.cell {w : World} {k : Nat} {F : List Nat} {W : World} (h : KI w k F W) {b i : Nat} {v : Value} (hc : w.cell? ⟨b, i, none⟩ = some v) : W.cell? ⟨b, i, none⟩ = some v :=
  h.2.cell hc (by have := World.block_lt_of_cell? _ _ hc; simp at this ⊢; omega)
theorem KI.row {w : World} {k : Nat} {F : List Nat} {W : World} (h : KI w k F W) {v : Value} {zs : List Int} (hr : RowAt w v zs) : RowAt W v zs := hr.keep h.2 (off_oldB hr (Nat.le_refl _))
theorem KI.rs {w : World} {k : Nat} {F : List Nat} {W : World} (h : KI w k F W) {v : Value} {ls : List (List Int)} (hr : RsAt w v ls) : RsAt W v ls := by
  obtain ⟨rs, rfl, hr⟩ := hr
  obtain ⟨rs', e⟩ := els_of (w := W) (rs.map fun r => r.1) (fun r hr' => by
    obtain ⟨x, _, rfl⟩ := List.mem_map.1 hr'
    exact ⟨h.row x.2.1, x.2.2⟩)
  have e1 : rs'.map (fun r => r.1.1) = rs.map (fun r => r.1.1) := by
    have := congrArg (List.map Prod.fst) e
    rw [List.map_map, List.map_map] at this
    exact this
  have e2 : raws rs' = raws rs := by
    have := congrArg (List.map Prod.snd) e
    rw [List.map_map, List.map_map] at this
    exact this
  refine ⟨rs', e2, ?_⟩
  obtain ⟨a, cap, rfl, h1, h2, h3, h4⟩ := hr
  have hl : rs'.length = rs.length := by have := congrArg List.length e1; simpa using this
  refine ⟨a, cap, by rw [hl], by rw [hl]; exact h1, h2, h3, fun ad had j u hu => ?_⟩
  rw [e1] at hu
  have hc := h4 ad had j u hu
  refine h.2.cell hc ?_
  have := World.block_lt_of_cell? _ _ hc
  simp at this ⊢
  omega
theorem off_new13 {w : World} {M : List Nat} {a : Option Addr} {n c : Nat} {zs : List Int} (h : ∀ ad, a = some ad → w.heap.size ≤ ad.block) (hM : ∀ b ∈ M, b < w.heap.size) : Off M (.slice a n c) zs := fun ad n' c' e _ hm => by
  injection e with e _ _
  subst e
  have := h ad rfl
  have := hM _ hm
  omega
theorem row_old {w W : World} {u : Value} {zs : List Int} (h : RowAt w u zs) {g : Nat} (hg : w.heap.size ≤ g) : Off [g] u zs := off_oldB h hg
theorem off_part {v v1 : Value} {zs ys : List Int} {S : List Nat} (h : Off S v zs) (hb : ∀ ad n c, v1 = .slice (some ad) n c → ∃ ad' n' c', v = .slice (some ad') n' c' ∧ ad'.block = ad.block) (hne : ys ≠ [] → zs ≠ []) : Off S v1 ys := by
  intro ad n c e hy hm
  obtain ⟨ad', n', c', e', hb'⟩ := hb ad n c e
  exact h ad' n' c' e' (hne hy) (by rw [hb']; exact hm)
set_option maxHeartbeats 1600000 in
theorem cutA_any (w : World) (bz bn bd : Nat) (n : Nat) (dv : Value) (d : List Int) (h3 : 3 ≤ n) (h16 : n ≤ 16) (hl : d.length ≤ 400 * (n - 1)) (hd : RowAt w dv d)
    (cz0 : w.cell? ⟨bz, 0, none⟩ = some (.int .i64 (d.length : Int))) (cn0 : w.cell? ⟨bn, 0, none⟩ = some (.int .i64 (n : Int))) (cd0 : w.cell? ⟨bd, 0, none⟩ = some dv)
    (k : Nat) (F : List Nat) (W : World) (hk : k < n - 1) (hI : KI w k F W) :
    Calls Tryd.prog 56 (#[.int .i64 (k : Int)] ++ #[.pointer (some ⟨bz, 0, none⟩), .pointer (some ⟨bn, 0, none⟩), .pointer (some ⟨bd, 0, none⟩)]) W (CPost w.heap.size (KI w) (fun i => partL d i n) (fun _ => False) k F W) := by
  have cz := hI.cell cz0
  have cn := hI.cell cn0
  have cd := hI.cell cd0
  have hr := hI.row hd
  obtain ⟨hF, hk2⟩ := id hI
  subst hF
  obtain ⟨va, vc, rfl, _⟩ := id hr
  have hsm : SmallF (k : Int) (d.length : Int) (n : Int) := ⟨by omega, by omega, by omega, by omega, by omega, by omega⟩
  have hf := fromI_is (i := k) (z := d.length) h3 h16
  have ht := toI_is (i := k) (z := d.length) h3 h16
  have hle : fromN k d.length n + lenN k d.length n ≤ d.length := by unfold fromN lenN; omega
  obtain ⟨a1, s1, s2, s3⟩ := row_sub hr (fromN k d.length n) (lenN k d.length n) hle
  have S1 := hid s1
  have R1 := hid (s2 W hr)
  have A := lbounds_any W k d.length n hsm
  rw [hf, ht] at A
  have O := hid (off_part (S := [w.heap.size]) (v1 := .slice a1 (lenN k d.length n) (vc - fromN k d.length n)) (ys := partL d k n) (off_oldB hd (Nat.le_refl _)) (fun ad n' c' e => by
    injection e with e _ _
    obtain ⟨ad', e', hb⟩ := s3 ad e
    exact ⟨ad', _, _, by rw [e'], hb⟩) (fun hne he => hne (by unfold partL; rw [he]; simp)))
  have II := hid hk2
  have HLE := hid (show (partL d k n).length ≤ 140737488351232 by rw [partL_len]; omega)
  have TK := hid (show partL d k n = (d.drop (fromN k d.length n)).take (lenN k d.length n) from rfl)
  generalize fromN k d.length n = f at *
  generalize lenN k d.length n = m at *
  clear s1 s2 s3 hf ht hr hd hsm hle cz0 cn0 cd0 hI hk2
  simp only [List.push_toArray, List.append_toArray, List.nil_append, List.cons_append]
  go_enter Tryd.func56, Tryd.ntmps56
  go_wp2_with fail
  refine A.mono ?_
  rintro e w' ⟨rfl, rfl⟩
  clear A
  go_wp2_with (first | (refine wpList_is rfl _ _ (exec_sliceK 31 _ _ _ _ _ rfl (S1.out _)) ?_) | fail)
  go_ret
  have RR : RowAt W (.slice a1 m (vc - f)) (partL d k n) := by rw [TK.out]; exact R1.out
  exact .inl ⟨.slice a1 m (vc - f), [], rfl, RR, HLE.out, O.out, Keeps.refl _ _, ⟨rfl, II.out⟩, by simp, id⟩

theorem buildHd (s : Spe) (i n z : Int) (w : World) : (Instr.build 104 #[(0, .agg #[.int .i64 s.c, .int .i64 s.l, .int .i64 s.n]), (1, .int .i64 i), (2, .int .i64 n), (3, .int .i64 z)]).run Tryd.prog w = .ok (hdV13 ⟨s, i, n, z⟩) w := by kernel_rfl
theorem exec_buildHd {ρ : Operand → Value} {o : Oper} {w : World} (x0 x1 x2 x3 : Operand) (ho : o.op = .build 104 #[(0, x0), (1, x1), (2, x2), (3, x3)]) (s : Spe) (i n z : Int) (h0 : ρ x0 = .agg #[.int .i64 s.c, .int .i64 s.l, .int .i64 s.n]) (h1 : ρ x1 = .int .i64 i) (h2 : ρ x2 = .int .i64 n) (h3 : ρ x3 = .int .i64 z) :
    (execOp ρ o).run Tryd.prog w = .ok (.value (hdV13 ⟨s, i, n, z⟩)) w := by
  simp only [execOp, ho, List.map_toArray, List.map_cons, List.map_nil, h0, h1, h2, h3, Sem.run_bind, buildHd, Result.andThen_ok, Sem.run_pure]
/-- A fragment: its head and its bytes. -/
def fragL (s : Spe) (n : Nat) (z : Nat) (ls : List (List Int)) (i : Nat) : List Int := headB13 ⟨s, i, n, z⟩ ++ ls.getD i []
/-- The heads of rows of rows, one by one. -/
theorem RsAt.at {w : World} {v : Value} {ls : List (List Int)} (h : RsAt w v ls) {k : Nat} (hk : k < ls.length) : ∃ g off cap u, v = .slice (some ⟨g, off, none⟩) ls.length cap ∧ w.cell? ⟨g, off + k, none⟩ = some u ∧ RowAt w u (ls.getD k []) ∧ (ls.getD k []).length ≤ 140737488351232 ∧ ls.length ≤ cap := by
  obtain ⟨rs, rfl, hr⟩ := h
  have hl : (raws rs).length = rs.length := by simp [raws]
  rw [hl] at hk ⊢
  obtain ⟨g, off, cap, rfl, hc, hcs⟩ := hr.open (by omega)
  refine ⟨g, off, cap, rs[k].1.1, rfl, hcs k hk, ?_⟩
  have e : (raws rs).getD k [] = rs[k].1.2 := by
    rw [List.getD_eq_getElem?_getD, List.getElem?_eq_getElem (by rw [hl]; exact hk)]
    simp [raws]
  rw [e]
  exact ⟨rs[k].2.1, rs[k].2.2, hc⟩
set_option maxHeartbeats 3200000 in
theorem cutB_any (w : World) (bs bn bz br : Nat) (s : Spe) (n z : Nat) (rv : Value) (ls : List (List Int)) (h16 : n ≤ 16) (hls : ls.length = n) (hfew : ∀ l ∈ ls, l.length ≤ 400) (hfit : ∀ i : Nat, i < n → FitH ⟨s, i, n, z⟩)
    (cs0 : w.rangeAt bs 0 s.cells) (hbs : bs < w.heap.size) (cn0 : w.cell? ⟨bn, 0, none⟩ = some (.int .i64 (n : Int))) (cz0 : w.cell? ⟨bz, 0, none⟩ = some (.int .i64 (z : Int))) (cr0 : w.cell? ⟨br, 0, none⟩ = some rv) (hr0 : RsAt w rv ls)
    (k : Nat) (F : List Nat) (W : World) (hk : k < n) (hI : KI w k F W) (hgt : w.heap.size < W.heap.size) :
    Calls Tryd.prog 59 (#[.int .i64 (k : Int)] ++ #[.pointer (some ⟨bs, 0, none⟩), .pointer (some ⟨bn, 0, none⟩), .pointer (some ⟨bz, 0, none⟩), .pointer (some ⟨br, 0, none⟩)]) W (CPost w.heap.size (KI w) (fragL s n z ls) (fun _ => False) k F W) := by
  have hrW := hI.rs hr0
  obtain ⟨g, off, cap, u, rfl, cu, ru, lu, hcap⟩ := hrW.at (by rw [hls]; exact hk)
  have cn := hid (hI.cell cn0)
  have cz := hid (hI.cell cz0)
  have cr := hid (hI.cell cr0)
  have CS := hid (show W.rangeAt bs 0 s.cells from fun i v hv => hI.cell (cs0 i v hv))
  have CU := hid cu
  have RU := hid ru
  have HF := hid (hfit k hk)
  have FW := hid (hfew (ls.getD k []) (by rw [List.getD_eq_getElem?_getD, List.getElem?_eq_getElem (by omega)]; exact List.getElem_mem _))
  obtain ⟨hF, hk2⟩ := id hI
  subst hF
  have II := hid hk2
  have LS := hid (World.block_lt_of_cell? _ _ cu)
  have LB := hid (show ∀ b i v, W.cell? ⟨b, i, none⟩ = some v → b < W.heap.size from fun b i v h => World.block_lt_of_cell? _ _ h)
  have LBS := hid (Nat.lt_of_lt_of_le hbs hk2.size)
  have SZ := hid hgt
  have HLS := hid hls
  rw [hls] at hcap
  obtain ⟨ua, un, uc, hu⟩ : ∃ a n c, u = .slice a n c := by obtain ⟨a, c, e, _⟩ := ru; exact ⟨a, _, c, e⟩
  subst hu
  rw [hls] at cr
  clear hrW cu ru lu hfit hfew hI hk2 cs0 cn0 cz0 cr0 hr0 hbs hls hgt
  have KD := hid ((Keeps.refl [] W).drew)
  have fS := hid (show ∀ W1, KpS [] W.heap.size W.drew W1 → W1.rangeAt bs 0 s.cells from fun W1 h i v hv => h.cell (by rw [World.cell?_drew]; exact CS.out i v hv) LBS.out (by simp))
  have fC := hid (show ∀ b i v, W.cell? ⟨b, i, none⟩ = some v → ∀ W1, KpS [] W.heap.size W.drew W1 → W1.cell? ⟨b, i, none⟩ = some v from fun b i v hc W1 h => h.cell (by rw [World.cell?_drew]; exact hc) (LB.out _ _ _ hc) (by simp))
  simp only [List.push_toArray, List.append_toArray, List.nil_append, List.cons_append]
  go_enter Tryd.func59, Tryd.ntmps59
  go_wp2_with fail
  refine wp_region_any (by kernel_rfl) (wpAny_of_held (S := KpS [] W.heap.size W.drew) _ _ _ _ ?_)
  change wpAnyH _ _ _ _ _ _ _ _ W.drew
  have s0 : KpS [] W.heap.size W.drew W.drew := KpS.refl _ _ _
  refine held_take (i := 0) (v := .agg #[.int .i64 s.c, .int .i64 s.l, .int .i64 s.n]) rfl (by kernel_rfl) (by kernel_rfl) (by kernel_rfl) (fun _ _ _ h => h) rfl (fun W1 hW1 => exec_load _ _ _ _ rfl rfl (loadSpe W1 bs 0 s (fS.out W1 hW1))) (KpS.refl _ _ _) ?_
  simp only [Act.put, List.setIfInBounds_toArray, List.set_cons_zero, List.set_cons_succ]
  refine held_take (i := 1) (v := .int .i64 (k : Int)) rfl (by kernel_rfl) (by kernel_rfl) (by kernel_rfl) (fun _ _ _ h => h) rfl (fun W1 hW1 => rfl) (KpS.refl _ _ _) ?_
  simp only [Act.put, List.setIfInBounds_toArray, List.set_cons_zero, List.set_cons_succ]
  refine held_take (i := 2) (v := .int .i64 (n : Int)) rfl (by kernel_rfl) (by kernel_rfl) (by kernel_rfl) (fun _ _ _ h => h) rfl (fun W1 hW1 => exec_load _ _ _ _ rfl rfl (run_loadCell W1 _ _ _ (fC.out _ _ _ cn.out W1 hW1) (agg_no _ (by kernel_rfl)))) (KpS.refl _ _ _) ?_
  simp only [Act.put, List.setIfInBounds_toArray, List.set_cons_zero, List.set_cons_succ]
  refine held_take (i := 3) (v := .int .i64 (z : Int)) rfl (by kernel_rfl) (by kernel_rfl) (by kernel_rfl) (fun _ _ _ h => h) rfl (fun W1 hW1 => exec_load _ _ _ _ rfl rfl (run_loadCell W1 _ _ _ (fC.out _ _ _ cz.out W1 hW1) (agg_no _ (by kernel_rfl)))) (KpS.refl _ _ _) ?_
  simp only [Act.put, List.setIfInBounds_toArray, List.set_cons_zero, List.set_cons_succ]
  refine held_take (i := 4) (v := hdV13 ⟨s, k, n, z⟩) rfl (by kernel_rfl) (by kernel_rfl) (by kernel_rfl) (fun _ _ _ h => h) rfl (fun W1 hW1 => exec_buildHd _ _ _ _ rfl s k n z rfl rfl rfl rfl) (KpS.refl _ _ _) ?_
  simp only [Act.put, List.setIfInBounds_toArray, List.set_cons_zero, List.set_cons_succ]
  refine held_take (i := 5) (v := .slice (some ⟨g, off, none⟩) n cap) rfl (by kernel_rfl) (by kernel_rfl) (by kernel_rfl) (fun _ _ _ h => h) rfl (fun W1 hW1 => exec_load _ _ _ _ rfl rfl (run_loadCell W1 _ _ _ (fC.out _ _ _ cr.out W1 hW1) (agg_no _ (by kernel_rfl)))) (KpS.refl _ _ _) ?_
  simp only [Act.put, List.setIfInBounds_toArray, List.set_cons_zero, List.set_cons_succ]
  refine held_take (i := 6) (v := .int .i64 (k : Int)) rfl (by kernel_rfl) (by kernel_rfl) (by kernel_rfl) (fun _ _ _ h => h) rfl (fun W1 hW1 => rfl) (KpS.refl _ _ _) ?_
  simp only [Act.put, List.setIfInBounds_toArray, List.set_cons_zero, List.set_cons_succ]
  refine held_take (i := 7) (v := .pointer (some ⟨g, off + k, none⟩)) rfl (by kernel_rfl) (by kernel_rfl) (by kernel_rfl) (fun _ _ _ h => h) rfl (fun W1 hW1 => by go_simp) (KpS.refl _ _ _) ?_
  simp only [Act.put, List.setIfInBounds_toArray, List.set_cons_zero, List.set_cons_succ]
  refine held_take (i := 8) (v := .slice ua un uc) rfl (by kernel_rfl) (by kernel_rfl) (by kernel_rfl) (fun _ _ _ h => h) rfl (fun W1 hW1 => exec_load _ _ _ _ rfl rfl (run_loadCell W1 _ _ _ (fC.out _ _ _ CU.out W1 hW1) (agg_no _ (by kernel_rfl)))) (KpS.refl _ _ _) ?_
  simp only [Act.put, List.setIfInBounds_toArray, List.set_cons_zero, List.set_cons_succ]
  refine held_do (i := 9) (by kernel_rfl) rfl rfl (wp_enter (f := 60) (args := #[hdV13 ⟨s, k, n, z⟩, .slice ua un uc]) (by go_simp) (lform_any W.drew ⟨s, k, n, z⟩ (.slice ua un uc) (ls.getD k []) HF.out (RU.out.keep KD.out (by intro _ _ _ _ _; simp)) (by have := FW.out; omega)) ?_)
  rintro e w2 ⟨a2, c2, rfl, r2, n2, k2⟩
  have sb : KpS [] W.heap.size W.drew w2 := KpS.keeps s0 k2 (Nat.le_refl _) (by simp)
  refine ⟨_, rfl, sb, ?_⟩
  simp only [Act.put, List.setIfInBounds_toArray, List.set_cons_zero, List.set_cons_succ]
  refine held_take (i := 10) (v := .slice a2 (headB13 ⟨s, k, n, z⟩ ++ ls.getD k []).length c2) rfl (by kernel_rfl) (by kernel_rfl) (by kernel_rfl) (fun _ _ _ h => h) rfl (fun W1 hW1 => exec_asg _ rfl rfl) (sb) ?_
  simp only [Act.put, List.setIfInBounds_toArray, List.set_cons_zero, List.set_cons_succ]
  refine wpAnyH_done (by kernel_rfl) ?_ _
  have hlen : (headB13 ⟨s, k, n, z⟩ ++ ls.getD k []).length ≤ 140737488351232 := by rw [List.length_append, headB13_len]; have := FW.out; omega
  have hk : Keeps [] W w2 := KD.out.trans k2
  have HL := hid hlen
  have HK := hid hk
  have R2 := hid r2
  have N2 := hid n2
  clear s0 sb k2 r2 n2 hlen hk
  go_wp2_with fail
  go_ret
  exact .inl ⟨.slice a2 (headB13 ⟨s, k, n, z⟩ ++ ls.getD k []).length c2, [], rfl, R2.out, HL.out, off_new13 N2.out (fun b hb => by simp at hb; subst hb; exact SZ.out), HK.out, ⟨rfl, II.out.trans (HK.out.mono (by simp))⟩, by simp, id⟩
end Go.Proofs.YtcfmonlgpccndaaDoor


/- A slice of one number; of one row, as single operations. (For every layer.) -/
namespace Go.Proofs.YtcfmonlgpccndaaDoor
open Go.RowKit
set_option maxRecDepth 100000

theorem infoT3 : (Tryd.prog.info? 3).map (fun i => (i.zero, i.size, i.bytes)) = some (some (.int .i64 0), 1, 8) := by kernel_rfl
theorem infoT28 : (Tryd.prog.info? 31).map (fun i => (i.zero, i.size, i.bytes)) = some (some (.slice none 0 0), 1, 24) := by kernel_rfl

theorem exec_oneRow {ρ : Operand → Value} {o : Oper} {w : World} (x : Operand) (a : Option Addr) (n c : Nat) (ho : o.op = .buildSlice 81 1 #[(0, x)]) (hx : ρ x = .slice a n c) :
    (execOp ρ o).run Tryd.prog w = .ok (.value (.slice (some ⟨w.heap.size, 0, none⟩) 1 1)) (w.alloc (.cells #[.slice a n c] 31)) := by
  obtain ⟨ie, hie, hz, hs, _⟩ := info_parts infoT28
  have h : (Instr.buildSlice 81 1 #[(0, .slice a n c)]).run Tryd.prog w = .ok (.slice (some ⟨w.heap.size, 0, none⟩) 1 1) (w.alloc (.cells #[.slice a n c] 31)) := by
    refine run_buildSlice w _ _ 1 _ _ ie _ Tryd.underlying81 hie hz (by rw [hs]; decide) (by rw [hs]; decide) ?_
    rw [hs]
    have e : (Array.range (1 * 1)) = #[0] := rfl
    have e2 : (Value.slice none 0 0).cells = #[.slice none 0 0] := rfl
    have e3 : (Value.slice a n c).cells = #[.slice a n c] := rfl
    simp only [Instr.fill, e, e2, e3]
    simp
  simp only [execOp, ho, List.map_toArray, List.map_cons, List.map_nil, hx, Sem.run_bind, h, Result.andThen_ok, Sem.run_pure]
end Go.Proofs.YtcfmonlgpccndaaDoor
