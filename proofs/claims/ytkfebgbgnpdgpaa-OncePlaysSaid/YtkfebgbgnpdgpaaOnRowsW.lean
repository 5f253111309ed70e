/- The walk of the law OnceRows. -/
import Derived.Test.YtkfebgbgnpdgpaaOnLoadsW
import Derived.OwnWalk
import Derived.Test.YtkfebgbgnpdgpaaOnOnceW
namespace Go.Proofs.Ytkfebgbgnpdgpaa
open Go.RowKit Go.Shelf
set_option maxRecDepth 100000
set_option linter.unusedSimpArgs false

theorem iVRow8 : (Try.prog.info? 60).map (fun i => (i.zero, i.size)) = some (some (.agg #[.int .i64 0, .int .i64 0, .int .i64 0, .slice none 0 0]), 4) := by kernel_rfl
theorem loadVRw {w : World} {b o : Nat} {x0 x1 x2 x3 : Value} (c0 : w.cell? ⟨b, o, none⟩ = some x0) (c1 : w.cell? ⟨b, o + 1, none⟩ = some x1) (c2 : w.cell? ⟨b, o + 2, none⟩ = some x2) (c3 : w.cell? ⟨b, o + 3, none⟩ = some x3) :
    (Instr.loadAt 60 (.pointer (some ⟨b, o, none⟩))).run Try.prog w = .ok (.agg #[x0, x1, x2, x3]) w := load_row [x0, x1, x2, x3] Try.underlying60 rfl iVRow8 (cells4 c0 c1 c2 c3)

theorem arrL_upd (R : Nat → Rw) (k : Nat) (hk : k < 4) (r : Rw) : ((((arrL R).toArray.setIfInBounds (k * 4) (.int .i64 r.c)).setIfInBounds (k * 4 + 1) (.int .i64 r.l)).setIfInBounds (k * 4 + 1 + 1) (.int .i64 r.s)).setIfInBounds (k * 4 + 1 + 1 + 1) r.row = (arrL (updR R k r)).toArray := by
  match k, hk with
  | 0, _ => simp [arrL, Rw.cells, updR]
  | 1, _ => simp [arrL, Rw.cells, updR]
  | 2, _ => simp [arrL, Rw.cells, updR]
  | 3, _ => simp [arrL, Rw.cells, updR]
theorem arrL_at (R : Nat → Rw) (k : Nat) (hk : k < 4) : (arrL R)[k * 4]? = some (.int .i64 (R k).c) ∧ (arrL R)[k * 4 + 1]? = some (.int .i64 (R k).l) ∧ (arrL R)[k * 4 + 2]? = some (.int .i64 (R k).s) ∧ (arrL R)[k * 4 + 3]? = some (R k).row := by
  match k, hk with
  | 0, _ => simp [arrL, Rw.cells]
  | 1, _ => simp [arrL, Rw.cells]
  | 2, _ => simp [arrL, Rw.cells]
  | 3, _ => simp [arrL, Rw.cells]
/-- The last row of each client, as the law keeps it. -/
def LastAt (w : World) (gl : Nat) (L : Nat → Rw) : Prop := w.heap[gl]? = some (.cells (arrL L).toArray 60 (0, 0))
theorem LastAt.cells {w : World} {gl : Nat} {L : Nat → Rw} (h : LastAt w gl L) (k : Nat) (hk : k < 4) : w.cell? ⟨gl, k * 4, none⟩ = some (.int .i64 (L k).c) ∧ w.cell? ⟨gl, k * 4 + 1, none⟩ = some (.int .i64 (L k).l) ∧ w.cell? ⟨gl, k * 4 + 2, none⟩ = some (.int .i64 (L k).s) ∧ w.cell? ⟨gl, k * 4 + 3, none⟩ = some (L k).row := by
  obtain ⟨h0, h1, h2, h3⟩ := arrL_at L k hk
  have hc : ∀ j u, (arrL L)[j]? = some u → w.cell? ⟨gl, j, none⟩ = some u := fun j u hu => by
    rw [cell_of_row _ _ j _ _ (0, 0) h]
    simpa using hu
  exact ⟨hc _ _ h0, hc _ _ h1, hc _ _ h2, hc _ _ h3⟩
theorem LastAt.lt {w : World} {gl : Nat} {L : Nat → Rw} (h : LastAt w gl L) : gl < w.heap.size := lt_of_block h
theorem LastAt.keep {w w' : World} {gl : Nat} {L : Nat → Rw} {S : List Nat} (h : LastAt w gl L) (k : Keeps S w w') (hs : gl ∉ S) : LastAt w' gl L := (k.block gl h.lt hs).trans h
theorem LastAt.later {w w' : World} {gl : Nat} {L : Nat → Rw} (h : LastAt w gl L) (k : Keeps [] w w') : LastAt w' gl L := h.keep k (by simp)
theorem LastAt.there {w : World} {gl : Nat} {L : Nat → Rw} (h : LastAt w gl L) (k : Nat) (hk : k < 4) : w.there gl (k * 4) 4 := fun j hj => by
  have hl : (arrL L).toArray.size = 16 := by simp [arrL, Rw.cells]
  have hh : w.heap[gl]? = some (.cells (arrL L).toArray 60 (0, 0)) := h
  refine ⟨?_, by simp [World.frozen?, hh]⟩
  rw [cell_of_row _ _ _ _ _ (0, 0) h, Array.getElem?_eq_getElem (by omega)]
  rfl
theorem LastAt.put {w : World} {gl : Nat} {L : Nat → Rw} (h : LastAt w gl L) (k : Nat) (hk : k < 4) (r : Rw) : LastAt (w.setCells gl (k * 4) r.cells) gl (updR L k r) ∧ Keeps [gl] w (w.setCells gl (k * 4) r.cells) := by
  refine ⟨?_, Keeps.setCells (Or.inl (by simp)) _ _ (Keeps.refl [gl] w)⟩
  have b1 := heap_setCell_same w gl (k * 4) _ 60 (.int .i64 r.c) h
  have b2 := heap_setCell_same _ gl (k * 4 + 1) _ 60 (.int .i64 r.l) b1
  have b3 := heap_setCell_same _ gl (k * 4 + 1 + 1) _ 60 (.int .i64 r.s) b2
  have b4 := heap_setCell_same _ gl (k * 4 + 1 + 1 + 1) _ 60 r.row b3
  rw [arrL_upd L k hk r] at b4
  exact b4

/-- What the law keeps is what the window knows. -/
def LastOk (W : World) (L : Nat → Rw) (T : Tab) : Prop := ∀ k, k < 4 → match T k with
  | none => (L k).s = 0
  | some (l, s, b) => (L k).c = k ∧ (L k).l = l ∧ (L k).s = s ∧ (L k).bs = b ∧ mayS k l s = true ∧ RowAt W (L k).row (L k).bs ∧ (L k).bs.length ≤ 100
theorem LastOk.put {W : World} {L : Nat → Rw} {T : Tab} (h : LastOk W L T) (k : Nat) (r : Rw) (hc : r.c = k) (hm : mayS k r.l r.s = true) (hr : RowAt W r.row r.bs) (hl : r.bs.length ≤ 100) : LastOk W (updR L k r) (T.put k (r.l, r.s, r.bs)) := fun i hi => by
  unfold Tab.put updR
  by_cases e : i = k
  · subst e
    simp only [if_true]
    exact ⟨hc, trivial, trivial, trivial, hm, hr, hl⟩
  · simp only [e, if_false]
    exact h i hi

theorem refLk_pre {T : Tab} {c : Nat} {e : Int × Int × List Int} (h : T c = some e) : ∀ n, c < n → ∃ tl, refLk T n = refLk T c ++ ((c : Int), e.1, e.2.1, e.2.2) :: tl
  | 0, hn => by omega
  | n + 1, hn => by
    rw [refLk_succ]
    by_cases hc : c = n
    · subst hc
      exact ⟨[], by simp [entryT, h]⟩
    · obtain ⟨tl, ht⟩ := refLk_pre h n (by omega)
      exact ⟨tl ++ (entryT T n).toList, by rw [ht]; simp⟩
theorem refL_get {T : Tab} {c : Nat} {e : Int × Int × List Int} (h : T c = some e) (hc : c < 4) {rs : List Rw} (hr : rs.map Rw.con = refL T) : ∃ hn : (refLk T c).length < rs.length, (rs[(refLk T c).length]'hn).con = ((c : Int), e.1, e.2.1, e.2.2) := by
  obtain ⟨tl, ht⟩ := refLk_pre h 4 hc
  have hlen := congrArg List.length hr
  unfold refL at hlen hr
  rw [ht] at hlen hr
  simp only [List.length_map, List.length_append, List.length_cons] at hlen
  refine ⟨by omega, ?_⟩
  have := congrArg (fun l => l[(refLk T c).length]?) hr
  simp only [List.getElem?_map, List.getElem?_eq_getElem (show (refLk T c).length < rs.length by omega), Option.map_some] at this
  rw [List.getElem?_append_right (Nat.le_refl _)] at this
  simpa using this

theorem rows_kind {T : Tab} {k : Nat} {l s : Int} {b : List Int} (h : T k = some (l, s, b)) (hm : mayS k l s = true) : kindS T k l s = 1 ∧ replyS T k l s = b ∧ lifeS T k = l := by
  have h1 : kindS T k l s = 1 := by simp [kindS, hm, h, kindE]
  obtain ⟨q1, q2, _⟩ := mayS_is.1 hm
  refine ⟨h1, by simp [replyS, h1, h, replyE], ?_⟩
  unfold lifeS
  rw [if_pos ⟨q1, q2⟩]
  simp [h]
def rwZ : Rw := ⟨0, 0, 0, .slice none 0 0, []⟩
theorem exec_make4 {ρ : Operand → Value} {o : Oper} {w : World} (x y : Operand) (ho : o.op = .makeSlice 50 x y) (hx : ρ x = .int .i64 4) (hy : ρ y = .int .i64 4) :
    (execOp ρ o).run Try.prog w = .ok (.value (.slice (some ⟨w.heap.size, 0, none⟩) 4 4)) (w.alloc (.cells (arrL (fun _ => rwZ)).toArray 60)) := by
  obtain ⟨i, hi, hz, hs, hb⟩ := info_parts rtV.inf
  have hr := run_make (P := Try.prog) (w := w) 50 60 i _ Try.underlying50 hi hz .i64 .i64 4 4 (by omega) (by omega) (by rw [hb]; decide) (by omega)
  rw [hs] at hr
  have e : madeCells (Value.agg #[.int .i64 0, .int .i64 0, .int .i64 0, .slice none 0 0]).cells ((4 : Int).toNat * 4) = (arrL (fun _ => rwZ)).toArray := by kernel_rfl
  rw [e] at hr
  simp only [execOp, ho, hx, hy, Sem.run_bind, hr, Result.andThen_ok, Sem.run_pure]
  rfl

set_option maxHeartbeats 12800000 in
theorem j8RowsL_any (W : World) (u : Value) (ls : List Rw) (hx : R4sAt W u ls) : Calls Try.prog 9 #[u] W fun e w' => e = .returned (.bool true) ∧ Keeps [] W w' := by
  obtain ⟨a, ca, rfl, -⟩ := id hx
  have HX := hid hx
  clear hx
  have AW := hid (fun w => j8Awake_any w)
  go_enter Try.func9, Try.ntmps9
  go_wp2_with fail
  refine (AW.out W).mono ?_
  rintro e w1 ⟨rfl, k1⟩
  have K1 := hid k1
  clear k1
  have SL := hid (j8Small_any w1 _ ls (HX.out.keep K1.out))
  go_wp2_with fail
  refine SL.out.mono ?_
  rintro e _ ⟨⟨b1, rfl, hb1⟩, rfl⟩
  cases b1 with
  | false =>
    go_wp2_with fail
    go_ret
    exact ⟨rfl, K1.out⟩
  | true =>
    have LS := hid (hb1 rfl)
    have l1 := LS.out.1
    clear hb1 SL
    go_wp2_with fail
    refine (newF w1 [] (by simp)).mono ?_
    rintro e w2 ⟨p, hp, rfl, h2, k2⟩
    have H2 := hid h2
    have K2 := hid (K1.out.trans k2)
    have HP : Hid (W.heap.size ≤ p) := hid (Nat.le_trans K1.out.size hp)
    clear h2 k2 hp
    go_wp2_with (first | (refine wpList_is rfl _ _ (exec_make4 _ _ rfl rfl rfl) ?_) | fail)
    have ka := (Keeps.refl [] w2).alloc (.cells (arrL (fun _ => rwZ)).toArray 60)
    have lz : LastAt (w2.alloc (.cells (arrL (fun _ => rwZ)).toArray 60)) w2.heap.size (fun _ => rwZ) := heap_alloc_new w2 _
    have hpl := H2.out.lt p (by simp)
    have NE : Hid (p ≠ w2.heap.size ∧ W.heap.size ≤ w2.heap.size) := hid ⟨by omega, K2.out.size⟩
    have HA : Hid (WinF (w2.alloc (.cells (arrL (fun _ => rwZ)).toArray 60)) p [p, w2.heap.size] tab0) := hid (H2.out.grow ka (by simp) (by simp) (by simp) (fun b hb => by
      simp at hb
      rcases hb with rfl | rfl
      · exact Or.inl (by simp)
      · exact Or.inr (Nat.le_refl _)) (fun b hb => by
      simp at hb
      rcases hb with rfl | rfl
      · exact Nat.lt_of_lt_of_le hpl ka.size
      · simp))
    have LZ := hid lz
    have KA := hid (K2.out.trans ka)
    obtain ⟨gl, hgl⟩ : ∃ g, g = w2.heap.size := ⟨_, rfl⟩
    rw [← hgl] at NE HA LZ ⊢
    clear ka lz hpl hgl
    generalize w2.alloc (.cells (arrL (fun _ => rwZ)).toArray 60) = wa at HA LZ KA ⊢
    go_wp2_with fail
    go_loopw [5] (fun iv wr => ∃ (i : Nat) (T : Tab) (L : Nat → Rw), i ≤ ls.length ∧ iv = .int .i64 i ∧ WinF wr p [p, gl] T ∧ LastAt wr gl L ∧ LastOk W L T ∧ Keeps [] W wr) (fun iv _ => ls.length - (intOf iv).toNat)
    case atStart => exact ⟨0, tab0, _, by omega, rfl, HA.out, LZ.out, fun k _ => rfl, KA.out⟩
    case round =>
      obtain ⟨i, T, L, hi, rfl, hw, hla, hlo, kk⟩ := hrel
      have HW := hid hw
      have LA := hid hla
      have LO := hid hlo
      have KK := hid kk
      clear hw hla hlo kk
      by_cases hlt : i < ls.length
      · obtain ⟨g, off, ra, rc, ha, rin⟩ := HX.out.in LS.out.2 i hlt
        subst ha
        obtain ⟨r, hr⟩ : ∃ r, r = ls[i] := ⟨_, rfl⟩
        rw [← hr] at rin
        have RIN := hid rin
        have rW := rin.keep KK.out
        have RR := hid rW.at4
        have D3W := hid rW.d3
        have RROW := hid rW.row
        have GL := hid rW.gl
        have FIT := hid rW.fit
        have ST := hid (fun w => j8Stamp_any w r.c r.l r.s)
        clear rW rin hr
        unfold stV at ST
        by_cases hd : doneA T r.c r.l r.s = 0
        · have HD := hid hd
          obtain ⟨k2, k1, hm⟩ := once_new hd
          have hT : doneT T r.c r.l r.s r.bs = T.put r.c.toNat (r.l, r.s, r.bs) := by simp [doneT, k1, k2]
          have HT := hid hT
          obtain ⟨q1, q2, _⟩ := mayS_is.1 hm
          obtain ⟨k, hk⟩ : ∃ k : Nat, r.c = k := ⟨r.c.toNat, by omega⟩
          have HK := hid hk
          have hk4 : k < 4 := by omega
          have MM := hid hm
          clear k1 k2 hT hd hk q1 q2 hm
          go_wp2_with fail
          refine wp_region_any (by kernel_rfl) (wpAny_of_late (late := [12, 13]) (S := KpS [] wr.heap.size wr.drew) _ _ _ _ ?_)
          change wpAnyT _ _ _ _ _ _ _ _ _ wr.drew
          have D0 : ∀ W1, KpS [] wr.heap.size wr.drew W1 → W1.cell? ⟨g, off + i * 4, none⟩ = some (.int .i64 r.c) := fun W1 h => h.cell (by rw [World.cell?_drew]; exact RR.out.c0) GL.out (by simp)
          have D1 : ∀ W1, KpS [] wr.heap.size wr.drew W1 → W1.cell? ⟨g, off + i * 4 + 1, none⟩ = some (.int .i64 r.l) := fun W1 h => h.cell (by rw [World.cell?_drew]; exact RR.out.c1) GL.out (by simp)
          have D2 : ∀ W1, KpS [] wr.heap.size wr.drew W1 → W1.cell? ⟨g, off + i * 4 + 2, none⟩ = some (.int .i64 r.s) := fun W1 h => h.cell (by rw [World.cell?_drew]; exact RR.out.c2) GL.out (by simp)
          have D3 : ∀ W1, KpS [] wr.heap.size wr.drew W1 → W1.cell? ⟨g, off + i * 4 + 3, none⟩ = some (.slice ra r.bs.length rc) := fun W1 h => h.cell (by rw [World.cell?_drew]; exact D3W.out) GL.out (by simp)
          refine late_take (i := 0) (v := .pointer (some ⟨p, 0, none⟩)) rfl (by kernel_rfl) (by kernel_rfl) (by kernel_rfl) (by kernel_rfl) (by kernel_rfl) (fun _ _ _ h => h) rfl (fun W1 hW1 => rfl) (KpS.refl _ _ _) ?_
          simp only [Act.put, List.setIfInBounds_toArray, List.set_cons_zero, List.set_cons_succ]
          refine late_take (i := 1) (v := .slice (some ⟨g, off, none⟩) ls.length ca) rfl (by kernel_rfl) (by kernel_rfl) (by kernel_rfl) (by kernel_rfl) (by kernel_rfl) (fun _ _ _ h => h) rfl (fun W1 hW1 => rfl) (KpS.refl _ _ _) ?_
          simp only [Act.put, List.setIfInBounds_toArray, List.set_cons_zero, List.set_cons_succ]
          refine late_take (i := 2) (v := .int .i64 i) rfl (by kernel_rfl) (by kernel_rfl) (by kernel_rfl) (by kernel_rfl) (by kernel_rfl) (fun _ _ _ h => h) rfl (fun W1 hW1 => rfl) (KpS.refl _ _ _) ?_
          simp only [Act.put, List.setIfInBounds_toArray, List.set_cons_zero, List.set_cons_succ]
          refine late_take (i := 3) (v := .pointer (some ⟨g, off + i * 4, none⟩)) rfl (by kernel_rfl) (by kernel_rfl) (by kernel_rfl) (by kernel_rfl) (by kernel_rfl) (fun _ _ _ h => h) rfl (fun W1 hW1 => by go_simp) (KpS.refl _ _ _) ?_
          simp only [Act.put, List.setIfInBounds_toArray, List.set_cons_zero, List.set_cons_succ]
          refine late_take (i := 4) (v := .pointer (some ⟨g, off + i * 4, none⟩)) rfl (by kernel_rfl) (by kernel_rfl) (by kernel_rfl) (by kernel_rfl) (by kernel_rfl) (fun _ _ _ h => h) rfl (fun W1 hW1 => by go_simp) (KpS.refl _ _ _) ?_
          simp only [Act.put, List.setIfInBounds_toArray, List.set_cons_zero, List.set_cons_succ]
          refine late_take (i := 5) (v := .agg #[.int .i64 r.c, .int .i64 r.l, .int .i64 r.s]) rfl (by kernel_rfl) (by kernel_rfl) (by kernel_rfl) (by kernel_rfl) (by kernel_rfl) (fun _ _ _ h => h) rfl (fun W1 hW1 => exec_load _ _ _ _ rfl rfl (loadV8 (D0 W1 hW1) (D1 W1 hW1) (D2 W1 hW1))) (KpS.refl _ _ _) ?_
          simp only [Act.put, List.setIfInBounds_toArray, List.set_cons_zero, List.set_cons_succ]
          refine late_take (i := 7) (v := .slice (some ⟨g, off, none⟩) ls.length ca) rfl (by kernel_rfl) (by kernel_rfl) (by kernel_rfl) (by kernel_rfl) (by kernel_rfl) (fun _ _ _ h => h) rfl (fun W1 hW1 => rfl) (KpS.refl _ _ _) ?_
          simp only [Act.put, List.setIfInBounds_toArray, List.set_cons_zero, List.set_cons_succ]
          refine late_take (i := 8) (v := .int .i64 i) rfl (by kernel_rfl) (by kernel_rfl) (by kernel_rfl) (by kernel_rfl) (by kernel_rfl) (fun _ _ _ h => h) rfl (fun W1 hW1 => rfl) (KpS.refl _ _ _) ?_
          simp only [Act.put, List.setIfInBounds_toArray, List.set_cons_zero, List.set_cons_succ]
          refine late_take (i := 9) (v := .pointer (some ⟨g, off + i * 4, none⟩)) rfl (by kernel_rfl) (by kernel_rfl) (by kernel_rfl) (by kernel_rfl) (by kernel_rfl) (fun _ _ _ h => h) rfl (fun W1 hW1 => by go_simp) (KpS.refl _ _ _) ?_
          simp only [Act.put, List.setIfInBounds_toArray, List.set_cons_zero, List.set_cons_succ]
          refine late_take (i := 10) (v := .pointer (some ⟨g, off + i * 4 + 3, none⟩)) rfl (by kernel_rfl) (by kernel_rfl) (by kernel_rfl) (by kernel_rfl) (by kernel_rfl) (fun _ _ _ h => h) rfl (fun W1 hW1 => by go_simp) (KpS.refl _ _ _) ?_
          simp only [Act.put, List.setIfInBounds_toArray, List.set_cons_zero, List.set_cons_succ]
          refine late_take (i := 11) (v := .slice ra r.bs.length rc) rfl (by kernel_rfl) (by kernel_rfl) (by kernel_rfl) (by kernel_rfl) (by kernel_rfl) (fun _ _ _ h => h) rfl (fun W1 hW1 => exec_load _ _ _ _ rfl rfl (run_loadCell W1 _ _ _ (D3 W1 hW1) (agg_no _ (by kernel_rfl)))) (KpS.refl _ _ _) ?_
          simp only [Act.put, List.setIfInBounds_toArray, List.set_cons_zero, List.set_cons_succ]
          refine late_do (i := 6) (by kernel_rfl) rfl rfl (wp_enter (f := 24) (args := #[.agg #[.int .i64 r.c, .int .i64 r.l, .int .i64 r.s]]) (by go_simp) (ST.out wr.drew) ?_)
          rintro e w3 ⟨rfl, k3⟩
          have sC : KpS [] wr.heap.size wr.drew w3 := (KpS.refl _ _ _).keeps k3 (by simp) (by simp)
          refine ⟨_, rfl, Or.inr sC, ?_⟩
          simp only [Act.put, List.setIfInBounds_toArray, List.set_cons_zero, List.set_cons_succ]
          have kD : Keeps [] wr w3 := (Keeps.refl [] wr).drew.trans k3
          have DN := doneF (HW.out.later kD) r.c r.l r.s ra rc _ r.bs rfl (RROW.out.keep kD (by intro _ _ _ _ _; simp)) FIT.out
          rw [HD.out] at DN
          unfold stV at DN
          refine late_do (i := 12) (by kernel_rfl) rfl rfl (wp_enter (f := 21) (args := #[.pointer (some ⟨p, 0, none⟩), .agg #[.int .i64 r.c, .int .i64 r.l, .int .i64 r.s], .slice ra r.bs.length rc]) (by go_simp) (DN) ?_)
          rintro e w4 ⟨rfl, h4, k4⟩
          refine ⟨_, rfl, Or.inl rfl, ?_⟩
          simp only [Act.put, List.setIfInBounds_toArray, List.set_cons_zero, List.set_cons_succ]
          refine late_do (i := 13) (by kernel_rfl) rfl rfl (wp_value (w' := w4) (v := .bool true) (by go_simp) ?_)
          refine ⟨Or.inl rfl, ?_⟩
          simp only [Act.put, List.setIfInBounds_toArray, List.set_cons_zero, List.set_cons_succ]
          refine wpAnyT_done (by kernel_rfl) ?_ _
          have H4 := hid h4
          have K4 : Hid (Keeps [p] wr w4) := hid ((kD.mono (S' := [p]) (by simp)).trans k4)
          clear D0 D1 D2 D3 sC kD h4 k4 DN k3
          have LA4 := hid (LA.out.keep K4.out (by simpa using fun e => NE.out.1 e.symm))
          have KW4 := hid (KK.out.news K4.out (by simpa using HP.out))
          have rV := RIN.out.keep KW4.out
          have e0 := rV.at4.c0
          have e1 := rV.at4.c1
          have e2 := rV.at4.c2
          have e3 := rV.d3
          have gl2 := rV.gl
          rw [HK.out] at e0
          have n1 : decide ((k : Int) < 0) = false := by simp
          have n2 : decide ((4 : Int) ≤ (k : Int)) = false := by simp; omega
          have E0 := hid e0
          clear rV
          go_wp2_with (first | (refine wpList_isW rfl _ _ (exec_load _ _ _ _ rfl rfl (loadI8 E0.out)) ?_) | fail)
          have THR := (LA4.out.later (Keeps.refl [] w4).drew).there k hk4
          have PUT := hid ((LA4.out.later (Keeps.refl [] w4).drew).put k hk4 ⟨k, r.l, r.s, .slice ra r.bs.length rc, r.bs⟩)
          refine wp_region_any (by kernel_rfl) (wpAny_of_late (late := [12]) (S := KpS [] w4.heap.size w4.drew) _ _ _ _ ?_)
          change wpAnyT _ _ _ _ _ _ _ _ _ w4.drew
          have D0 : ∀ W1, KpS [] w4.heap.size w4.drew W1 → W1.cell? ⟨g, off + i * 4, none⟩ = some (.int .i64 k) := fun W1 h => h.cell (by rw [World.cell?_drew]; exact e0) gl2 (by simp)
          have D1 : ∀ W1, KpS [] w4.heap.size w4.drew W1 → W1.cell? ⟨g, off + i * 4 + 1, none⟩ = some (.int .i64 r.l) := fun W1 h => h.cell (by rw [World.cell?_drew]; exact e1) gl2 (by simp)
          have D2 : ∀ W1, KpS [] w4.heap.size w4.drew W1 → W1.cell? ⟨g, off + i * 4 + 2, none⟩ = some (.int .i64 r.s) := fun W1 h => h.cell (by rw [World.cell?_drew]; exact e2) gl2 (by simp)
          have D3 : ∀ W1, KpS [] w4.heap.size w4.drew W1 → W1.cell? ⟨g, off + i * 4 + 3, none⟩ = some (.slice ra r.bs.length rc) := fun W1 h => h.cell (by rw [World.cell?_drew]; exact e3) gl2 (by simp)
          refine late_take (i := 0) (v := .slice (some ⟨gl, 0, none⟩) 4 4) rfl (by kernel_rfl) (by kernel_rfl) (by kernel_rfl) (by kernel_rfl) (by kernel_rfl) (fun _ _ _ h => h) rfl (fun W1 hW1 => rfl) (KpS.refl _ _ _) ?_
          simp only [Act.put, List.setIfInBounds_toArray, List.set_cons_zero, List.set_cons_succ]
          refine late_take (i := 1) (v := .slice (some ⟨g, off, none⟩) ls.length ca) rfl (by kernel_rfl) (by kernel_rfl) (by kernel_rfl) (by kernel_rfl) (by kernel_rfl) (fun _ _ _ h => h) rfl (fun W1 hW1 => rfl) (KpS.refl _ _ _) ?_
          simp only [Act.put, List.setIfInBounds_toArray, List.set_cons_zero, List.set_cons_succ]
          refine late_take (i := 2) (v := .int .i64 i) rfl (by kernel_rfl) (by kernel_rfl) (by kernel_rfl) (by kernel_rfl) (by kernel_rfl) (fun _ _ _ h => h) rfl (fun W1 hW1 => rfl) (KpS.refl _ _ _) ?_
          simp only [Act.put, List.setIfInBounds_toArray, List.set_cons_zero, List.set_cons_succ]
          refine late_take (i := 3) (v := .pointer (some ⟨g, off + i * 4, none⟩)) rfl (by kernel_rfl) (by kernel_rfl) (by kernel_rfl) (by kernel_rfl) (by kernel_rfl) (fun _ _ _ h => h) rfl (fun W1 hW1 => by go_simp) (KpS.refl _ _ _) ?_
          simp only [Act.put, List.setIfInBounds_toArray, List.set_cons_zero, List.set_cons_succ]
          refine late_take (i := 4) (v := .pointer (some ⟨g, off + i * 4, none⟩)) rfl (by kernel_rfl) (by kernel_rfl) (by kernel_rfl) (by kernel_rfl) (by kernel_rfl) (fun _ _ _ h => h) rfl (fun W1 hW1 => by go_simp) (KpS.refl _ _ _) ?_
          simp only [Act.put, List.setIfInBounds_toArray, List.set_cons_zero, List.set_cons_succ]
          refine late_take (i := 5) (v := .pointer (some ⟨g, off + i * 4, none⟩)) rfl (by kernel_rfl) (by kernel_rfl) (by kernel_rfl) (by kernel_rfl) (by kernel_rfl) (fun _ _ _ h => h) rfl (fun W1 hW1 => by go_simp) (KpS.refl _ _ _) ?_
          simp only [Act.put, List.setIfInBounds_toArray, List.set_cons_zero, List.set_cons_succ]
          refine late_take (i := 6) (v := .int .i64 k) rfl (by kernel_rfl) (by kernel_rfl) (by kernel_rfl) (by kernel_rfl) (by kernel_rfl) (fun _ _ _ h => h) rfl (fun W1 hW1 => exec_load _ _ _ _ rfl rfl (run_loadCell W1 _ _ _ (D0 W1 hW1) (agg_no _ (by kernel_rfl)))) (KpS.refl _ _ _) ?_
          simp only [Act.put, List.setIfInBounds_toArray, List.set_cons_zero, List.set_cons_succ]
          refine late_take (i := 7) (v := .slice (some ⟨g, off, none⟩) ls.length ca) rfl (by kernel_rfl) (by kernel_rfl) (by kernel_rfl) (by kernel_rfl) (by kernel_rfl) (fun _ _ _ h => h) rfl (fun W1 hW1 => rfl) (KpS.refl _ _ _) ?_
          simp only [Act.put, List.setIfInBounds_toArray, List.set_cons_zero, List.set_cons_succ]
          refine late_take (i := 8) (v := .int .i64 i) rfl (by kernel_rfl) (by kernel_rfl) (by kernel_rfl) (by kernel_rfl) (by kernel_rfl) (fun _ _ _ h => h) rfl (fun W1 hW1 => rfl) (KpS.refl _ _ _) ?_
          simp only [Act.put, List.setIfInBounds_toArray, List.set_cons_zero, List.set_cons_succ]
          refine late_take (i := 9) (v := .pointer (some ⟨g, off + i * 4, none⟩)) rfl (by kernel_rfl) (by kernel_rfl) (by kernel_rfl) (by kernel_rfl) (by kernel_rfl) (fun _ _ _ h => h) rfl (fun W1 hW1 => by go_simp) (KpS.refl _ _ _) ?_
          simp only [Act.put, List.setIfInBounds_toArray, List.set_cons_zero, List.set_cons_succ]
          refine late_take (i := 10) (v := .agg #[.int .i64 k, .int .i64 r.l, .int .i64 r.s, .slice ra r.bs.length rc]) rfl (by kernel_rfl) (by kernel_rfl) (by kernel_rfl) (by kernel_rfl) (by kernel_rfl) (fun _ _ _ h => h) rfl (fun W1 hW1 => exec_load _ _ _ _ rfl rfl (loadVRw (D0 W1 hW1) (D1 W1 hW1) (D2 W1 hW1) (D3 W1 hW1))) (KpS.refl _ _ _) ?_
          simp only [Act.put, List.setIfInBounds_toArray, List.set_cons_zero, List.set_cons_succ]
          refine late_take (i := 11) (v := .pointer (some ⟨gl, k * 4, none⟩)) rfl (by kernel_rfl) (by kernel_rfl) (by kernel_rfl) (by kernel_rfl) (by kernel_rfl) (fun _ _ _ h => h) rfl (fun W1 hW1 => by go_simp; intro hh; omega) (KpS.refl _ _ _) ?_
          simp only [Act.put, List.setIfInBounds_toArray, List.set_cons_zero, List.set_cons_succ]
          refine late_do (i := 12) (by kernel_rfl) rfl rfl (wp_stored (exec_storeMid 60 _ _ rfl gl (k * 4) #[.int .i64 k, .int .i64 r.l, .int .i64 r.s, .slice ra r.bs.length rc] rfl rfl THR iVRow8 (by simp [Value.oneCell'])) ?_)
          refine ⟨Or.inl rfl, ?_⟩
          simp only [Act.put, List.setIfInBounds_toArray, List.set_cons_zero, List.set_cons_succ]
          refine wpAnyT_done (by kernel_rfl) ?_ _
          clear D0 D1 D2 D3
          simp only [Rw.cells] at PUT
          clear THR e0 e1 e2 e3 gl2
          generalize w4.drew.setCells gl (k * 4) [.int .i64 k, .int .i64 r.l, .int .i64 r.s, .slice ra r.bs.length rc] = w5 at PUT ⊢
          have K5 : Hid (Keeps [gl] w4 w5) := hid (((Keeps.refl [gl] w4).drew).trans PUT.out.2)
          have H5 := hid (H4.out.keep K5.out (by simp) (by simpa using NE.out.1))
          have LO5 : Hid (LastOk W (updR L k ⟨k, r.l, r.s, .slice ra r.bs.length rc, r.bs⟩) (doneT T r.c r.l r.s r.bs)) := hid (by
            rw [HT.out, HK.out, Int.toNat_natCast]
            exact LO.out.put k ⟨k, r.l, r.s, .slice ra r.bs.length rc, r.bs⟩ rfl (by rw [← HK.out]; exact MM.out) RIN.out.row FIT.out)
          go_wp2_with fail
          go_roundw
          case rel => exact ⟨i + 1, _, _, by omega, by go_num, H5.out, PUT.out.1, LO5.out, KW4.out.news K5.out (by simpa using NE.out.2)⟩
          case measure => simp [intOf]; omega
        · have D17 : doneA T r.c r.l r.s = 17 ∧ doneT T r.c r.l r.s r.bs = T := by
            unfold doneA at hd
            split at hd
            · rename_i hk
              exact ⟨by unfold doneA; rw [if_pos hk], by unfold doneT; rw [if_pos hk]⟩
            · exact absurd rfl hd
          have HD := hid D17.1
          have HT := hid D17.2
          clear D17 hd
          go_wp2_with fail
          refine wp_region_any (by kernel_rfl) (wpAny_of_late (late := [12, 13]) (S := KpS [] wr.heap.size wr.drew) _ _ _ _ ?_)
          change wpAnyT _ _ _ _ _ _ _ _ _ wr.drew
          have D0 : ∀ W1, KpS [] wr.heap.size wr.drew W1 → W1.cell? ⟨g, off + i * 4, none⟩ = some (.int .i64 r.c) := fun W1 h => h.cell (by rw [World.cell?_drew]; exact RR.out.c0) GL.out (by simp)
          have D1 : ∀ W1, KpS [] wr.heap.size wr.drew W1 → W1.cell? ⟨g, off + i * 4 + 1, none⟩ = some (.int .i64 r.l) := fun W1 h => h.cell (by rw [World.cell?_drew]; exact RR.out.c1) GL.out (by simp)
          have D2 : ∀ W1, KpS [] wr.heap.size wr.drew W1 → W1.cell? ⟨g, off + i * 4 + 2, none⟩ = some (.int .i64 r.s) := fun W1 h => h.cell (by rw [World.cell?_drew]; exact RR.out.c2) GL.out (by simp)
          have D3 : ∀ W1, KpS [] wr.heap.size wr.drew W1 → W1.cell? ⟨g, off + i * 4 + 3, none⟩ = some (.slice ra r.bs.length rc) := fun W1 h => h.cell (by rw [World.cell?_drew]; exact D3W.out) GL.out (by simp)
          refine late_take (i := 0) (v := .pointer (some ⟨p, 0, none⟩)) rfl (by kernel_rfl) (by kernel_rfl) (by kernel_rfl) (by kernel_rfl) (by kernel_rfl) (fun _ _ _ h => h) rfl (fun W1 hW1 => rfl) (KpS.refl _ _ _) ?_
          simp only [Act.put, List.setIfInBounds_toArray, List.set_cons_zero, List.set_cons_succ]
          refine late_take (i := 1) (v := .slice (some ⟨g, off, none⟩) ls.length ca) rfl (by kernel_rfl) (by kernel_rfl) (by kernel_rfl) (by kernel_rfl) (by kernel_rfl) (fun _ _ _ h => h) rfl (fun W1 hW1 => rfl) (KpS.refl _ _ _) ?_
          simp only [Act.put, List.setIfInBounds_toArray, List.set_cons_zero, List.set_cons_succ]
          refine late_take (i := 2) (v := .int .i64 i) rfl (by kernel_rfl) (by kernel_rfl) (by kernel_rfl) (by kernel_rfl) (by kernel_rfl) (fun _ _ _ h => h) rfl (fun W1 hW1 => rfl) (KpS.refl _ _ _) ?_
          simp only [Act.put, List.setIfInBounds_toArray, List.set_cons_zero, List.set_cons_succ]
          refine late_take (i := 3) (v := .pointer (some ⟨g, off + i * 4, none⟩)) rfl (by kernel_rfl) (by kernel_rfl) (by kernel_rfl) (by kernel_rfl) (by kernel_rfl) (fun _ _ _ h => h) rfl (fun W1 hW1 => by go_simp) (KpS.refl _ _ _) ?_
          simp only [Act.put, List.setIfInBounds_toArray, List.set_cons_zero, List.set_cons_succ]
          refine late_take (i := 4) (v := .pointer (some ⟨g, off + i * 4, none⟩)) rfl (by kernel_rfl) (by kernel_rfl) (by kernel_rfl) (by kernel_rfl) (by kernel_rfl) (fun _ _ _ h => h) rfl (fun W1 hW1 => by go_simp) (KpS.refl _ _ _) ?_
          simp only [Act.put, List.setIfInBounds_toArray, List.set_cons_zero, List.set_cons_succ]
          refine late_take (i := 5) (v := .agg #[.int .i64 r.c, .int .i64 r.l, .int .i64 r.s]) rfl (by kernel_rfl) (by kernel_rfl) (by kernel_rfl) (by kernel_rfl) (by kernel_rfl) (fun _ _ _ h => h) rfl (fun W1 hW1 => exec_load _ _ _ _ rfl rfl (loadV8 (D0 W1 hW1) (D1 W1 hW1) (D2 W1 hW1))) (KpS.refl _ _ _) ?_
          simp only [Act.put, List.setIfInBounds_toArray, List.set_cons_zero, List.set_cons_succ]
          refine late_take (i := 7) (v := .slice (some ⟨g, off, none⟩) ls.length ca) rfl (by kernel_rfl) (by kernel_rfl) (by kernel_rfl) (by kernel_rfl) (by kernel_rfl) (fun _ _ _ h => h) rfl (fun W1 hW1 => rfl) (KpS.refl _ _ _) ?_
          simp only [Act.put, List.setIfInBounds_toArray, List.set_cons_zero, List.set_cons_succ]
          refine late_take (i := 8) (v := .int .i64 i) rfl (by kernel_rfl) (by kernel_rfl) (by kernel_rfl) (by kernel_rfl) (by kernel_rfl) (fun _ _ _ h => h) rfl (fun W1 hW1 => rfl) (KpS.refl _ _ _) ?_
          simp only [Act.put, List.setIfInBounds_toArray, List.set_cons_zero, List.set_cons_succ]
          refine late_take (i := 9) (v := .pointer (some ⟨g, off + i * 4, none⟩)) rfl (by kernel_rfl) (by kernel_rfl) (by kernel_rfl) (by kernel_rfl) (by kernel_rfl) (fun _ _ _ h => h) rfl (fun W1 hW1 => by go_simp) (KpS.refl _ _ _) ?_
          simp only [Act.put, List.setIfInBounds_toArray, List.set_cons_zero, List.set_cons_succ]
          refine late_take (i := 10) (v := .pointer (some ⟨g, off + i * 4 + 3, none⟩)) rfl (by kernel_rfl) (by kernel_rfl) (by kernel_rfl) (by kernel_rfl) (by kernel_rfl) (fun _ _ _ h => h) rfl (fun W1 hW1 => by go_simp) (KpS.refl _ _ _) ?_
          simp only [Act.put, List.setIfInBounds_toArray, List.set_cons_zero, List.set_cons_succ]
          refine late_take (i := 11) (v := .slice ra r.bs.length rc) rfl (by kernel_rfl) (by kernel_rfl) (by kernel_rfl) (by kernel_rfl) (by kernel_rfl) (fun _ _ _ h => h) rfl (fun W1 hW1 => exec_load _ _ _ _ rfl rfl (run_loadCell W1 _ _ _ (D3 W1 hW1) (agg_no _ (by kernel_rfl)))) (KpS.refl _ _ _) ?_
          simp only [Act.put, List.setIfInBounds_toArray, List.set_cons_zero, List.set_cons_succ]
          refine late_do (i := 6) (by kernel_rfl) rfl rfl (wp_enter (f := 24) (args := #[.agg #[.int .i64 r.c, .int .i64 r.l, .int .i64 r.s]]) (by go_simp) (ST.out wr.drew) ?_)
          rintro e w3 ⟨rfl, k3⟩
          have sC : KpS [] wr.heap.size wr.drew w3 := (KpS.refl _ _ _).keeps k3 (by simp) (by simp)
          refine ⟨_, rfl, Or.inr sC, ?_⟩
          simp only [Act.put, List.setIfInBounds_toArray, List.set_cons_zero, List.set_cons_succ]
          have kD : Keeps [] wr w3 := (Keeps.refl [] wr).drew.trans k3
          have DN := doneF (HW.out.later kD) r.c r.l r.s ra rc _ r.bs rfl (RROW.out.keep kD (by intro _ _ _ _ _; simp)) FIT.out
          rw [HD.out] at DN
          unfold stV at DN
          refine late_do (i := 12) (by kernel_rfl) rfl rfl (wp_enter (f := 21) (args := #[.pointer (some ⟨p, 0, none⟩), .agg #[.int .i64 r.c, .int .i64 r.l, .int .i64 r.s], .slice ra r.bs.length rc]) (by go_simp) (DN) ?_)
          rintro e w4 ⟨rfl, h4, k4⟩
          refine ⟨_, rfl, Or.inl rfl, ?_⟩
          simp only [Act.put, List.setIfInBounds_toArray, List.set_cons_zero, List.set_cons_succ]
          refine late_do (i := 13) (by kernel_rfl) rfl rfl (wp_value (w' := w4) (v := .bool false) (by go_simp) ?_)
          refine ⟨Or.inl rfl, ?_⟩
          simp only [Act.put, List.setIfInBounds_toArray, List.set_cons_zero, List.set_cons_succ]
          refine wpAnyT_done (by kernel_rfl) ?_ _
          have H4 := hid h4
          have K4 : Hid (Keeps [p] wr w4) := hid ((kD.mono (S' := [p]) (by simp)).trans k4)
          clear D0 D1 D2 D3 sC kD h4 k4 DN k3
          rw [HT.out] at H4
          go_wp2_with fail
          go_roundw
          case rel => exact ⟨i + 1, T, L, by omega, by go_num, H4.out, LA.out.keep K4.out (by simpa using fun e => NE.out.1 e.symm), LO.out, KK.out.news K4.out (by simpa using HP.out)⟩
          case measure => simp [intOf]; omega
      · obtain rfl : i = ls.length := by omega
        clear hlt
        go_wp2_with fail
        refine (rowsF HW.out).mono ?_
        rintro e w3 ⟨a3, c3, rs, rfl, rs3At, hc3, k3⟩
        have R3 := hid rs3At
        have C3 := hid hc3
        have HW3 := hid (HW.out.later k3)
        have KW3 := hid (KK.out.trans k3)
        have LA3 := hid (LA.out.later k3)
        have F3 : rs.length ≤ 4 := by
          have := congrArg List.length hc3
          have h2 := refLk_length T 4
          simp [refL] at this
          omega
        have LEN : Hid ((refLk T 4).length = rs.length) := hid (by
          have := congrArg List.length hc3
          simpa [refL] using this.symm)
        clear rs3At hc3 k3
        go_wp2_with fail
        refine (j8Model_any w3 [p, gl] HW3.out.lt _ rs R3.out (by omega)).mono ?_
        rintro e w4 ⟨ar, cr, rfl, r4At, k4⟩
        have R4 := hid r4At
        have HW4 := hid (HW3.out.later k4)
        have KW4 := hid (KW3.out.trans k4)
        have LA4 := hid (LA3.out.later k4)
        clear r4At k4 R3 HW3 LA3
        go_wp2_with fail
        go_loopw [7, 8] (fun nv cv wr => ∃ c : Nat, c ≤ 4 ∧ cv = .int .i64 c ∧ nv = .int .i64 (refLk T c).length ∧ WinF wr p [p, gl] T ∧ LastAt wr gl L ∧ RwsAt wr [p, gl] (.slice ar rs.length cr) rs ∧ Keeps [] W wr) (fun _ cv _ => 4 - (intOf cv).toNat)
        case atStart => exact ⟨0, by omega, rfl, rfl, HW4.out, LA4.out, R4.out, KW4.out⟩
        case round =>
          obtain ⟨c, hc, rfl, rfl, hw, hla, hrs, kk⟩ := hrel
          have HW5 := hid hw
          have LA5 := hid hla
          have R5 := hid hrs
          have KK5 := hid kk
          clear hw hla hrs kk
          by_cases hlt : c < 4
          · obtain ⟨e0, e1, e2, e3⟩ := LA5.out.cells c hlt
            have lo := LO.out c hlt
            have RS := hid (refLk_succ T c)
            cases hT : T c with
            | none =>
              rw [hT] at lo
              rw [lo] at e2
              have E2 := hid e2
              have RS2 : Hid (refLk T (c + 1) = refLk T c) := hid (by rw [RS.out]; simp [entryT, hT])
              clear e0 e1 e2 e3 lo hT
              go_wp2_with (first | (refine wpList_isW rfl _ _ (exec_load _ _ _ _ rfl rfl (loadI8 E2.out)) ?_) | fail)
              go_roundw
              case rel => exact ⟨c + 1, by omega, by go_num, by rw [RS2.out], HW5.out, LA5.out, R5.out, KK5.out⟩
              case measure => simp [intOf]; omega
            | some x =>
              obtain ⟨xl, xs, xb⟩ := x
              rw [hT] at lo
              obtain ⟨q1, q2, q3, q4, qm, qr, qf⟩ := lo
              obtain ⟨ra, rc, hrow, -⟩ := id qr
              have r2 := qr.keep KK5.out (by intro _ _ _ _ _; simp)
              have Q1 := hid q1
              have Q2 := hid q2
              have Q3 := hid q3
              have Q4 : Hid ((L c).row = .slice ra xb.length rc) := hid (by rw [hrow, q4])
              rw [q1] at e0
              rw [q2] at e1
              rw [q3] at e2
              rw [hrow, q4] at e3
              rw [hrow, q4] at r2
              rw [q4] at qf
              obtain ⟨hn, hcon⟩ := refL_get hT hlt C3.out
              obtain ⟨gr, fr, har, -, grl, -, d0, d1, d2, d3⟩ := R5.out.at (refLk T c).length hn
              subst har
              have okr := R5.out.ok _ (List.getElem_mem hn)
              obtain ⟨rb, rd, hrow2, -⟩ := okr.row
              have r1 := okr.row
              simp only [Rw.con, Prod.mk.injEq] at hcon
              obtain ⟨p1, p2, p3, p4⟩ := hcon
              rw [p1] at d0
              rw [p2] at d1
              rw [p3] at d2
              rw [hrow2, p4] at d3
              rw [hrow2, p4] at r1
              obtain ⟨kn1, kn2, kn3⟩ := rows_kind hT qm
              have KIND := hid kn1
              have REPL := hid kn2
              have LIFE := hid kn3
              have RS2 : Hid ((refLk T (c + 1)).length = (refLk T c).length + 1) := hid (by rw [RS.out]; simp [entryT, hT])
              have R1 := hid r1
              have R2 := hid r2
              have FIT := hid qf
              have gll := LA5.out.lt
              have hs0 : (xs == 0) = false := by have := (mayS_is.1 qm).2.2.2.2.1; simp; omega
              obtain ⟨nn, hnn⟩ : ∃ n, n = (refLk T c).length := ⟨_, rfl⟩
              rw [← hnn] at d0 d1 d2 d3 hn RS2 ⊢
              have HNN := hid hnn
              have hge : decide ((rs.length : Int) ≤ (nn : Int)) = false := by simp; omega
              have ST := hid (fun w => j8Stamp_any w c xl xs)
              unfold stV at ST
              have E2 := hid e2
              clear q1 q2 q3 q4 qm qr qf hrow p1 p2 p3 p4 hrow2 okr r1 r2 kn1 kn2 kn3 hnn hT
              go_wp2_with (first | (refine wpList_isW rfl _ _ (exec_load _ _ _ _ rfl rfl (loadI8 E2.out)) ?_) | fail)
              refine wp_region_any (by kernel_rfl) (wpAny_of_held (S := KpS [] wr.heap.size wr.drew) _ _ _ _ ?_)
              change wpAnyH _ _ _ _ _ _ _ _ wr.drew
              have D0 : ∀ W1, KpS [] wr.heap.size wr.drew W1 → W1.cell? ⟨gr, fr + nn * 4, none⟩ = some (.int .i64 c) := fun W1 h => h.cell (by rw [World.cell?_drew]; exact d0) grl (by simp)
              have D1 : ∀ W1, KpS [] wr.heap.size wr.drew W1 → W1.cell? ⟨gr, fr + nn * 4 + 1, none⟩ = some (.int .i64 xl) := fun W1 h => h.cell (by rw [World.cell?_drew]; exact d1) grl (by simp)
              have D2 : ∀ W1, KpS [] wr.heap.size wr.drew W1 → W1.cell? ⟨gr, fr + nn * 4 + 2, none⟩ = some (.int .i64 xs) := fun W1 h => h.cell (by rw [World.cell?_drew]; exact d2) grl (by simp)
              have D3 : ∀ W1, KpS [] wr.heap.size wr.drew W1 → W1.cell? ⟨gr, fr + nn * 4 + 3, none⟩ = some (.slice rb xb.length rd) := fun W1 h => h.cell (by rw [World.cell?_drew]; exact d3) grl (by simp)
              have E0 : ∀ W1, KpS [] wr.heap.size wr.drew W1 → W1.cell? ⟨gl, c * 4, none⟩ = some (.int .i64 c) := fun W1 h => h.cell (by rw [World.cell?_drew]; exact e0) gll (by simp)
              have E1 : ∀ W1, KpS [] wr.heap.size wr.drew W1 → W1.cell? ⟨gl, c * 4 + 1, none⟩ = some (.int .i64 xl) := fun W1 h => h.cell (by rw [World.cell?_drew]; exact e1) gll (by simp)
              have E2 : ∀ W1, KpS [] wr.heap.size wr.drew W1 → W1.cell? ⟨gl, c * 4 + 2, none⟩ = some (.int .i64 xs) := fun W1 h => h.cell (by rw [World.cell?_drew]; exact e2) gll (by simp)
              have E3 : ∀ W1, KpS [] wr.heap.size wr.drew W1 → W1.cell? ⟨gl, c * 4 + 3, none⟩ = some (.slice ra xb.length rc) := fun W1 h => h.cell (by rw [World.cell?_drew]; exact e3) gll (by simp)
              refine held_take (i := 0) (v := .int .i64 nn) rfl (by kernel_rfl) (by kernel_rfl) (by kernel_rfl) (fun _ _ _ h => h) rfl (fun W1 hW1 => rfl) (KpS.refl _ _ _) ?_
              simp only [Act.put, List.setIfInBounds_toArray, List.set_cons_zero, List.set_cons_succ]
              refine held_take (i := 1) (v := .slice (some ⟨gr, fr, none⟩) rs.length cr) rfl (by kernel_rfl) (by kernel_rfl) (by kernel_rfl) (fun _ _ _ h => h) rfl (fun W1 hW1 => rfl) (KpS.refl _ _ _) ?_
              simp only [Act.put, List.setIfInBounds_toArray, List.set_cons_zero, List.set_cons_succ]
              refine held_take (i := 2) (v := .int .i64 rs.length) rfl (by kernel_rfl) (by kernel_rfl) (by kernel_rfl) (fun _ _ _ h => h) rfl (fun W1 hW1 => by go_simp) (KpS.refl _ _ _) ?_
              simp only [Act.put, List.setIfInBounds_toArray, List.set_cons_zero, List.set_cons_succ]
              refine held_take (i := 3) (v := .bool false) rfl (by kernel_rfl) (by kernel_rfl) (by kernel_rfl) (fun _ _ _ h => h) rfl (fun W1 hW1 => by go_simp) (KpS.refl _ _ _) ?_
              simp only [Act.put, List.setIfInBounds_toArray, List.set_cons_zero, List.set_cons_succ]
              refine held_take (i := 4) (v := .bool false) rfl (by kernel_rfl) (by kernel_rfl) (by kernel_rfl) (fun _ _ _ h => h) rfl (fun W1 hW1 => by go_simp) (KpS.refl _ _ _) ?_
              simp only [Act.put, List.setIfInBounds_toArray, List.set_cons_zero, List.set_cons_succ]
              refine held_takeW (i := 5) (v := .slice (some ⟨gr, fr, none⟩) rs.length cr) rfl (by kernel_rfl) (by kernel_rfl) (by kernel_rfl) (fun _ _ _ h => h) rfl (fun W1 hW1 => rfl) (KpS.refl _ _ _) ?_
              simp only [Act.put, List.setIfInBounds_toArray, List.set_cons_zero, List.set_cons_succ]
              refine held_takeW (i := 6) (v := .int .i64 nn) rfl (by kernel_rfl) (by kernel_rfl) (by kernel_rfl) (fun _ _ _ h => h) rfl (fun W1 hW1 => rfl) (KpS.refl _ _ _) ?_
              simp only [Act.put, List.setIfInBounds_toArray, List.set_cons_zero, List.set_cons_succ]
              refine held_takeW (i := 7) (v := .pointer (some ⟨gr, fr + nn * 4, none⟩)) rfl (by kernel_rfl) (by kernel_rfl) (by kernel_rfl) (fun _ _ _ h => h) rfl (fun W1 hW1 => by go_simp) (KpS.refl _ _ _) ?_
              simp only [Act.put, List.setIfInBounds_toArray, List.set_cons_zero, List.set_cons_succ]
              refine held_takeW (i := 8) (v := .pointer (some ⟨gr, fr + nn * 4, none⟩)) rfl (by kernel_rfl) (by kernel_rfl) (by kernel_rfl) (fun _ _ _ h => h) rfl (fun W1 hW1 => by go_simp) (KpS.refl _ _ _) ?_
              simp only [Act.put, List.setIfInBounds_toArray, List.set_cons_zero, List.set_cons_succ]
              refine held_takeW (i := 9) (v := .agg #[.int .i64 c, .int .i64 xl, .int .i64 xs]) rfl (by kernel_rfl) (by kernel_rfl) (by kernel_rfl) (fun _ _ _ h => h) rfl (fun W1 hW1 => exec_load _ _ _ _ rfl rfl (loadV8 (D0 W1 hW1) (D1 W1 hW1) (D2 W1 hW1))) (KpS.refl _ _ _) ?_
              simp only [Act.put, List.setIfInBounds_toArray, List.set_cons_zero, List.set_cons_succ]
              refine held_takeW (i := 10) (v := .slice (some ⟨gl, 0, none⟩) 4 4) rfl (by kernel_rfl) (by kernel_rfl) (by kernel_rfl) (fun _ _ _ h => h) rfl (fun W1 hW1 => rfl) (KpS.refl _ _ _) ?_
              simp only [Act.put, List.setIfInBounds_toArray, List.set_cons_zero, List.set_cons_succ]
              refine held_takeW (i := 11) (v := .int .i64 c) rfl (by kernel_rfl) (by kernel_rfl) (by kernel_rfl) (fun _ _ _ h => h) rfl (fun W1 hW1 => rfl) (KpS.refl _ _ _) ?_
              simp only [Act.put, List.setIfInBounds_toArray, List.set_cons_zero, List.set_cons_succ]
              refine held_takeW (i := 12) (v := .pointer (some ⟨gl, c * 4, none⟩)) rfl (by kernel_rfl) (by kernel_rfl) (by kernel_rfl) (fun _ _ _ h => h) rfl (fun W1 hW1 => by go_simp) (KpS.refl _ _ _) ?_
              simp only [Act.put, List.setIfInBounds_toArray, List.set_cons_zero, List.set_cons_succ]
              refine held_takeW (i := 13) (v := .pointer (some ⟨gl, c * 4, none⟩)) rfl (by kernel_rfl) (by kernel_rfl) (by kernel_rfl) (fun _ _ _ h => h) rfl (fun W1 hW1 => by go_simp) (KpS.refl _ _ _) ?_
              simp only [Act.put, List.setIfInBounds_toArray, List.set_cons_zero, List.set_cons_succ]
              refine held_takeW (i := 14) (v := .agg #[.int .i64 c, .int .i64 xl, .int .i64 xs]) rfl (by kernel_rfl) (by kernel_rfl) (by kernel_rfl) (fun _ _ _ h => h) rfl (fun W1 hW1 => exec_load _ _ _ _ rfl rfl (loadV8 (E0 W1 hW1) (E1 W1 hW1) (E2 W1 hW1))) (KpS.refl _ _ _) ?_
              simp only [Act.put, List.setIfInBounds_toArray, List.set_cons_zero, List.set_cons_succ]
              refine held_takeW (i := 15) (v := .bool false) rfl (by kernel_rfl) (by kernel_rfl) (by kernel_rfl) (fun _ _ _ h => h) rfl (fun W1 hW1 => by go_simp) (KpS.refl _ _ _) ?_
              simp only [Act.put, List.setIfInBounds_toArray, List.set_cons_zero, List.set_cons_succ]
              refine held_take (i := 16) (v := .bool false) rfl (by kernel_rfl) (by kernel_rfl) (by kernel_rfl) (fun _ _ _ h => h) rfl (fun W1 hW1 => by go_simp) (KpS.refl _ _ _) ?_
              simp only [Act.put, List.setIfInBounds_toArray, List.set_cons_zero, List.set_cons_succ]
              refine held_take (i := 17) (v := .bool false) rfl (by kernel_rfl) (by kernel_rfl) (by kernel_rfl) (fun _ _ _ h => h) rfl (fun W1 hW1 => by go_simp) (KpS.refl _ _ _) ?_
              simp only [Act.put, List.setIfInBounds_toArray, List.set_cons_zero, List.set_cons_succ]
              refine held_takeW (i := 18) (v := .slice (some ⟨gr, fr, none⟩) rs.length cr) rfl (by kernel_rfl) (by kernel_rfl) (by kernel_rfl) (fun _ _ _ h => h) rfl (fun W1 hW1 => rfl) (KpS.refl _ _ _) ?_
              simp only [Act.put, List.setIfInBounds_toArray, List.set_cons_zero, List.set_cons_succ]
              refine held_takeW (i := 19) (v := .int .i64 nn) rfl (by kernel_rfl) (by kernel_rfl) (by kernel_rfl) (fun _ _ _ h => h) rfl (fun W1 hW1 => rfl) (KpS.refl _ _ _) ?_
              simp only [Act.put, List.setIfInBounds_toArray, List.set_cons_zero, List.set_cons_succ]
              refine held_takeW (i := 20) (v := .pointer (some ⟨gr, fr + nn * 4, none⟩)) rfl (by kernel_rfl) (by kernel_rfl) (by kernel_rfl) (fun _ _ _ h => h) rfl (fun W1 hW1 => by go_simp) (KpS.refl _ _ _) ?_
              simp only [Act.put, List.setIfInBounds_toArray, List.set_cons_zero, List.set_cons_succ]
              refine held_takeW (i := 21) (v := .pointer (some ⟨gr, fr + nn * 4 + 3, none⟩)) rfl (by kernel_rfl) (by kernel_rfl) (by kernel_rfl) (fun _ _ _ h => h) rfl (fun W1 hW1 => by go_simp) (KpS.refl _ _ _) ?_
              simp only [Act.put, List.setIfInBounds_toArray, List.set_cons_zero, List.set_cons_succ]
              refine held_takeW (i := 22) (v := .slice rb xb.length rd) rfl (by kernel_rfl) (by kernel_rfl) (by kernel_rfl) (fun _ _ _ h => h) rfl (fun W1 hW1 => exec_load _ _ _ _ rfl rfl (run_loadCell W1 _ _ _ (D3 W1 hW1) (agg_no _ (by kernel_rfl)))) (KpS.refl _ _ _) ?_
              simp only [Act.put, List.setIfInBounds_toArray, List.set_cons_zero, List.set_cons_succ]
              refine held_takeW (i := 23) (v := .slice (some ⟨gl, 0, none⟩) 4 4) rfl (by kernel_rfl) (by kernel_rfl) (by kernel_rfl) (fun _ _ _ h => h) rfl (fun W1 hW1 => rfl) (KpS.refl _ _ _) ?_
              simp only [Act.put, List.setIfInBounds_toArray, List.set_cons_zero, List.set_cons_succ]
              refine held_takeW (i := 24) (v := .int .i64 c) rfl (by kernel_rfl) (by kernel_rfl) (by kernel_rfl) (fun _ _ _ h => h) rfl (fun W1 hW1 => rfl) (KpS.refl _ _ _) ?_
              simp only [Act.put, List.setIfInBounds_toArray, List.set_cons_zero, List.set_cons_succ]
              refine held_takeW (i := 25) (v := .pointer (some ⟨gl, c * 4, none⟩)) rfl (by kernel_rfl) (by kernel_rfl) (by kernel_rfl) (fun _ _ _ h => h) rfl (fun W1 hW1 => by go_simp) (KpS.refl _ _ _) ?_
              simp only [Act.put, List.setIfInBounds_toArray, List.set_cons_zero, List.set_cons_succ]
              refine held_takeW (i := 26) (v := .pointer (some ⟨gl, c * 4 + 3, none⟩)) rfl (by kernel_rfl) (by kernel_rfl) (by kernel_rfl) (fun _ _ _ h => h) rfl (fun W1 hW1 => by go_simp) (KpS.refl _ _ _) ?_
              simp only [Act.put, List.setIfInBounds_toArray, List.set_cons_zero, List.set_cons_succ]
              refine held_takeW (i := 27) (v := .slice ra xb.length rc) rfl (by kernel_rfl) (by kernel_rfl) (by kernel_rfl) (fun _ _ _ h => h) rfl (fun W1 hW1 => exec_load _ _ _ _ rfl rfl (run_loadCell W1 _ _ _ (E3 W1 hW1) (agg_no _ (by kernel_rfl)))) (KpS.refl _ _ _) ?_
              simp only [Act.put, List.setIfInBounds_toArray, List.set_cons_zero, List.set_cons_succ]
              refine held_doW (i := 28) (by kernel_rfl) rfl rfl (wp_enter (f := 15) (args := #[.slice rb xb.length rd, .slice ra xb.length rc]) (by go_simp) (same_any wr.drew _ _ xb xb (R1.out.keep ((Keeps.refl [] wr).drew) (by intro _ _ _ _ _; simp)) (R2.out.keep ((Keeps.refl [] wr).drew) (by intro _ _ _ _ _; simp)) (by have := FIT.out; omega) (by have := FIT.out; omega)) ?_)
              rintro e w3 ⟨rfl, n3, rfl⟩
              rw [decide_eq_true rfl]
              have sC : KpS [] wr.heap.size wr.drew (wr.drew.drewN n3) := (KpS.refl _ _ _).keeps ((Keeps.refl [] wr.drew).drewN n3) (Nat.le_refl _) (by simp)
              refine ⟨_, rfl, sC, ?_⟩
              simp only [Act.put, List.setIfInBounds_toArray, List.set_cons_zero, List.set_cons_succ]
              refine held_takeW (i := 29) (v := .bool false) rfl (by kernel_rfl) (by kernel_rfl) (by kernel_rfl) (fun _ _ _ h => h) rfl (fun W1 hW1 => by go_simp) (sC) ?_
              simp only [Act.put, List.setIfInBounds_toArray, List.set_cons_zero, List.set_cons_succ]
              refine held_take (i := 30) (v := .bool false) rfl (by kernel_rfl) (by kernel_rfl) (by kernel_rfl) (fun _ _ _ h => h) rfl (fun W1 hW1 => by go_simp) (sC) ?_
              simp only [Act.put, List.setIfInBounds_toArray, List.set_cons_zero, List.set_cons_succ]
              refine wpAnyH_done (by kernel_rfl) ?_ _
              have KX := hid ((Keeps.refl [] wr).drew.drewN n3)
              clear D0 D1 D2 D3 E0 E1 E2 E3 sC d0 d1 d2 d3 e0 e1 e2 e3 grl gll
              generalize wr.drew.drewN n3 = wx at KX ⊢
              have HWX := hid (HW5.out.later KX.out)
              have LAX := hid (LA5.out.later KX.out)
              have RX := hid (R5.out.later KX.out)
              have KWX := hid (KK5.out.trans KX.out)
              have R2X := hid (R2.out.keep KX.out (by intro _ _ _ _ _; simp))
              obtain ⟨x0, x1, x2, x3⟩ := LAX.out.cells c hlt
              rw [Q1.out] at x0
              rw [Q2.out] at x1
              rw [Q3.out] at x2
              rw [Q4.out] at x3
              have X0 := hid x0
              have X1 := hid x1
              have X2 := hid x2
              have X3 := hid x3
              clear x0 x1 x2 x3 LA5 R5 HW5
              go_wp2_with (first | (refine wpList_is rfl _ _ (exec_load _ _ _ _ rfl rfl (loadV8 X0.out X1.out X2.out)) ?_) | (go_at_call 24; refine (ST.out _).mono ?_; rintro e w3 ⟨rfl, k3⟩; have KA := hid k3; have AK := hid (askF (HWX.out.later k3) c xl xs); unfold stV AskPost at AK; rw [KIND.out, REPL.out] at AK; clear k3) | (go_at_call 20; refine AK.out.mono ?_; rintro e wy ⟨ax, nx, rfl, ry, -, kx⟩; have KB := hid (KA.out.trans kx); have RA := hid ry; clear kx ry) | fail)
              have HWY := hid (HWX.out.later KB.out)
              have RB := hid (R2X.out.keep KB.out (by intro _ _ _ _ _; simp))
              have f1 := KB.out.cell' X1.out (by simp)
              have f3 := KB.out.cell' X3.out (by simp)
              have gly := (LAX.out.later KB.out).lt
              refine wp_region_any (by kernel_rfl) (wpAny_of_held (S := KpS [] wy.heap.size wy.drew) _ _ _ _ ?_)
              change wpAnyH _ _ _ _ _ _ _ _ wy.drew
              have E1 : ∀ W1, KpS [] wy.heap.size wy.drew W1 → W1.cell? ⟨gl, c * 4 + 1, none⟩ = some (.int .i64 xl) := fun W1 h => h.cell (by rw [World.cell?_drew]; exact f1) gly (by simp)
              have E3 : ∀ W1, KpS [] wy.heap.size wy.drew W1 → W1.cell? ⟨gl, c * 4 + 3, none⟩ = some (.slice ra xb.length rc) := fun W1 h => h.cell (by rw [World.cell?_drew]; exact f3) gly (by simp)
              refine held_take (i := 0) (v := .int .i64 1) rfl (by kernel_rfl) (by kernel_rfl) (by kernel_rfl) (fun _ _ _ h => h) rfl (fun W1 hW1 => rfl) (KpS.refl _ _ _) ?_
              simp only [Act.put, List.setIfInBounds_toArray, List.set_cons_zero, List.set_cons_succ]
              refine held_take (i := 1) (v := .bool false) rfl (by kernel_rfl) (by kernel_rfl) (by kernel_rfl) (fun _ _ _ h => h) rfl (fun W1 hW1 => by go_simp) (KpS.refl _ _ _) ?_
              simp only [Act.put, List.setIfInBounds_toArray, List.set_cons_zero, List.set_cons_succ]
              refine held_take (i := 2) (v := .bool false) rfl (by kernel_rfl) (by kernel_rfl) (by kernel_rfl) (fun _ _ _ h => h) rfl (fun W1 hW1 => by go_simp) (KpS.refl _ _ _) ?_
              simp only [Act.put, List.setIfInBounds_toArray, List.set_cons_zero, List.set_cons_succ]
              refine held_takeW (i := 3) (v := .slice ax xb.length nx) rfl (by kernel_rfl) (by kernel_rfl) (by kernel_rfl) (fun _ _ _ h => h) rfl (fun W1 hW1 => rfl) (KpS.refl _ _ _) ?_
              simp only [Act.put, List.setIfInBounds_toArray, List.set_cons_zero, List.set_cons_succ]
              refine held_takeW (i := 4) (v := .slice (some ⟨gl, 0, none⟩) 4 4) rfl (by kernel_rfl) (by kernel_rfl) (by kernel_rfl) (fun _ _ _ h => h) rfl (fun W1 hW1 => rfl) (KpS.refl _ _ _) ?_
              simp only [Act.put, List.setIfInBounds_toArray, List.set_cons_zero, List.set_cons_succ]
              refine held_takeW (i := 5) (v := .int .i64 c) rfl (by kernel_rfl) (by kernel_rfl) (by kernel_rfl) (fun _ _ _ h => h) rfl (fun W1 hW1 => rfl) (KpS.refl _ _ _) ?_
              simp only [Act.put, List.setIfInBounds_toArray, List.set_cons_zero, List.set_cons_succ]
              refine held_takeW (i := 6) (v := .pointer (some ⟨gl, c * 4, none⟩)) rfl (by kernel_rfl) (by kernel_rfl) (by kernel_rfl) (fun _ _ _ h => h) rfl (fun W1 hW1 => by go_simp) (KpS.refl _ _ _) ?_
              simp only [Act.put, List.setIfInBounds_toArray, List.set_cons_zero, List.set_cons_succ]
              refine held_takeW (i := 7) (v := .pointer (some ⟨gl, c * 4 + 3, none⟩)) rfl (by kernel_rfl) (by kernel_rfl) (by kernel_rfl) (fun _ _ _ h => h) rfl (fun W1 hW1 => by go_simp) (KpS.refl _ _ _) ?_
              simp only [Act.put, List.setIfInBounds_toArray, List.set_cons_zero, List.set_cons_succ]
              refine held_takeW (i := 8) (v := .slice ra xb.length rc) rfl (by kernel_rfl) (by kernel_rfl) (by kernel_rfl) (fun _ _ _ h => h) rfl (fun W1 hW1 => exec_load _ _ _ _ rfl rfl (run_loadCell W1 _ _ _ (E3 W1 hW1) (agg_no _ (by kernel_rfl)))) (KpS.refl _ _ _) ?_
              simp only [Act.put, List.setIfInBounds_toArray, List.set_cons_zero, List.set_cons_succ]
              refine held_doW (i := 9) (by kernel_rfl) rfl rfl (wp_enter (f := 15) (args := #[.slice ax xb.length nx, .slice ra xb.length rc]) (by go_simp) (same_any wy.drew _ _ xb xb (RA.out.keep ((Keeps.refl [] wy).drew) (by intro _ _ _ _ _; simp)) (RB.out.keep ((Keeps.refl [] wy).drew) (by intro _ _ _ _ _; simp)) (by have := FIT.out; omega) (by have := FIT.out; omega)) ?_)
              rintro e w3 ⟨rfl, n4, rfl⟩
              rw [decide_eq_true rfl]
              have sC : KpS [] wy.heap.size wy.drew (wy.drew.drewN n4) := (KpS.refl _ _ _).keeps ((Keeps.refl [] wy.drew).drewN n4) (Nat.le_refl _) (by simp)
              refine ⟨_, rfl, sC, ?_⟩
              simp only [Act.put, List.setIfInBounds_toArray, List.set_cons_zero, List.set_cons_succ]
              refine held_takeW (i := 10) (v := .bool false) rfl (by kernel_rfl) (by kernel_rfl) (by kernel_rfl) (fun _ _ _ h => h) rfl (fun W1 hW1 => by go_simp) (sC) ?_
              simp only [Act.put, List.setIfInBounds_toArray, List.set_cons_zero, List.set_cons_succ]
              refine held_take (i := 11) (v := .bool false) rfl (by kernel_rfl) (by kernel_rfl) (by kernel_rfl) (fun _ _ _ h => h) rfl (fun W1 hW1 => by go_simp) (sC) ?_
              simp only [Act.put, List.setIfInBounds_toArray, List.set_cons_zero, List.set_cons_succ]
              refine held_take (i := 12) (v := .bool false) rfl (by kernel_rfl) (by kernel_rfl) (by kernel_rfl) (fun _ _ _ h => h) rfl (fun W1 hW1 => by go_simp) (sC) ?_
              simp only [Act.put, List.setIfInBounds_toArray, List.set_cons_zero, List.set_cons_succ]
              refine held_takeW (i := 13) (v := .pointer (some ⟨p, 0, none⟩)) rfl (by kernel_rfl) (by kernel_rfl) (by kernel_rfl) (fun _ _ _ h => h) rfl (fun W1 hW1 => rfl) (sC) ?_
              simp only [Act.put, List.setIfInBounds_toArray, List.set_cons_zero, List.set_cons_succ]
              refine held_takeW (i := 14) (v := .int .i64 c) rfl (by kernel_rfl) (by kernel_rfl) (by kernel_rfl) (fun _ _ _ h => h) rfl (fun W1 hW1 => rfl) (sC) ?_
              simp only [Act.put, List.setIfInBounds_toArray, List.set_cons_zero, List.set_cons_succ]
              refine held_takeW (i := 16) (v := .slice (some ⟨gl, 0, none⟩) 4 4) rfl (by kernel_rfl) (by kernel_rfl) (by kernel_rfl) (fun _ _ _ h => h) rfl (fun W1 hW1 => rfl) (sC) ?_
              simp only [Act.put, List.setIfInBounds_toArray, List.set_cons_zero, List.set_cons_succ]
              refine held_takeW (i := 17) (v := .int .i64 c) rfl (by kernel_rfl) (by kernel_rfl) (by kernel_rfl) (fun _ _ _ h => h) rfl (fun W1 hW1 => rfl) (sC) ?_
              simp only [Act.put, List.setIfInBounds_toArray, List.set_cons_zero, List.set_cons_succ]
              refine held_takeW (i := 18) (v := .pointer (some ⟨gl, c * 4, none⟩)) rfl (by kernel_rfl) (by kernel_rfl) (by kernel_rfl) (fun _ _ _ h => h) rfl (fun W1 hW1 => by go_simp) (sC) ?_
              simp only [Act.put, List.setIfInBounds_toArray, List.set_cons_zero, List.set_cons_succ]
              refine held_takeW (i := 19) (v := .pointer (some ⟨gl, c * 4, none⟩)) rfl (by kernel_rfl) (by kernel_rfl) (by kernel_rfl) (fun _ _ _ h => h) rfl (fun W1 hW1 => by go_simp) (sC) ?_
              simp only [Act.put, List.setIfInBounds_toArray, List.set_cons_zero, List.set_cons_succ]
              refine held_takeW (i := 20) (v := .pointer (some ⟨gl, c * 4 + 1, none⟩)) rfl (by kernel_rfl) (by kernel_rfl) (by kernel_rfl) (fun _ _ _ h => h) rfl (fun W1 hW1 => by go_simp) (sC) ?_
              simp only [Act.put, List.setIfInBounds_toArray, List.set_cons_zero, List.set_cons_succ]
              refine held_takeW (i := 21) (v := .int .i64 xl) rfl (by kernel_rfl) (by kernel_rfl) (by kernel_rfl) (fun _ _ _ h => h) rfl (fun W1 hW1 => exec_load _ _ _ _ rfl rfl (run_loadCell W1 _ _ _ (E1 W1 hW1) (agg_no _ (by kernel_rfl)))) (sC) ?_
              simp only [Act.put, List.setIfInBounds_toArray, List.set_cons_zero, List.set_cons_succ]
              have kY : Keeps [] wy (wy.drew.drewN n4) := (Keeps.refl [] wy).drew.drewN n4
              refine held_doW (i := 15) (by kernel_rfl) rfl rfl (wp_enter (f := 22) (args := #[.pointer (some ⟨p, 0, none⟩), .int .i64 c]) (by go_simp) (lifeF (HWY.out.later kY) c) ?_)
              rintro e w5 ⟨rfl, rfl⟩
              refine ⟨_, rfl, sC, ?_⟩
              simp only [Act.put, List.setIfInBounds_toArray, List.set_cons_zero, List.set_cons_succ]
              rw [LIFE.out]
              refine held_takeW (i := 22) (v := .bool false) rfl (by kernel_rfl) (by kernel_rfl) (by kernel_rfl) (fun _ _ _ h => h) rfl (fun W1 hW1 => by go_simp) (sC) ?_
              simp only [Act.put, List.setIfInBounds_toArray, List.set_cons_zero, List.set_cons_succ]
              refine held_take (i := 23) (v := .bool false) rfl (by kernel_rfl) (by kernel_rfl) (by kernel_rfl) (fun _ _ _ h => h) rfl (fun W1 hW1 => by go_simp) (sC) ?_
              simp only [Act.put, List.setIfInBounds_toArray, List.set_cons_zero, List.set_cons_succ]
              refine wpAnyH_done (by kernel_rfl) ?_ _
              have KY := hid kY
              clear E1 E3 sC kY f1 f3 gly
              generalize wy.drew.drewN n4 = wz at KY ⊢
              go_wp2_with fail
              go_roundw
              case rel => exact ⟨c + 1, by omega, by go_num, by rw [RS2.out, HNN.out]; go_num, HWY.out.later KY.out, (LAX.out.later KB.out).later KY.out, (RX.out.later KB.out).later KY.out, (KWX.out.trans KB.out).trans KY.out⟩
              case measure => simp [intOf]; omega
          · obtain rfl : c = 4 := by omega
            rw [LEN.out]
            go_wp2_with fail
            go_ret
            exact ⟨rfl, KK5.out⟩
end Go.Proofs.Ytkfebgbgnpdgpaa
