/- LyN, LyEq. -/
import Derived.Test.YtcfmonlgpccndaaDoorPkG17
import Derived.Test.YtcfmonlgpccndaaDoorPkG10
import Derived.Laws.StructEq
/- layout: Cut. -/
namespace Go.Proofs.YtcfmonlgpccndaaDoor
open Go.RowKit Go.Shelf
set_option maxRecDepth 100000
set_option linter.unusedSimpArgs false
set_option linter.unusedVariables false

/-- All fragments of a stripe. -/
def fragsL (s : Spe) (d : List Int) (n : Nat) : List (List Int) := (List.range n).map (fragL s n d.length (rowsL d n))
/-- What Cut answers. -/
def cutL (s : Spe) (d : List Int) (n : Int) : List (List Int) × Int :=
  if maySv n = true ∧ mayE s = true then (if 400 * (n - 1) < d.length then ([], 3) else (fragsL s d n.toNat, 0)) else ([], 1)
theorem fragsL_len (s : Spe) (d : List Int) (n : Nat) : (fragsL s d n).length = n := by simp [fragsL]
def CutPost (w : World) (r : List (List Int) × Int) (e : Ending) (w' : World) : Prop :=
  Keeps [] w w' ∧ ((r.2 ≠ 0 ∧ r.1 = [] ∧ e = .returned (.tuple #[.slice none 0 0, .int .i64 r.2])) ∨
    (r.2 = 0 ∧ ∃ g vs, e = .returned (.tuple #[.slice (some ⟨g, 0, none⟩) r.1.length r.1.length, .int .i64 0]) ∧ w'.heap[g]? = some (.cells vs.toArray 31 (0, 0)) ∧ HeadsAt w' g [] vs r.1 ∧ w.heap.size ≤ g))
/-- Heads that the call owns. -/
theorem rs_own {w : World} {B n : Nat} {v : Value} {vs : List Value} {ls : List (List Int)} (ho : w.ownsRow B 31 1 v n vs) (hn : vs.length = n) (hl : ls.length = n) (hr : ∀ j (h : j < vs.length), RowAt w vs[j] (ls.getD j [])) (hf : ∀ l ∈ ls, l.length ≤ 140737488351232) : RsAt w v ls := by
  obtain ⟨rs', e⟩ := els_of (w := w) (vs.zip ls) (fun r hr' => by
    obtain ⟨i, hi, rfl⟩ := List.getElem_of_mem hr'
    rw [List.getElem_zip]
    have h1 : i < vs.length := by rw [List.length_zip] at hi; omega
    have h2 : i < ls.length := by omega
    have hr := hr i h1
    rw [List.getD_eq_getElem?_getD, List.getElem?_eq_getElem h2] at hr
    exact ⟨hr, hf _ (List.getElem_mem h2)⟩)
  have e1 : rs'.map (fun r => r.1.1) = (rs'.map (fun r => r.1)).map Prod.fst := by rw [List.map_map]; rfl
  have e2 : raws rs' = (rs'.map (fun r => r.1)).map Prod.snd := by unfold raws; rw [List.map_map]; rfl
  rw [e, List.map_fst_zip (by omega)] at e1
  rw [e, List.map_snd_zip (by omega)] at e2
  refine ⟨rs', e2, ?_⟩
  rw [← e1] at ho
  obtain ⟨a, c, rfl⟩ := ownsRow_slice ho
  exact rows_of_own ho
/-- append onto heads that have no room: a new row. -/
theorem append_full (w : World) (g n : Nat) (vs : List Value) (a : Option Addr) (k c : Nat) (ty : TypeId) (b : Nat) (hb : w.heap[g]? = some (.cells vs.toArray 31 (0, 0))) (hn : vs.length = n) (hm : n ≤ 1000)
    (hx : w.cell? ⟨b, 0, none⟩ = some (.slice a k c)) :
    ∃ yc w', (Builtin.append_ #[81, 81] ty #[.slice (some ⟨g, 0, none⟩) n n, .slice (some ⟨b, 0, none⟩) 1 1]).run Tryd.prog w = .ok (.slice (some ⟨w.heap.size, 0, none⟩) (n + 1) yc) w' ∧
      w'.ownsRow w.heap.size 31 1 (.slice (some ⟨w.heap.size, 0, none⟩) (n + 1) yc) (n + 1) (vs ++ [.slice a k c]) ∧ Keeps [] w w' := by
  obtain ⟨i0, hi, hz0, hz1, hz2⟩ := info_parts info25
  have own := heads_own (B := 0) hb hn (Nat.zero_le _) (by unfold maxLen; omega)
  have hcell : ∀ ad, some (⟨b, 0, none⟩ : Addr) = some ad → ∀ j u, ([.slice a k c] : List Value)[j]? = some u → w.cell? (ad.add j) = some u := by
    rintro ad had j u hu
    obtain rfl := Option.some.inj had
    rw [Addr.add_lit]
    match j, hu with
    | 0, hu => simp at hu; subst hu; exact hx
  obtain ⟨ya, yc, w', hrun, ho, hg⟩ := run_append_src (P := Tryd.prog) w 0 81 ty 31 i0 (.slice none 0 0) 24 Tryd.underlying81 hi hz0 hz1 hz2 rfl (.slice (some ⟨g, 0, none⟩) n n) n vs own (some ⟨b, 0, none⟩) 1 1 [.slice a k c] rfl (by simp) (Nat.le_refl _)
    hcell (by simp [Value.oneCell']) (by unfold maxLen; omega) (by omega) (Nat.zero_le _)
  have hr2 := run_append_grow (P := Tryd.prog) w 81 ty 31 i0 (.slice none 0 0) Tryd.underlying81 hi hz0 ⟨g, 0, none⟩ n n vs (by rw [hz1]; omega) (own.cells (g := g) rfl) ⟨b, 0, none⟩ 1 1 [.slice a k c] (by rw [hz1]; rfl) (hcell _ rfl) (by omega) (by omega) (growslice_fits (by omega) (by rw [hz2]; omega))
  rw [hrun] at hr2
  injection hr2 with e1 e2
  injection e1 with e1 _ e3
  subst e1
  refine ⟨yc, w', hrun, ⟨ho.1, ?_⟩, ?_⟩
  · rcases ho.2 with ⟨h', _⟩ | ⟨g', cap, cur, h', _, rest⟩
    · simp at h'
    · injection h' with q1 q2 q3
      injection q1 with q1
      injection q1 with q1
      subst q1; subst q3
      exact Or.inr ⟨_, yc, cur, rfl, Nat.le_refl _, rest⟩
  · rw [e2]
    exact ((Keeps.refl [] w).drew).alloc _
theorem RsAt.xor {w : World} {v : Value} {ls : List (List Int)} (h : RsAt w v ls) (hl : ls.length ≤ 1099511627776) : Calls Tryd.prog 58 #[v] w (RowPost w (xorL ls)) := by
  obtain ⟨rs, rfl, hr⟩ := h
  exact xor_any w v rs hr (by simpa [raws] using hl)
theorem enters_cutA : Enters Tryd.prog 56 := enters_of Tryd.func56 (by kernel_rfl) rfl
theorem enters_cutB : Enters Tryd.prog 59 := enters_of Tryd.func59 (by kernel_rfl) rfl
theorem cut_no {w w' : World} {s : Spe} {d : List Int} {n : Int} {r : List (List Int) × Int} (hr : r = cutL s d n) (h : maySv n = false ∨ mayE s = false) (k : Keeps [] w w') : CutPost w r (.returned (.tuple #[.slice none 0 0, .int .i64 1])) w' := by
  subst hr
  unfold cutL
  rw [if_neg (by rcases h with h | h <;> rw [h] <;> simp)]
  exact ⟨k, .inl ⟨by decide, rfl, rfl⟩⟩
set_option maxHeartbeats 25600000 in
theorem lCut_any (w : World) (s : Spe) (v : Value) (d : List Int) (n : Int) (hd : RowAt w v d) (hl : d.length ≤ 140737488351232) :
    Calls Tryd.prog 39 #[.agg #[.int .i64 s.c, .int .i64 s.l, .int .i64 s.n], v, .int .i64 n] w (CutPost w (cutL s d n)) := by
  obtain ⟨va, vc, rfl, _⟩ := id hd
  obtain ⟨r, hr⟩ : ∃ r, r = cutL s d n := ⟨_, rfl⟩
  rw [← hr]
  have HR := hid hr
  have HL := hid hl
  clear hr hl
  obtain ⟨w3, hw3⟩ : ∃ x, x = ((w.alloc (.cells #[.int .i64 s.c, .int .i64 s.l, .int .i64 s.n] 29)).alloc (.cells #[.slice va d.length vc] 31)).alloc (.cells #[.int .i64 n] 3) := ⟨_, rfl⟩
  have HW3 := hid hw3
  have k1 : Keeps [] w (w.alloc (.cells #[.int .i64 s.c, .int .i64 s.l, .int .i64 s.n] 29)) := (Keeps.refl [] w).alloc _
  have k3 : Keeps [] w w3 := by rw [hw3]; exact (k1.alloc _).alloc _
  have B0 : w3.heap[w.heap.size]? = some (.cells #[.int .i64 s.c, .int .i64 s.l, .int .i64 s.n] 29 (0, 0)) := by
    rw [hw3]
    exact ((((Keeps.refl [] _).alloc _).alloc _).block w.heap.size (by simp) (by simp)).trans (heap_alloc_new w _)
  have B1 : w3.heap[w.heap.size + 1]? = some (.cells #[.slice va d.length vc] 31 (0, 0)) := by
    rw [hw3]
    have := heap_alloc_new (w.alloc (.cells #[.int .i64 s.c, .int .i64 s.l, .int .i64 s.n] 29)) (.cells #[.slice va d.length vc] 31)
    rw [World.size_alloc] at this
    exact (((Keeps.refl [] _).alloc _).block (w.heap.size + 1) (by simp) (by simp)).trans this
  have B2 : w3.heap[w.heap.size + 2]? = some (.cells #[.int .i64 n] 3 (0, 0)) := by
    rw [hw3]
    have := heap_alloc_new ((w.alloc (.cells #[.int .i64 s.c, .int .i64 s.l, .int .i64 s.n] 29)).alloc (.cells #[.slice va d.length vc] 31)) (.cells #[.int .i64 n] 3)
    rw [World.size_alloc, World.size_alloc] at this
    exact this
  have S3 := hid (show w3.heap.size = w.heap.size + 3 by rw [hw3]; simp)
  have K3 := hid k3
  have D3 := hid (hd.keep k3 (by intro _ _ _ _ _; simp))
  have C0 := hid B0
  have C1 := hid B1
  have C2 := hid B2
  have RS := hid (range_cells (cs := s.cells) B0)
  clear hw3 k1 k3 B0 B1 B2 hd
  cases hm : maySv n with
  | false =>
    have HM := hid hm
    clear hm
    go_enter Tryd.func39, Tryd.ntmps39
    go_wp2_with fail
    rw [← HW3.out]
    refine (lserve_as _ n false HM.out).mono ?_
    rintro e w' ⟨rfl, rfl⟩
    go_wp2_with fail
    go_ret2
    exact cut_no HR.out (.inl HM.out) K3.out
  | true =>
    have HM := hid hm
    obtain ⟨n3, n16⟩ := maySv_is.1 hm
    clear hm
    cases he : mayE s with
    | false =>
      have HE := hid he
      clear he
      go_enter Tryd.func39, Tryd.ntmps39
      go_wp2_with fail
      rw [← HW3.out]
      refine (lserve_as _ n true HM.out).mono ?_
      rintro e w' ⟨rfl, rfl⟩
      go_wp2_with (first | (refine wpList_isW rfl _ _ (exec_load _ _ _ _ rfl rfl (loadSpe _ w.heap.size 0 s RS.out)) ?_) | fail)
      refine (lbe_as _ s false HE.out).mono ?_
      rintro e w4 ⟨rfl, k4⟩
      have K4 := hid (K3.out.trans k4)
      clear k4
      go_wp2_with fail
      go_ret2
      exact cut_no HR.out (.inr HE.out) K4.out
    | true =>
      have HE := hid he
      clear he
      obtain ⟨m, rfl⟩ := Int.eq_ofNat_of_zero_le (show 0 ≤ n by omega)
      have n3' : 3 ≤ m := by omega
      have n16' : m ≤ 16 := by omega
      clear n3 n16
      go_enter Tryd.func39, Tryd.ntmps39
      go_wp2_with fail
      rw [← HW3.out]
      refine (lserve_as _ m true HM.out).mono ?_
      rintro e w' ⟨rfl, rfl⟩
      go_wp2_with (first | (refine wpList_isW rfl _ _ (exec_load _ _ _ _ rfl rfl (loadSpe _ w.heap.size 0 s RS.out)) ?_) | fail)
      refine (lbe_as _ s true HE.out).mono ?_
      rintro e w4 ⟨rfl, k4⟩
      have K4 := hid (K3.out.trans k4)
      have S4 := hid (show w.heap.size + 3 ≤ w4.heap.size by have := k4.size; have := S3.out; omega)
      have A0 := hid ((k4.block w.heap.size (by have := S3.out; omega) (by simp)).trans C0.out)
      have A1 := hid ((k4.block (w.heap.size + 1) (by have := S3.out; omega) (by simp)).trans C1.out)
      have A2 := hid ((k4.block (w.heap.size + 2) (by have := S3.out; omega) (by simp)).trans C2.out)
      have D4 := hid (D3.out.keep k4 (by intro _ _ _ _ _; simp))
      have c1 := (five_cells A1.out 0).1
      simp only [List.getElem?_toArray, List.getElem?_cons_zero] at c1
      clear k4
      -- the size's box
      have k5 : Keeps [] w4 (w4.alloc (.cells #[.int .i64 (d.length : Int)] 3)) := (Keeps.refl [] w4).alloc _
      have K5 := hid (K4.out.trans k5)
      have E0 := hid ((k5.block w.heap.size (by have := S4.out; omega) (by simp)).trans A0.out)
      have E1 := hid ((k5.block (w.heap.size + 1) (by have := S4.out; omega) (by simp)).trans A1.out)
      have E2 := hid ((k5.block (w.heap.size + 2) (by have := S4.out; omega) (by simp)).trans A2.out)
      have E3 := hid (heap_alloc_new w4 (.cells #[.int .i64 (d.length : Int)] 3))
      have D5 := hid (D4.out.keep k5 (by intro _ _ _ _ _; simp))
      obtain ⟨w5, hw5⟩ : ∃ x, x = w4.alloc (.cells #[.int .i64 (d.length : Int)] 3) := ⟨_, rfl⟩
      rw [← hw5] at K5 E0 E1 E2 E3 D5
      have HW5 := hid hw5
      obtain ⟨b3, hb3⟩ : ∃ b, b = w4.heap.size := ⟨_, rfl⟩
      rw [← hb3] at E3
      have S5 := hid (show w.heap.size + 3 ≤ b3 ∧ b3 < w5.heap.size by rw [hb3, hw5]; have := S4.out; simp; omega)
      have HB3 := hid hb3
      clear k5 hw5 hb3
      go_wp2_with fail
      clear c1
      rw [← HW5.out]
      try rw [← HB3.out]
      have c2 := (five_cells E2.out 0).1
      have c3 := (five_cells E3.out 0).1
      simp only [List.getElem?_toArray, List.getElem?_cons_zero] at c2 c3
      go_quiet ((go_at_call 54; exact Calls.quiet_of_same ((lmost_as _ m (by omega) (by omega)).mono fun e w' ⟨h, k⟩ => ⟨h, k.symm⟩)))
      have K6 := hid (K5.out.drewN nq)
      by_cases hlong : 400 * ((m : Int) - 1) < d.length
      · have HLG := hid hlong
        go_wp2_with fail
        go_ret2
        refine ⟨K6.out, .inl ⟨?_, ?_, ?_⟩⟩ <;> rw [HR.out] <;> unfold cutL <;> rw [if_pos ⟨HM.out, HE.out⟩, if_pos HLG.out] <;> simp
      · have HLN := hid (show d.length ≤ 400 * (m - 1) by omega)
        have HRR := hid (show r = (fragsL s d m, 0) by rw [HR.out]; unfold cutL; rw [if_pos ⟨HM.out, HE.out⟩, if_neg hlong, Int.toNat_natCast])
        go_wp2_with fail
        have hm1 : (m : Int) - 1 = ((m - 1 : Nat) : Int) := by omega
        rw [hm1]
        have HM1 := hid hm1
        clear hm1
        obtain ⟨w6, hw6⟩ : ∃ x, x = w5.drewN nq := ⟨_, rfl⟩
        rw [← hw6] at K6 ⊢
        have k56 : Keeps [] w5 w6 := by rw [hw6]; exact (Keeps.refl [] _).drewN _
        have sz6 : w6.heap.size = w5.heap.size := by rw [hw6]; rfl
        have G0 := hid ((k56.block w.heap.size (by have := S5.out; omega) (by simp)).trans E0.out)
        have G1 := hid ((k56.block (w.heap.size + 1) (by have := S5.out; omega) (by simp)).trans E1.out)
        have G2 := hid ((k56.block (w.heap.size + 2) (by have := S5.out; omega) (by simp)).trans E2.out)
        have G3 := hid ((k56.block b3 (by have := S5.out; omega) (by simp)).trans E3.out)
        have D6 := hid (D5.out.keep k56 (by intro _ _ _ _ _; simp))
        have S6 := hid (show w.heap.size + 3 ≤ b3 ∧ b3 < w6.heap.size by rw [sz6]; exact S5.out)
        clear c2 c3 hw6 k56 sz6
        refine (gather_any 56 _ (m - 1) w6 [] (KI w6) (fun i => partL d i m) (fun _ => False) enters_cutA (by omega) (by omega) (by simp) (KI.start w6) (KI.step w6) (fun k F W hk hI hg hFF => cutA_any w6 b3 (w.heap.size + 1 + 1) (w.heap.size + 1) m _ d n3' n16' HLN.out D6.out (five_cells G3.out 0).1 (five_cells G2.out 0).1 (five_cells G1.out 0).1 k F W hk hI)).mono ?_
        rintro e w7 ⟨k7, ⟨F, vs, rfl, hb7, hh7, ⟨rfl, _⟩, _, _⟩ | ⟨⟨_, _, hbad⟩, _⟩⟩
        rotate_left
        · exact hbad.elim
        obtain ⟨g, hg⟩ : ∃ g, g = w6.heap.size := ⟨_, rfl⟩
        rw [← hg] at hb7 hh7 ⊢
        have HG := hid hg
        have LV := hid (show vs.length = m - 1 by have := hh7.len; simpa using this)
        have HB7 := hid hb7
        have HH7 := hid hh7
        have RS7 := hid (show RsAt w7 (.slice (some ⟨g, 0, none⟩) (m - 1) (m - 1)) (dataL d m) from hh7.rs hb7 LV.out (by unfold maxLen; omega))
        have K7 := hid (K6.out.trans k7)
        have L7 := hid (lt_of_block hb7)
        have I0 := hid ((k7.block w.heap.size (by have := S6.out; omega) (by simp)).trans G0.out)
        have I2 := hid ((k7.block (w.heap.size + 2) (by have := S6.out; omega) (by simp)).trans G2.out)
        have I3 := hid ((k7.block b3 (by have := S6.out; omega) (by simp)).trans G3.out)
        clear hb7 hh7 k7 hg
        -- the rows' box
        have k8 : Keeps [] w7 (w7.alloc (.cells #[.slice (some ⟨g, 0, none⟩) (m - 1) (m - 1)] 81)) := (Keeps.refl [] w7).alloc _
        have T8 := hid (heap_alloc_new w7 (.cells #[.slice (some ⟨g, 0, none⟩) (m - 1) (m - 1)] 81))
        have SB8 := hid (show w7.heap.size < (w7.alloc (.cells #[.slice (some ⟨g, 0, none⟩) (m - 1) (m - 1)] 81)).heap.size by simp)
        obtain ⟨w8, hw8⟩ : ∃ x, x = w7.alloc (.cells #[.slice (some ⟨g, 0, none⟩) (m - 1) (m - 1)] 81) := ⟨_, rfl⟩
        obtain ⟨b9, hb9⟩ : ∃ b, b = w7.heap.size := ⟨_, rfl⟩
        rw [← hw8] at k8 T8 SB8
        rw [← hb9] at T8 SB8
        have HW8 := hid hw8
        have HB9 := hid hb9
        have K78 := hid k8
        have RS8 := hid (RS7.out.keep k8)
        have H8 := hid ((k8.block g L7.out (by simp)).trans HB7.out)
        clear k8 hw8 hb9
        go_wp2_with fail
        rw [← HW8.out]
        try rw [← HB9.out]
        have cT := hid (show ∀ W1, KpS [] w8.heap.size w8.drew W1 → W1.cell? ⟨b9, 0, none⟩ = some (.slice (some ⟨g, 0, none⟩) (m - 1) (m - 1)) from fun W1 h => h.cell (by rw [World.cell?_drew]; exact (five_cells T8.out 0).1) SB8.out (by simp))
        have s0 : KpS [] w8.heap.size w8.drew w8.drew := KpS.refl _ _ _
        refine wp_region_any (by kernel_rfl) (wpAny_of_late (late := [4, 5]) (S := KpS [] w8.heap.size w8.drew) _ _ _ _ ?_)
        change wpAnyT _ _ _ _ _ _ _ _ _ w8.drew
        refine late_take (i := 0) (v := .slice (some ⟨g, 0, none⟩) (m - 1) (m - 1)) rfl (by kernel_rfl) (by kernel_rfl) (by kernel_rfl) (by kernel_rfl) (by kernel_rfl) (fun _ _ _ h => h) rfl (fun W1 hW1 => exec_load _ _ _ _ rfl rfl (run_loadCell W1 _ _ _ (cT.out W1 hW1) (agg_no _ (by kernel_rfl)))) (KpS.refl _ _ _) ?_
        simp only [Act.put, List.setIfInBounds_toArray, List.set_cons_zero, List.set_cons_succ]
        refine late_take (i := 1) (v := .slice (some ⟨g, 0, none⟩) (m - 1) (m - 1)) rfl (by kernel_rfl) (by kernel_rfl) (by kernel_rfl) (by kernel_rfl) (by kernel_rfl) (fun _ _ _ h => h) rfl (fun W1 hW1 => exec_load _ _ _ _ rfl rfl (run_loadCell W1 _ _ _ (cT.out W1 hW1) (agg_no _ (by kernel_rfl)))) (KpS.refl _ _ _) ?_
        simp only [Act.put, List.setIfInBounds_toArray, List.set_cons_zero, List.set_cons_succ]
        refine late_do (i := 2) (by kernel_rfl) rfl rfl (wp_enter (f := 58) (args := #[.slice (some ⟨g, 0, none⟩) (m - 1) (m - 1)]) (by go_simp) ((RS8.out.keep ((Keeps.refl [] w8).drew)).xor (by rw [dataL_len]; omega)) ?_)
        rintro e w9 ⟨xa, xc, rfl, x1, x2, x3⟩
        have kp9 : KpS [] w8.heap.size w8.drew w9 := KpS.keeps s0 x3 (Nat.le_refl _) (by simp)
        refine ⟨_, rfl, Or.inr kp9, ?_⟩
        simp only [Act.put, List.setIfInBounds_toArray, List.set_cons_zero, List.set_cons_succ]
        have x3' : Keeps [] w8 w9 := (Keeps.refl [] w8).drew.trans x3
        refine late_do (i := 3) (by kernel_rfl) rfl rfl (wp_value (exec_oneRow _ xa (xorL (dataL d m)).length xc rfl rfl) ?_)
        refine ⟨Or.inr (kp9.alloc (by have := x3'.size; exact this) _), ?_⟩
        simp only [Act.put, List.setIfInBounds_toArray, List.set_cons_zero, List.set_cons_succ]
        have ka : Keeps [] w9 (w9.alloc (.cells #[.slice xa (xorL (dataL d m)).length xc] 31)) := (Keeps.refl [] w9).alloc _
        have hn10 := heap_alloc_new w9 (.cells #[.slice xa (xorL (dataL d m)).length xc] 31)
        obtain ⟨w10, hw10⟩ : ∃ x, x = w9.alloc (.cells #[.slice xa (xorL (dataL d m)).length xc] 31) := ⟨_, rfl⟩
        rw [← hw10] at ka hn10 ⊢
        have k810 : Keeps [] w8 w10 := x3'.trans ka
        obtain ⟨yc, w11, hrun, own11, k11⟩ := append_full w10 g (m - 1) vs xa (xorL (dataL d m)).length xc 81 w9.heap.size ((k810.block g (lt_of_block H8.out) (by simp)).trans H8.out) LV.out (by omega) (by rw [cell_of_row _ _ _ _ _ _ hn10]; rfl)
        refine late_do (i := 4) (by kernel_rfl) rfl rfl (wp_value (exec_appendT 81 _ _ rfl rfl rfl hrun) ?_)
        refine ⟨Or.inl rfl, ?_⟩
        simp only [Act.put, List.setIfInBounds_toArray, List.set_cons_zero, List.set_cons_succ]
        have k811 : Keeps [] w8 w11 := k810.trans k11
        have T11 := (k811.block b9 SB8.out (by simp)).trans T8.out
        obtain ⟨cb, fb⟩ := five_cells T11 0
        simp only [List.getElem?_toArray, List.getElem?_cons_zero] at cb
        refine late_do (i := 5) (by kernel_rfl) rfl rfl (wp_stored (w' := w11.setCell ⟨b9, 0, none⟩ (.slice (some ⟨w10.heap.size, 0, none⟩) (m - 1 + 1) yc)) (by go_simp) ⟨Or.inl rfl, ?_⟩)
        simp only [Act.put, List.setIfInBounds_toArray, List.set_cons_zero, List.set_cons_succ]
        refine wpAnyT_done (by kernel_rfl) ?_ _
        have sk : Keeps [b9] w11 (w11.setCell ⟨b9, 0, none⟩ (.slice (some ⟨w10.heap.size, 0, none⟩) (m - 1 + 1) yc)) := set_keep
        have k812 := (k811.mono (S' := [b9]) (by simp)).trans sk
        have hlt10 : b9 < w10.heap.size := Nat.lt_of_lt_of_le SB8.out k810.size
        have T12 := hid (set_five (i := 0) T11 (.slice (some ⟨w10.heap.size, 0, none⟩) (m - 1 + 1) yc))
        have own12 := ownsRow_setCell_other (a := ⟨b9, 0, none⟩) own11 (by simp [Value.ownBlock]; omega) (.slice (some ⟨w10.heap.size, 0, none⟩) (m - 1 + 1) yc)
        have hh12 : HeadsAt (w11.setCell ⟨b9, 0, none⟩ (.slice (some ⟨w10.heap.size, 0, none⟩) (m - 1 + 1) yc)) g [] vs (dataL d m) :=
          HH7.out.keep (M := []) (K78.out.trans' k812 (fun i hi hm => by simp at hm; have := HB9.out; omega)) (by simp) (fun b hb => by simp at hb)
        have xr12 : RowAt (w11.setCell ⟨b9, 0, none⟩ (.slice (some ⟨w10.heap.size, 0, none⟩) (m - 1 + 1) yc)) (.slice xa (xorL (dataL d m)).length xc) (xorL (dataL d m)) :=
          x1.keep ((ka.trans k11).mono (S' := [b9]) (by simp) |>.trans sk) (off_new13 x2 (fun b hb => by simp at hb; subst hb; exact SB8.out))
        have RS12 := hid (show RsAt (w11.setCell ⟨b9, 0, none⟩ (.slice (some ⟨w10.heap.size, 0, none⟩) (m - 1 + 1) yc)) (.slice (some ⟨w10.heap.size, 0, none⟩) (m - 1 + 1) yc) (rowsL d m) from by
          refine rs_own own12 (by simp [LV.out]) (by rw [rowsL_len n3']; omega) (fun j hj => ?_) (fun l hl => ?_)
          · unfold rowsL
            rw [List.getElem_append]
            split
            · rename_i hj'
              rw [List.getD_eq_getElem?_getD, List.getElem?_append_left (by rw [dataL_len]; have := LV.out; omega), ← List.getD_eq_getElem?_getD]
              exact hh12.row j hj'
            · rename_i hj'
              have hjj : j = m - 1 := by simp at hj; have := LV.out; omega
              subst hjj
              rw [List.getD_eq_getElem?_getD, List.getElem?_append_right (by rw [dataL_len]; exact Nat.le_refl _), dataL_len, Nat.sub_self]
              simpa [LV.out] using xr12
          · unfold rowsL at hl
            rcases List.mem_append.1 hl with hl | hl
            · exact hh12.few l hl
            · simp at hl; subst hl
              rw [xorL_length, longest_data n3']
              have := eN_most HLN.out
              omega)
        have K12 := hid ((K7.out.trans K78.out).trans' k812 (fun i hi hm => by simp at hm; have := HB9.out; have := K7.out.size; omega))
        have k712 : Keeps [] w7 (w11.setCell ⟨b9, 0, none⟩ (.slice (some ⟨w10.heap.size, 0, none⟩) (m - 1 + 1) yc)) := K78.out.trans' k812 (fun i hi hm => by simp at hm; have := HB9.out; omega)
        have L0 := hid (lt_of_block I0.out)
        have J0 := hid ((k712.block w.heap.size (lt_of_block I0.out) (by simp)).trans I0.out)
        have J2 := hid ((k712.block (w.heap.size + 2) (lt_of_block I2.out) (by simp)).trans I2.out)
        have J3 := hid ((k712.block b3 (lt_of_block I3.out) (by simp)).trans I3.out)
        obtain ⟨w12, hw12⟩ : ∃ x, x = w11.setCell ⟨b9, 0, none⟩ (.slice (some ⟨w10.heap.size, 0, none⟩) (m - 1 + 1) yc) := ⟨_, rfl⟩
        obtain ⟨y, hy⟩ : ∃ y, y = w10.heap.size := ⟨_, rfl⟩
        rw [← hw12] at T12 RS12 K12 J0 J2 J3 ⊢
        rw [← hy] at T12 RS12 ⊢
        have hm3 : m - 1 + 1 = m := by omega
        rw [hm3] at T12 RS12 ⊢
        clear hw12 hy hm3 k712 xr12 hh12 own12 hlt10 k812 sk cb fb T11 k811 own11 k11 hrun k810 hn10 ka x1 x2 x3 x3' s0 kp9 hw10
        have c2 := (five_cells J2.out 0).1
        simp only [List.getElem?_toArray, List.getElem?_cons_zero] at c2
        go_wp2_with fail
        refine (gather_any 59 _ m w12 [] (KI w12) (fragL s m d.length (rowsL d m)) (fun _ => False) enters_cutB (by omega) (by omega) (by simp) (KI.start w12) (KI.step w12) (fun k F W hk hI hg hFF => cutB_any w12 w.heap.size (w.heap.size + 1 + 1) b3 b9 s m d.length _ (rowsL d m) n16' (rowsL_len n3') (fun l hl => ?_) (fun i hi => fitH_of HE.out ⟨by omega, by omega, by omega, by have := HLN.out; omega, by omega, by omega⟩) (range_cells (cs := s.cells) J0.out) (lt_of_block J0.out) (five_cells J2.out 0).1 (five_cells J3.out 0).1 (five_cells T12.out 0).1 RS12.out k F W hk hI hg)).mono ?_
        · obtain ⟨i, hi, rfl⟩ := List.getElem_of_mem hl
          rw [rowsL_at n3' hi]
          exact Nat.le_trans (longN_le _ _ _) (eN_most HLN.out)
        rintro e w13 ⟨k13, ⟨F, fs, rfl, hb13, hh13, ⟨rfl, _⟩, _, _⟩ | ⟨⟨_, _, hbad⟩, _⟩⟩
        rotate_left
        · exact hbad.elim
        have HB13 := hid hb13
        have HH13 := hid hh13
        have K13 := hid (K12.out.trans k13)
        clear hb13 hh13 k13 c2
        go_wp2_with fail
        go_ret2
        refine ⟨K13.out, .inr ⟨by rw [HRR.out], w12.heap.size, fs, ?_, HB13.out, ?_, ?_⟩⟩
        · rw [HRR.out, fragsL_len]; rfl
        · rw [HRR.out]; exact HH13.out
        · have := K12.out.size; exact this
end Go.Proofs.YtcfmonlgpccndaaDoor


/- layout: stripes and heads are compared. -/
namespace Go.Proofs.YtcfmonlgpccndaaDoor
open Go.RowKit
set_option maxRecDepth 100000
set_option linter.unusedSimpArgs false
set_option linter.unusedVariables false

def speV (s : Spe) : Value := .agg #[.int .i64 s.c, .int .i64 s.l, .int .i64 s.n]
theorem speEqIn (d : Nat) (a b : Spe) (w : World) : (Op.equalIn (d + 2) 29 (speV a) (speV b)).run Tryd.prog w = .ok (a.c == b.c && a.l == b.l && a.n == b.n) w := by
  have f2 : Tryd.prog.underlying 29 = some (.struct (Tryd.prog.fieldsOf 29)) := by kernel_rfl
  have q : ∀ (x y z : Int), (∀ w, (part 3 #[.int .i64 x, .int .i64 y, .int .i64 z] 0).run Tryd.prog w = .ok (.int .i64 x) w) ∧ (∀ w, (part 3 #[.int .i64 x, .int .i64 y, .int .i64 z] 1).run Tryd.prog w = .ok (.int .i64 y) w) ∧ (∀ w, (part 3 #[.int .i64 x, .int .i64 y, .int .i64 z] 2).run Tryd.prog w = .ok (.int .i64 z) w) := fun x y z => ⟨fun w => by kernel_rfl, fun w => by kernel_rfl, fun w => by kernel_rfl⟩
  have u : Tryd.prog.underlying 3 = some (.int .i64) := by kernel_rfl
  have i : ∀ (x y : Int) (w : World), (Op.equalIn (d + 1) 3 (.int .i64 x) (.int .i64 y)).run Tryd.prog w = .ok (x == y) w := fun x y w => run_equalIn_int w d 3 .i64 .i64 x y u
  have g2 : (Tryd.prog.fieldsOf 29).toList.map (fun f => (f.name != "_", f.type, f.offset)) = [(true, 3, 0), (true, 3, 1), (true, 3, 2)] := by kernel_rfl
  unfold speV
  rw [run_equalIn_agg w (d + 1) 29 _ _ f2 (by kernel_rfl)]
  generalize (Tryd.prog.fieldsOf 29).toList = fs at g2 ⊢
  obtain ⟨x, y, z, rfl⟩ : ∃ x y z, fs = [x, y, z] := by
    have hl := congrArg List.length g2
    rw [List.length_map] at hl
    match fs, hl with
    | [x, y, z], _ => exact ⟨x, y, z, rfl⟩
  · simp only [List.map_cons, List.map_nil, List.cons.injEq, Prod.mk.injEq, and_true, bne_iff_ne] at g2
    obtain ⟨⟨n1, t1, o1⟩, ⟨n2, t2, o2⟩, n3, t3, o3⟩ := g2
    cases h1 : a.c == b.c <;> cases h2 : a.l == b.l <;> cases h3 : a.n == b.n <;>
      simp only [Op.eqFields, n1, n2, n3, t1, t2, t3, o1, o2, o3, (q _ _ _).1, (q _ _ _).2.1, (q _ _ _).2.2, i, h1, h2, h3, if_true, if_false, Bool.not_true, Bool.not_false, Bool.false_eq_true, Sem.run_bind, Sem.run_ite, Sem.run_pure, Result.andThen_ok, ne_eq, not_false_eq_true, Bool.and_true, Bool.and_false, Bool.false_and, Bool.true_and]
theorem spe_is (a b : Spe) : (a.c == b.c && a.l == b.l && a.n == b.n) = decide (a = b) := by
  obtain ⟨a1, a2, a3⟩ := a
  obtain ⟨b1, b2, b3⟩ := b
  simp only [Spe.mk.injEq]
  rw [Bool.eq_iff_iff]
  simp [and_assoc]
theorem guardSpe (w : World) (op : BinOp) (x y : Operand) (a b : Spe) : (eqGuard op 29 x y (speV a) (speV b)).run Tryd.prog w = .ok () w := run_eqGuard_agg w op 29 x y _ _ (by kernel_rfl)
theorem exec_eqSpe {ρ : Operand → Value} {o : Oper} {w : World} (x y : Operand) (u : TypeId) (a b : Spe) (ho : o.op = .binOp .eql 29 x y u) (hx : ρ x = speV a) (hy : ρ y = speV b) : (execOp ρ o).run Tryd.prog w = .ok (.value (.bool (decide (a = b)))) w := by
  have hg := guardSpe w .eql x y a b
  have hr : (binOp .eql 29 (speV a) (speV b)).run Tryd.prog w = .ok (.bool (decide (a = b))) w := by
    have := speEqIn 9998 a b w
    unfold speV at this ⊢
    rw [run_eql_struct, this, spe_is]; rfl
  simp only [execOp, ho, hx, hy, Sem.run_bind, hg, hr, Result.andThen_ok, Sem.run_pure]
theorem exec_neqSpe {ρ : Operand → Value} {o : Oper} {w : World} (x y : Operand) (u : TypeId) (a b : Spe) (ho : o.op = .binOp .neq 29 x y u) (hx : ρ x = speV a) (hy : ρ y = speV b) : (execOp ρ o).run Tryd.prog w = .ok (.value (.bool (!decide (a = b)))) w := by
  have hg := guardSpe w .neq x y a b
  have hr : (binOp .neq 29 (speV a) (speV b)).run Tryd.prog w = .ok (.bool (!decide (a = b))) w := by
    have := speEqIn 9998 a b w
    unfold speV at this ⊢
    rw [run_neq_struct, this, spe_is]; rfl
  simp only [execOp, ho, hx, hy, Sem.run_bind, hg, hr, Result.andThen_ok, Sem.run_pure]
theorem hdEqIn (d : Nat) (a b : Hd13) (w : World) : (Op.equalIn (d + 3) 104 (hdV13 a) (hdV13 b)).run Tryd.prog w = .ok (decide (a.s = b.s) && a.i == b.i && a.n == b.n && a.z == b.z) w := by
  have f1 : Tryd.prog.underlying 104 = some (.struct (Tryd.prog.fieldsOf 104)) := by kernel_rfl
  have p0 : ∀ (z : Hd13) w, (part 29 #[.int .i64 z.s.c, .int .i64 z.s.l, .int .i64 z.s.n, .int .i64 z.i, .int .i64 z.n, .int .i64 z.z] 0).run Tryd.prog w = .ok (speV z.s) w := fun z w => by kernel_rfl
  have p3 : ∀ (z : Hd13) w, (part 3 #[.int .i64 z.s.c, .int .i64 z.s.l, .int .i64 z.s.n, .int .i64 z.i, .int .i64 z.n, .int .i64 z.z] 3).run Tryd.prog w = .ok (.int .i64 z.i) w := fun z w => by kernel_rfl
  have p4 : ∀ (z : Hd13) w, (part 3 #[.int .i64 z.s.c, .int .i64 z.s.l, .int .i64 z.s.n, .int .i64 z.i, .int .i64 z.n, .int .i64 z.z] 4).run Tryd.prog w = .ok (.int .i64 z.n) w := fun z w => by kernel_rfl
  have p5 : ∀ (z : Hd13) w, (part 3 #[.int .i64 z.s.c, .int .i64 z.s.l, .int .i64 z.s.n, .int .i64 z.i, .int .i64 z.n, .int .i64 z.z] 5).run Tryd.prog w = .ok (.int .i64 z.z) w := fun z w => by kernel_rfl
  have u : Tryd.prog.underlying 3 = some (.int .i64) := by kernel_rfl
  have i : ∀ (x y : Int) (w : World), (Op.equalIn (d + 2) 3 (.int .i64 x) (.int .i64 y)).run Tryd.prog w = .ok (x == y) w := fun x y w => run_equalIn_int w (d + 1) 3 .i64 .i64 x y u
  have S : ∀ w, (Op.equalIn (d + 2) 29 (speV a.s) (speV b.s)).run Tryd.prog w = .ok (decide (a.s = b.s)) w := fun w => by rw [speEqIn d a.s b.s w, spe_is]
  have g1 : (Tryd.prog.fieldsOf 104).toList.map (fun f => (f.name != "_", f.type, f.offset)) = [(true, 29, 0), (true, 3, 3), (true, 3, 4), (true, 3, 5)] := by kernel_rfl
  unfold hdV13
  rw [run_equalIn_agg w (d + 2) 104 _ _ f1 (by kernel_rfl)]
  generalize (Tryd.prog.fieldsOf 104).toList = fs at g1 ⊢
  obtain ⟨x, y, v, t, rfl⟩ : ∃ x y v t, fs = [x, y, v, t] := by
    have hl := congrArg List.length g1
    rw [List.length_map] at hl
    match fs, hl with
    | [x, y, v, t], _ => exact ⟨x, y, v, t, rfl⟩
  · simp only [List.map_cons, List.map_nil, List.cons.injEq, Prod.mk.injEq, and_true, bne_iff_ne] at g1
    obtain ⟨⟨n1, t1, o1⟩, ⟨n2, t2, o2⟩, ⟨n3, t3, o3⟩, n4, t4, o4⟩ := g1
    cases h1 : decide (a.s = b.s) <;> cases h2 : a.i == b.i <;> cases h3 : a.n == b.n <;> cases h4 : a.z == b.z <;>
      simp only [Op.eqFields, n1, n2, n3, n4, t1, t2, t3, t4, o1, o2, o3, o4, p0, p3, p4, p5, S, h1, h2, h3, h4, i, if_true, if_false, Bool.not_true, Bool.not_false, Bool.false_eq_true, Sem.run_bind, Sem.run_ite, Sem.run_pure, Result.andThen_ok, ne_eq, not_false_eq_true, Bool.and_true, Bool.and_false, Bool.false_and, Bool.true_and]
theorem hd_is (a b : Hd13) : (decide (a.s = b.s) && a.i == b.i && a.n == b.n && a.z == b.z) = decide (a = b) := by
  obtain ⟨a1, a2, a3, a4⟩ := a
  obtain ⟨b1, b2, b3, b4⟩ := b
  simp only [Hd13.mk.injEq]
  rw [Bool.eq_iff_iff]
  simp [and_assoc]
theorem guardHd (w : World) (op : BinOp) (x y : Operand) (a b : Hd13) : (eqGuard op 104 x y (hdV13 a) (hdV13 b)).run Tryd.prog w = .ok () w := run_eqGuard_agg w op 104 x y _ _ (by kernel_rfl)
theorem exec_neqHd {ρ : Operand → Value} {o : Oper} {w : World} (x y : Operand) (u : TypeId) (a b : Hd13) (ho : o.op = .binOp .neq 104 x y u) (hx : ρ x = hdV13 a) (hy : ρ y = hdV13 b) : (execOp ρ o).run Tryd.prog w = .ok (.value (.bool (!decide (a = b)))) w := by
  have hg := guardHd w .neq x y a b
  have hr : (binOp .neq 104 (hdV13 a) (hdV13 b)).run Tryd.prog w = .ok (.bool (!decide (a = b))) w := by
    have := hdEqIn 9997 a b w
    unfold hdV13 at this ⊢
    rw [run_neq_struct, this, hd_is]; rfl
  simp only [execOp, ho, hx, hy, Sem.run_bind, hg, hr, Result.andThen_ok, Sem.run_pure]
end Go.Proofs.YtcfmonlgpccndaaDoor
