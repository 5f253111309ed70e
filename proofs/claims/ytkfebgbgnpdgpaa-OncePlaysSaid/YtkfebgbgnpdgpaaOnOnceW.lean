/- The walk of the law OnceOnce. -/
import Derived.Test.YtkfebgbgnpdgpaaOnH
import Derived.Deep.QuietTactic
import Derived.BigQuiet
namespace Go.Proofs.Ytkfebgbgnpdgpaa
open Go.RowKit Go.Shelf
set_option maxRecDepth 100000
set_option linter.unusedSimpArgs false

def scells (zs : List (Int × Int × Int)) : List Value := zs.flatMap fun z => [.int .i64 z.1, .int .i64 z.2.1, .int .i64 z.2.2]
theorem scells_length (zs : List (Int × Int × Int)) : (scells zs).length = zs.length * 3 := by
  induction zs with
  | nil => rfl
  | cons d ds ih => simp only [scells, List.flatMap_cons, List.length_append, List.length_cons, List.length_nil] at *; omega
theorem scells_append (a b : List (Int × Int × Int)) : scells (a ++ b) = scells a ++ scells b := by simp [scells]
theorem scells_at : ∀ (ds : List (Int × Int × Int)) (i : Nat) (h : i < ds.length),
    (scells ds)[i * 3]? = some (.int .i64 ds[i].1) ∧ (scells ds)[i * 3 + 1]? = some (.int .i64 ds[i].2.1) ∧ (scells ds)[i * 3 + 2]? = some (.int .i64 ds[i].2.2)
  | d :: ds, 0, _ => by simp [scells]
  | d :: ds, i + 1, h => by
    have ih := scells_at ds i (by simpa using h)
    have hd : ∀ j, (scells (d :: ds))[(i + 1) * 3 + j]? = (scells ds)[i * 3 + j]? := by
      intro j
      simp only [scells, List.flatMap_cons]
      rw [List.getElem?_append_right (by simp; omega)]
      congr 1
      simp
      omega
    exact ⟨by rw [show (i + 1) * 3 = (i + 1) * 3 + 0 from rfl, hd]; exact ih.1, by rw [hd]; exact ih.2.1, by rw [hd]; exact ih.2.2⟩

/-- Stamps of the call's own. -/
structure OwnS (w : World) (B : Nat) (v : Value) (zs : List (Int × Int × Int)) : Prop where
  row : w.ownsRow B 57 3 v zs.length (scells zs)
  bnd : ∀ z ∈ zs, i64 z.1 ∧ i64 z.2.1 ∧ i64 z.2.2
theorem OwnS.nil (w : World) (B : Nat) : OwnS w B (.slice none 0 0) [] := ⟨World.ownsRow_nil _ _ _ _, by simp⟩
theorem OwnS.keep {w w' : World} {B : Nat} {S : List Nat} {v : Value} {zs : List (Int × Int × Int)} (h : OwnS w B v zs) (k : Keeps S w w') (hs : ∀ b ∈ S, b < B) : OwnS w' B v zs :=
  ⟨ownsRow_keepO h.row k (fun b hb hm => by have := (h.row.lt b hb).1; have := hs b hm; omega), h.bnd⟩
theorem OwnS.later {w w' : World} {B : Nat} {v : Value} {zs : List (Int × Int × Int)} (h : OwnS w B v zs) (k : Keeps [] w w') : OwnS w' B v zs := h.keep k (by simp)
theorem OwnS.shape {w B v zs} (h : OwnS w B v zs) : ∃ a c, v = .slice a zs.length c := ownsRow_slice0 h.row
theorem OwnS.at {w B v zs} (h : OwnS w B v zs) : S3sAt w v zs := by
  rcases h.row.2 with ⟨rfl, h0⟩ | ⟨g, cap, cur, rfl, hb, hg, hnc, hcm, hcs, ht⟩
  · rw [List.eq_nil_of_length_eq_zero h0]
    exact ⟨none, 0, rfl, by simp, by simp, fun _ => rfl, fun h => absurd rfl h⟩
  · refine ⟨_, cap, rfl, hnc, hcm, by simp, fun _ => ⟨g, 0, rfl, lt_of_block hg, fun i hi => ?_⟩⟩
    have hc : ∀ j u, (scells zs)[j]? = some u → w.cell? ⟨g, 0 + j, none⟩ = some u := fun j u hu => by
      have := h.row.cells (g := g) rfl j u hu
      rwa [Addr.add_lit] at this
    obtain ⟨m0, m1, m2⟩ := scells_at zs i hi
    obtain ⟨b0, b1, b2⟩ := h.bnd _ (List.getElem_mem hi)
    exact ⟨hc _ _ m0, hc _ _ m1, hc _ _ m2, b0, b1, b2⟩
theorem iVStampB : (Try.prog.info? 57).map (fun i => (i.zero, i.size, i.bytes)) = some (some (.agg #[.int .i64 0, .int .i64 0, .int .i64 0]), 3, 24) := by kernel_rfl

theorem append_stamp {w : World} {B : Nat} {v : Value} {zs : List (Int × Int × Int)} (h : OwnS w B v zs) (z : Int × Int × Int) (hz : i64 z.1 ∧ i64 z.2.1 ∧ i64 z.2.2) (hl : zs.length ≤ 1000) (hB : B ≤ w.heap.size) (ty : TypeId) :
    ∃ a' c' w', (Builtin.append_ #[51, 51] ty #[v, .slice (some ⟨w.heap.size, 0, none⟩) 1 1]).run Try.prog (w.alloc (.cells #[.int .i64 z.1, .int .i64 z.2.1, .int .i64 z.2.2] 57)) = .ok (.slice a' (zs.length + 1) c') w' ∧ OwnS w' B (.slice a' (zs.length + 1) c') (zs ++ [z]) ∧ Keeps v.ownBlock.toList w w' ∧ (∀ k, (Value.slice a' (zs.length + 1) c').ownBlock = some k → v.ownBlock = some k ∨ w.heap.size ≤ k) := by
  obtain ⟨i, hi, hzz, hz3, hz24⟩ := info_parts iVStampB
  have ka := (Keeps.refl [] w).alloc (.cells #[.int .i64 z.1, .int .i64 z.2.1, .int .i64 z.2.2] 57)
  have hA := h.later ka
  have hb := heap_alloc_new w (.cells #[.int .i64 z.1, .int .i64 z.2.1, .int .i64 z.2.2] 57)
  obtain ⟨a', c', w', hr, ho, hg, hn⟩ := run_append_rowsO (P := Try.prog) _ B 51 ty 57 i _ 3 24 Try.underlying51 hi hzz hz3 hz24 rfl (by omega) v zs.length (scells zs) hA.row (some ⟨w.heap.size, 0, none⟩) 1 1 (scells [z]) (scells_length [z]) (by simp) (Nat.le_refl _)
    (fun ad had j u hu => by
      obtain rfl := Option.some.inj had
      rw [Addr.add_lit, Nat.zero_add, cell_of_row _ _ j _ _ (0, 0) hb]
      simpa [scells] using hu) (by simp [scells, Value.oneCell']) (by unfold maxLen; omega) (by omega) (by simp; omega)
  have hk : Keeps v.ownBlock.toList w w' := (ka.mono (S' := v.ownBlock.toList) (by simp)).grown hg (fun k hk => Or.inl (by simp [hk]))
  refine ⟨a', c', w', hr, ⟨by rw [List.length_append, scells_append]; exact ho, fun x hx => ?_⟩, hk, fun k hk2 => ?_⟩
  · rcases List.mem_append.1 hx with hx | hx
    · exact h.bnd x hx
    · simp at hx; subst hx; exact hz
  · rcases hn with hn | hn
    · exact Or.inl (hn ▸ hk2)
    · exact Or.inr (by have := hn k hk2; simp at this; omega)

/-- A row of one stamp in new memory. -/
theorem exec_oneSt {ρ : Operand → Value} {o : Oper} {w : World} (x : Operand) (c l s : Int) (ho : o.op = .buildSlice 51 1 #[(0, x)]) (hx : ρ x = .agg #[.int .i64 c, .int .i64 l, .int .i64 s]) :
    (execOp ρ o).run Try.prog w = .ok (.value (.slice (some ⟨w.heap.size, 0, none⟩) 1 1)) (w.alloc (.cells #[.int .i64 c, .int .i64 l, .int .i64 s] 57)) := by
  obtain ⟨ie, hie, hz, hs, _⟩ := info_parts iVStampB
  have h : (Instr.buildSlice 51 1 #[(0, .agg #[.int .i64 c, .int .i64 l, .int .i64 s])]).run Try.prog w = .ok (.slice (some ⟨w.heap.size, 0, none⟩) 1 1) (w.alloc (.cells #[.int .i64 c, .int .i64 l, .int .i64 s] 57)) := by
    refine run_buildSlice w _ _ 1 _ _ ie _ Try.underlying51 hie hz (by rw [hs]; decide) (by rw [hs]; decide) ?_
    rw [hs]
    have e : (Array.range (1 * 3)) = #[0, 1, 2] := rfl
    have e2 : (Value.agg #[.int .i64 0, .int .i64 0, .int .i64 0]).cells = #[.int .i64 0, .int .i64 0, .int .i64 0] := rfl
    have e3 : (Value.agg #[.int .i64 c, .int .i64 l, .int .i64 s]).cells = #[.int .i64 c, .int .i64 l, .int .i64 s] := rfl
    simp only [Instr.fill, e, e2, e3]
    simp
  simp only [execOp, ho, List.map_toArray, List.map_cons, List.map_nil, hx, Sem.run_bind, h, Result.andThen_ok, Sem.run_pure]

/-- Each that counted is no later than its client's last one. -/
def OnceInv (T : Tab) (ds : List (Int × Int × Int)) : Prop := ∀ x ∈ ds, 0 ≤ x.1 ∧ ∃ l s b, T x.1.toNat = some (l, s, b) ∧ (x.2.1 < l ∨ x.2.1 = l ∧ x.2.2 ≤ s)
theorem once_new {T : Tab} {c l s : Int} (h : doneA T c l s = 0) : kindS T c l s ≠ 2 ∧ kindS T c l s ≠ 1 ∧ mayS c l s = true := by
  have h2 : ¬ (kindS T c l s = 2 ∨ kindS T c l s = 1) := fun h2 => by simp [doneA, h2] at h
  refine ⟨fun h => h2 (Or.inl h), fun h => h2 (Or.inr h), ?_⟩
  cases hm : mayS c l s with
  | true => rfl
  | false => exact absurd (by simp [kindS, hm]) (fun h => h2 (Or.inl h))
theorem once_step {T : Tab} {ds : List (Int × Int × Int)} (h : OnceInv T ds) {c l s : Int} (b : List Int) (hd : doneA T c l s = 0) :
    OnceInv (doneT T c l s b) (ds ++ [(c, l, s)]) ∧ ∀ x ∈ ds, x.1 = c → ¬ l < x.2.1 ∧ (x.2.1 = l → ¬ s ≤ x.2.2) := by
  obtain ⟨k2, k1, hm⟩ := once_new hd
  obtain ⟨q1, q2, _⟩ := mayS_is.1 hm
  have hT : doneT T c l s b = T.put c.toNat (l, s, b) := by simp [doneT, k1, k2]
  have key : ∀ l' s' b', T c.toNat = some (l', s', b') → l' < l ∨ l' = l ∧ s' < s := fun l' s' b' e => by
    simp only [kindS, hm, if_true, e, kindE] at k1 k2
    by_cases g1 : l < l'
    · simp [g1] at k2
    · by_cases g2 : l' < l
      · exact Or.inl g2
      · simp only [g1, g2, if_false] at k1 k2
        by_cases g3 : s = s'
        · simp [g3] at k1
        · simp only [g3, if_false] at k1 k2
          by_cases g4 : s < s'
          · simp [g4] at k2
          · right; omega
  refine ⟨fun x hx => ?_, fun x hx hc => ?_⟩
  · rw [hT]
    rcases List.mem_append.1 hx with hx | hx
    · obtain ⟨h0, l', s', b', e, hle⟩ := h x hx
      refine ⟨h0, ?_⟩
      by_cases hc : x.1 = c
      · rw [hc] at e
        have := key l' s' b' e
        exact ⟨l, s, b, by simp [Tab.put, hc], by omega⟩
      · have hn : ¬ x.1.toNat = c.toNat := by omega
        exact ⟨l', s', b', by simp [Tab.put, hn, e], hle⟩
    · simp at hx
      subst hx
      exact ⟨q1, l, s, b, by simp [Tab.put], Or.inr ⟨rfl, Int.le_refl _⟩⟩
  · obtain ⟨h0, l', s', b', e, hle⟩ := h x hx
    rw [hc] at e
    have := key l' s' b' e
    omega

section
variable {ops : Array Oper} {rest : List Oper} {o : Oper} {a : Act} {w : World} {Q : Exit → Act → World → Prop}
theorem wpList_allocVS (hgd : o.guard = none) (ho : o.op = .alloc 57) (h : wpList Try.prog ops Q rest (a.put o.dst (.pointer (some ⟨w.heap.size, 0, none⟩))) (w.alloc (.cells #[.int .i64 0, .int .i64 0, .int .i64 0] 57))) : wpList Try.prog ops Q (o :: rest) a w :=
  wpList_is hgd _ _ (exec_alloc 57 _ iVStamp8 ho) h
theorem wpList_storeVS (hgd : o.guard = none) (x y : Operand) (ho : o.op = .store 57 x y) (W : World) (hw : w = W.alloc (.cells #[.int .i64 0, .int .i64 0, .int .i64 0] 57)) (hx : a.eval x = .pointer (some ⟨W.heap.size, 0, none⟩)) (c l s : Int)
    (hy : a.eval y = .agg #[.int .i64 c, .int .i64 l, .int .i64 s]) (h : wpList Try.prog ops Q rest (a.put o.dst undef) (W.alloc (.cells #[.int .i64 c, .int .i64 l, .int .i64 s] 57))) : wpList Try.prog ops Q (o :: rest) a w :=
  wpList_noval hgd _ (exec_storeNew 57 x y ho W _ #[.int .i64 c, .int .i64 l, .int .i64 s] hw hx hy iVStamp8 rfl (by simp [Value.oneCell'])) h
end

/-- What the law knows at a round's beginning. -/
structure OnceAt (W wr : World) (p B : Nat) (T : Tab) (vd : Value) (ds : List (Int × Int × Int)) (i : Nat) : Prop where
  win : WinF wr p (p :: vd.ownBlock.toList) T
  own : OwnS wr B vd ds
  inv : OnceInv T ds
  few : ds.length ≤ i
  k : Keeps [] W wr
  hB : B ≤ wr.heap.size
  hp : W.heap.size ≤ p ∧ p < B ∧ W.heap.size ≤ B

set_option maxHeartbeats 6400000 in
theorem j8Once_any (W : World) (v : Value) (zs : List (Int × Int × Int)) (h : S3sAt W v zs) : Calls Try.prog 6 #[v] W fun e w' => e = .returned (.bool true) ∧ Keeps [] W w' := by
  obtain ⟨a, cp, rfl, -⟩ := id h
  have H := hid h
  clear h
  have AW := hid (fun w => j8Awake_any w)
  go_enter Try.func6, Try.ntmps6
  go_wp2_with fail
  refine (AW.out W).mono ?_
  rintro e w1 ⟨rfl, k1⟩
  have K1 := hid k1
  clear k1
  by_cases hl : zs.length ≤ 200
  · go_wp2_with fail
    refine (newF w1 [] (by simp)).mono ?_
    rintro e w2 ⟨p, hp, rfl, h2, k2⟩
    have IN : Hid (OnceAt W w2 p w2.heap.size tab0 (.slice none 0 0) [] 0) := hid ⟨h2, OwnS.nil _ _, by intro x hx; simp at hx, by simp, K1.out.trans k2, Nat.le_refl _, by
      have := K1.out.size
      have := h2.lt p (by simp)
      have := (K1.out.trans k2).size
      omega⟩
    obtain ⟨B, hB⟩ : ∃ B, B = w2.heap.size := ⟨_, rfl⟩
    rw [← hB] at IN
    clear h2 k2 hp hB
    go_wp2_with fail
    go_loopw [4, 5] (fun vd iv wr => ∃ (i : Nat) (T : Tab) (ds : List (Int × Int × Int)), i ≤ zs.length ∧ iv = .int .i64 i ∧ OnceAt W wr p B T vd ds i) (fun _ iv _ => zs.length - (intOf iv).toNat)
    case atStart => exact ⟨0, tab0, [], by omega, rfl, IN.out⟩
    case round =>
      obtain ⟨i, T, ds, hi, rfl, hA⟩ := hrel
      have A := hid hA
      obtain ⟨ad, cd, rfl⟩ := hA.own.shape
      clear hA
      by_cases hlt : i < zs.length
      · obtain ⟨g, off, ha, gl, -, sA⟩ := (H.out.keep A.out.k).at i hlt
        subst ha
        have SA := hid sA
        obtain ⟨z, hz⟩ : ∃ z, z = zs[i] := ⟨_, rfl⟩
        rw [← hz] at SA
        have LD := hid (load_row [.int .i64 z.1, .int .i64 z.2.1, .int .i64 z.2.2] Try.underlying57 rfl iVStamp8 (cells3 SA.out.c0 SA.out.c1 SA.out.c2))
        have ST := hid (j8Stamp_any wr z.1 z.2.1 z.2.2)
        have HZE := hid hz
        clear sA hz gl
        have D17 : Hid (¬ doneA T z.1 z.2.1 z.2.2 = 0 → doneA T z.1 z.2.1 z.2.2 = 17 ∧ doneT T z.1 z.2.1 z.2.2 [] = T) := hid (fun h => by
          unfold doneA at h
          split at h
          · rename_i hk
            exact ⟨by unfold doneA; rw [if_pos hk], by unfold doneT; rw [if_pos hk]⟩
          · exact absurd rfl h)
        by_cases hd : doneA T z.1 z.2.1 z.2.2 = 0
        · have INV := hid (once_step A.out.inv [] hd)
          have HD := hid hd
          clear hd
          unfold stV at ST
          go_wp2_with (first | (refine wpList_is rfl _ _ (exec_load _ _ _ _ rfl rfl LD.out) ?_) | (go_at_call 24; refine ST.out.mono ?_; rintro e w3 ⟨rfl, k3⟩; have K3 := hid k3; have DN := hid (doneF (A.out.win.later k3) z.1 z.2.1 z.2.2 none 0 0 [] rfl (RowAt.nil w3) (by decide)); rw [HD.out] at DN; unfold stV at DN; clear k3) | (go_at_call 21; refine DN.out.mono ?_; rintro e w4 ⟨rfl, h4, k4⟩; have H4 := hid h4; have K4 := hid k4; clear h4 k4) | fail)
          have K4' : Hid (Keeps [p] wr w4) := hid ((K3.out.mono (S' := [p]) (by simp)).trans K4.out)
          have OW := hid (A.out.own.keep K4'.out (by simpa using A.out.hp.2.1))
          have KW : Hid (Keeps [] W w4) := hid (A.out.k.trans' K4'.out (fun j hj hm => by have := A.out.hp.1; simp at hm; omega))
          have HZ : Hid (B ≤ w4.heap.size) := hid (Nat.le_trans A.out.hB K4'.out.size)
          have few := A.out.few
          go_loopw [6] (fun iv wk => ∃ k : Nat, k ≤ ds.length ∧ iv = .int .i64 k ∧ Keeps [] w4 wk) (fun iv _ => ds.length - (intOf iv).toNat)
          case atStart => exact ⟨0, by omega, rfl, Keeps.refl _ _⟩
          case round =>
            obtain ⟨k, hk, rfl, kk⟩ := hrel
            have KK := hid kk
            clear kk
            by_cases hkl : k < ds.length
            · obtain ⟨g1, o1, ha1, _, -, sB⟩ := (OW.out.later KK.out).at.at k hkl
              subst ha1
              obtain ⟨g2, o2, ha2, _, -, sC⟩ := (H.out.keep (KW.out.trans KK.out)).at i hlt
              injection ha2 with ha2
              injection ha2 with e1 e2 _
              subst e1; subst e2
              have PR := hid (INV.out.2 ds[k] (List.getElem_mem hkl))
              obtain ⟨x, hx⟩ : ∃ x, x = ds[k] := ⟨_, rfl⟩
              rw [← hx] at sB PR
              rw [← HZE.out] at sC
              have LX := hid (load_row [.int .i64 x.1, .int .i64 x.2.1, .int .i64 x.2.2] Try.underlying57 rfl iVStamp8 (cells3 sB.c0 sB.c1 sB.c2))
              have ka := (Keeps.refl [] wr).alloc (.cells #[.int .i64 x.1, .int .i64 x.2.1, .int .i64 x.2.2] 57)
              obtain ⟨b0, b1, b2⟩ := block_cells3 (heap_alloc_new wr (.cells #[.int .i64 x.1, .int .i64 x.2.1, .int .i64 x.2.2] 57))
              have sD := sC.keep ka
              obtain ⟨d0, d1, d2, _, _, _⟩ := sD
              have KA := hid (KK.out.trans ka)
              clear hx sB sC ka
              by_cases hc : x.1 = z.1
              · obtain ⟨p1, p2⟩ := PR.out hc
                have t0 : (x.1 == z.1) = true := by simpa using hc
                have t1 : decide (z.2.1 < x.2.1) = false := by simpa using p1
                by_cases he : x.2.1 = z.2.1
                · have t2 : (x.2.1 == z.2.1) = true := by simpa using he
                  have t3 : decide (z.2.2 ≤ x.2.2) = false := by simpa using p2 he
                  clear hc p1 p2 he
                  go_wp2_with (first | (refine wpList_is rfl _ _ (exec_load _ _ _ _ rfl rfl LX.out) ?_) | (refine wpList_allocVS rfl rfl ?_) | (refine wpList_storeVS rfl _ _ rfl wr rfl rfl x.1 x.2.1 x.2.2 rfl ?_) | fail)
                  obtain ⟨gb, hgb⟩ : ∃ g, g = wr.heap.size := ⟨_, rfl⟩
                  rw [← hgb] at b0 b1 b2 ⊢
                  clear hgb
                  generalize wr.alloc (.cells #[.int .i64 x.1, .int .i64 x.2.1, .int .i64 x.2.2] 57) = wb at b0 b1 b2 d0 d1 d2 KA ⊢
                  have lb := World.block_lt_of_cell? _ _ b0
                  have lg := World.block_lt_of_cell? _ _ d0
                  refine wp_region_any (by kernel_rfl) (wpAny_of_held (S := KpS [] wb.heap.size wb.drew) _ _ _ _ ?_)
                  change wpAnyH _ _ _ _ _ _ _ _ wb.drew
                  have B0 : ∀ W1, KpS [] wb.heap.size wb.drew W1 → W1.cell? ⟨gb, 0, none⟩ = some (.int .i64 x.1) := fun W1 h => h.cell (by rw [World.cell?_drew]; exact b0) lb (by simp)
                  have B1 : ∀ W1, KpS [] wb.heap.size wb.drew W1 → W1.cell? ⟨gb, 1, none⟩ = some (.int .i64 x.2.1) := fun W1 h => h.cell (by rw [World.cell?_drew]; exact b1) lb (by simp)
                  have B2 : ∀ W1, KpS [] wb.heap.size wb.drew W1 → W1.cell? ⟨gb, 2, none⟩ = some (.int .i64 x.2.2) := fun W1 h => h.cell (by rw [World.cell?_drew]; exact b2) lb (by simp)
                  have E0 : ∀ W1, KpS [] wb.heap.size wb.drew W1 → W1.cell? ⟨g, off + i * 3, none⟩ = some (.int .i64 z.1) := fun W1 h => h.cell (by rw [World.cell?_drew]; exact d0) lg (by simp)
                  have E1 : ∀ W1, KpS [] wb.heap.size wb.drew W1 → W1.cell? ⟨g, off + i * 3 + 1, none⟩ = some (.int .i64 z.2.1) := fun W1 h => h.cell (by rw [World.cell?_drew]; exact d1) lg (by simp)
                  have E2 : ∀ W1, KpS [] wb.heap.size wb.drew W1 → W1.cell? ⟨g, off + i * 3 + 2, none⟩ = some (.int .i64 z.2.2) := fun W1 h => h.cell (by rw [World.cell?_drew]; exact d2) lg (by simp)
                  refine held_take (i := 0) (v := .pointer (some ⟨gb, 0, none⟩)) rfl (by kernel_rfl) (by kernel_rfl) (by kernel_rfl) (fun _ _ _ h => h) rfl (fun W1 hW1 => by go_simp) (KpS.refl _ _ _) ?_
                  simp only [Act.put, List.setIfInBounds_toArray, List.set_cons_zero, List.set_cons_succ]
                  refine held_take (i := 1) (v := .int .i64 x.1) rfl (by kernel_rfl) (by kernel_rfl) (by kernel_rfl) (fun _ _ _ h => h) rfl (fun W1 hW1 => exec_load _ _ _ _ rfl rfl (run_loadCell W1 _ _ _ (B0 W1 hW1) (agg_no _ (by kernel_rfl)))) (KpS.refl _ _ _) ?_
                  simp only [Act.put, List.setIfInBounds_toArray, List.set_cons_zero, List.set_cons_succ]
                  refine held_take (i := 2) (v := .slice (some ⟨g, off, none⟩) zs.length cp) rfl (by kernel_rfl) (by kernel_rfl) (by kernel_rfl) (fun _ _ _ h => h) rfl (fun W1 hW1 => rfl) (KpS.refl _ _ _) ?_
                  simp only [Act.put, List.setIfInBounds_toArray, List.set_cons_zero, List.set_cons_succ]
                  refine held_take (i := 3) (v := .int .i64 i) rfl (by kernel_rfl) (by kernel_rfl) (by kernel_rfl) (fun _ _ _ h => h) rfl (fun W1 hW1 => rfl) (KpS.refl _ _ _) ?_
                  simp only [Act.put, List.setIfInBounds_toArray, List.set_cons_zero, List.set_cons_succ]
                  refine held_take (i := 4) (v := .pointer (some ⟨g, off + i * 3, none⟩)) rfl (by kernel_rfl) (by kernel_rfl) (by kernel_rfl) (fun _ _ _ h => h) rfl (fun W1 hW1 => by go_simp) (KpS.refl _ _ _) ?_
                  simp only [Act.put, List.setIfInBounds_toArray, List.set_cons_zero, List.set_cons_succ]
                  refine held_take (i := 5) (v := .pointer (some ⟨g, off + i * 3, none⟩)) rfl (by kernel_rfl) (by kernel_rfl) (by kernel_rfl) (fun _ _ _ h => h) rfl (fun W1 hW1 => by go_simp) (KpS.refl _ _ _) ?_
                  simp only [Act.put, List.setIfInBounds_toArray, List.set_cons_zero, List.set_cons_succ]
                  refine held_take (i := 6) (v := .int .i64 z.1) rfl (by kernel_rfl) (by kernel_rfl) (by kernel_rfl) (fun _ _ _ h => h) rfl (fun W1 hW1 => exec_load _ _ _ _ rfl rfl (run_loadCell W1 _ _ _ (E0 W1 hW1) (agg_no _ (by kernel_rfl)))) (KpS.refl _ _ _) ?_
                  simp only [Act.put, List.setIfInBounds_toArray, List.set_cons_zero, List.set_cons_succ]
                  refine held_take (i := 7) (v := .bool true) rfl (by kernel_rfl) (by kernel_rfl) (by kernel_rfl) (fun _ _ _ h => h) rfl (fun W1 hW1 => by go_simp) (KpS.refl _ _ _) ?_
                  simp only [Act.put, List.setIfInBounds_toArray, List.set_cons_zero, List.set_cons_succ]
                  refine held_take (i := 8) (v := .bool true) rfl (by kernel_rfl) (by kernel_rfl) (by kernel_rfl) (fun _ _ _ h => h) rfl (fun W1 hW1 => by go_simp) (KpS.refl _ _ _) ?_
                  simp only [Act.put, List.setIfInBounds_toArray, List.set_cons_zero, List.set_cons_succ]
                  refine held_takeW (i := 9) (v := .pointer (some ⟨gb, 1, none⟩)) rfl (by kernel_rfl) (by kernel_rfl) (by kernel_rfl) (fun _ _ _ h => h) rfl (fun W1 hW1 => by go_simp) (KpS.refl _ _ _) ?_
                  simp only [Act.put, List.setIfInBounds_toArray, List.set_cons_zero, List.set_cons_succ]
                  refine held_takeW (i := 10) (v := .int .i64 x.2.1) rfl (by kernel_rfl) (by kernel_rfl) (by kernel_rfl) (fun _ _ _ h => h) rfl (fun W1 hW1 => exec_load _ _ _ _ rfl rfl (run_loadCell W1 _ _ _ (B1 W1 hW1) (agg_no _ (by kernel_rfl)))) (KpS.refl _ _ _) ?_
                  simp only [Act.put, List.setIfInBounds_toArray, List.set_cons_zero, List.set_cons_succ]
                  refine held_takeW (i := 11) (v := .slice (some ⟨g, off, none⟩) zs.length cp) rfl (by kernel_rfl) (by kernel_rfl) (by kernel_rfl) (fun _ _ _ h => h) rfl (fun W1 hW1 => rfl) (KpS.refl _ _ _) ?_
                  simp only [Act.put, List.setIfInBounds_toArray, List.set_cons_zero, List.set_cons_succ]
                  refine held_takeW (i := 12) (v := .int .i64 i) rfl (by kernel_rfl) (by kernel_rfl) (by kernel_rfl) (fun _ _ _ h => h) rfl (fun W1 hW1 => rfl) (KpS.refl _ _ _) ?_
                  simp only [Act.put, List.setIfInBounds_toArray, List.set_cons_zero, List.set_cons_succ]
                  refine held_takeW (i := 13) (v := .pointer (some ⟨g, off + i * 3, none⟩)) rfl (by kernel_rfl) (by kernel_rfl) (by kernel_rfl) (fun _ _ _ h => h) rfl (fun W1 hW1 => by go_simp) (KpS.refl _ _ _) ?_
                  simp only [Act.put, List.setIfInBounds_toArray, List.set_cons_zero, List.set_cons_succ]
                  refine held_takeW (i := 14) (v := .pointer (some ⟨g, off + i * 3 + 1, none⟩)) rfl (by kernel_rfl) (by kernel_rfl) (by kernel_rfl) (fun _ _ _ h => h) rfl (fun W1 hW1 => by go_simp) (KpS.refl _ _ _) ?_
                  simp only [Act.put, List.setIfInBounds_toArray, List.set_cons_zero, List.set_cons_succ]
                  refine held_takeW (i := 15) (v := .int .i64 z.2.1) rfl (by kernel_rfl) (by kernel_rfl) (by kernel_rfl) (fun _ _ _ h => h) rfl (fun W1 hW1 => exec_load _ _ _ _ rfl rfl (run_loadCell W1 _ _ _ (E1 W1 hW1) (agg_no _ (by kernel_rfl)))) (KpS.refl _ _ _) ?_
                  simp only [Act.put, List.setIfInBounds_toArray, List.set_cons_zero, List.set_cons_succ]
                  refine held_takeW (i := 16) (v := .bool false) rfl (by kernel_rfl) (by kernel_rfl) (by kernel_rfl) (fun _ _ _ h => h) rfl (fun W1 hW1 => by go_simp) (KpS.refl _ _ _) ?_
                  simp only [Act.put, List.setIfInBounds_toArray, List.set_cons_zero, List.set_cons_succ]
                  refine held_takeW (i := 17) (v := .bool false) rfl (by kernel_rfl) (by kernel_rfl) (by kernel_rfl) (fun _ _ _ h => h) rfl (fun W1 hW1 => by go_simp) (KpS.refl _ _ _) ?_
                  simp only [Act.put, List.setIfInBounds_toArray, List.set_cons_zero, List.set_cons_succ]
                  refine held_takeW (i := 18) (v := .pointer (some ⟨gb, 1, none⟩)) rfl (by kernel_rfl) (by kernel_rfl) (by kernel_rfl) (fun _ _ _ h => h) rfl (fun W1 hW1 => by go_simp) (KpS.refl _ _ _) ?_
                  simp only [Act.put, List.setIfInBounds_toArray, List.set_cons_zero, List.set_cons_succ]
                  refine held_takeW (i := 19) (v := .int .i64 x.2.1) rfl (by kernel_rfl) (by kernel_rfl) (by kernel_rfl) (fun _ _ _ h => h) rfl (fun W1 hW1 => exec_load _ _ _ _ rfl rfl (run_loadCell W1 _ _ _ (B1 W1 hW1) (agg_no _ (by kernel_rfl)))) (KpS.refl _ _ _) ?_
                  simp only [Act.put, List.setIfInBounds_toArray, List.set_cons_zero, List.set_cons_succ]
                  refine held_takeW (i := 20) (v := .slice (some ⟨g, off, none⟩) zs.length cp) rfl (by kernel_rfl) (by kernel_rfl) (by kernel_rfl) (fun _ _ _ h => h) rfl (fun W1 hW1 => rfl) (KpS.refl _ _ _) ?_
                  simp only [Act.put, List.setIfInBounds_toArray, List.set_cons_zero, List.set_cons_succ]
                  refine held_takeW (i := 21) (v := .int .i64 i) rfl (by kernel_rfl) (by kernel_rfl) (by kernel_rfl) (fun _ _ _ h => h) rfl (fun W1 hW1 => rfl) (KpS.refl _ _ _) ?_
                  simp only [Act.put, List.setIfInBounds_toArray, List.set_cons_zero, List.set_cons_succ]
                  refine held_takeW (i := 22) (v := .pointer (some ⟨g, off + i * 3, none⟩)) rfl (by kernel_rfl) (by kernel_rfl) (by kernel_rfl) (fun _ _ _ h => h) rfl (fun W1 hW1 => by go_simp) (KpS.refl _ _ _) ?_
                  simp only [Act.put, List.setIfInBounds_toArray, List.set_cons_zero, List.set_cons_succ]
                  refine held_takeW (i := 23) (v := .pointer (some ⟨g, off + i * 3 + 1, none⟩)) rfl (by kernel_rfl) (by kernel_rfl) (by kernel_rfl) (fun _ _ _ h => h) rfl (fun W1 hW1 => by go_simp) (KpS.refl _ _ _) ?_
                  simp only [Act.put, List.setIfInBounds_toArray, List.set_cons_zero, List.set_cons_succ]
                  refine held_takeW (i := 24) (v := .int .i64 z.2.1) rfl (by kernel_rfl) (by kernel_rfl) (by kernel_rfl) (fun _ _ _ h => h) rfl (fun W1 hW1 => exec_load _ _ _ _ rfl rfl (run_loadCell W1 _ _ _ (E1 W1 hW1) (agg_no _ (by kernel_rfl)))) (KpS.refl _ _ _) ?_
                  simp only [Act.put, List.setIfInBounds_toArray, List.set_cons_zero, List.set_cons_succ]
                  refine held_takeW (i := 25) (v := .bool true) rfl (by kernel_rfl) (by kernel_rfl) (by kernel_rfl) (fun _ _ _ h => h) rfl (fun W1 hW1 => by go_simp) (KpS.refl _ _ _) ?_
                  simp only [Act.put, List.setIfInBounds_toArray, List.set_cons_zero, List.set_cons_succ]
                  refine held_takeW (i := 26) (v := .bool true) rfl (by kernel_rfl) (by kernel_rfl) (by kernel_rfl) (fun _ _ _ h => h) rfl (fun W1 hW1 => by go_simp) (KpS.refl _ _ _) ?_
                  simp only [Act.put, List.setIfInBounds_toArray, List.set_cons_zero, List.set_cons_succ]
                  refine held_takeW (i := 27) (v := .pointer (some ⟨gb, 2, none⟩)) rfl (by kernel_rfl) (by kernel_rfl) (by kernel_rfl) (fun _ _ _ h => h) rfl (fun W1 hW1 => by go_simp) (KpS.refl _ _ _) ?_
                  simp only [Act.put, List.setIfInBounds_toArray, List.set_cons_zero, List.set_cons_succ]
                  refine held_takeW (i := 28) (v := .int .i64 x.2.2) rfl (by kernel_rfl) (by kernel_rfl) (by kernel_rfl) (fun _ _ _ h => h) rfl (fun W1 hW1 => exec_load _ _ _ _ rfl rfl (run_loadCell W1 _ _ _ (B2 W1 hW1) (agg_no _ (by kernel_rfl)))) (KpS.refl _ _ _) ?_
                  simp only [Act.put, List.setIfInBounds_toArray, List.set_cons_zero, List.set_cons_succ]
                  refine held_takeW (i := 29) (v := .slice (some ⟨g, off, none⟩) zs.length cp) rfl (by kernel_rfl) (by kernel_rfl) (by kernel_rfl) (fun _ _ _ h => h) rfl (fun W1 hW1 => rfl) (KpS.refl _ _ _) ?_
                  simp only [Act.put, List.setIfInBounds_toArray, List.set_cons_zero, List.set_cons_succ]
                  refine held_takeW (i := 30) (v := .int .i64 i) rfl (by kernel_rfl) (by kernel_rfl) (by kernel_rfl) (fun _ _ _ h => h) rfl (fun W1 hW1 => rfl) (KpS.refl _ _ _) ?_
                  simp only [Act.put, List.setIfInBounds_toArray, List.set_cons_zero, List.set_cons_succ]
                  refine held_takeW (i := 31) (v := .pointer (some ⟨g, off + i * 3, none⟩)) rfl (by kernel_rfl) (by kernel_rfl) (by kernel_rfl) (fun _ _ _ h => h) rfl (fun W1 hW1 => by go_simp) (KpS.refl _ _ _) ?_
                  simp only [Act.put, List.setIfInBounds_toArray, List.set_cons_zero, List.set_cons_succ]
                  refine held_takeW (i := 32) (v := .pointer (some ⟨g, off + i * 3 + 2, none⟩)) rfl (by kernel_rfl) (by kernel_rfl) (by kernel_rfl) (fun _ _ _ h => h) rfl (fun W1 hW1 => by go_simp) (KpS.refl _ _ _) ?_
                  simp only [Act.put, List.setIfInBounds_toArray, List.set_cons_zero, List.set_cons_succ]
                  refine held_takeW (i := 33) (v := .int .i64 z.2.2) rfl (by kernel_rfl) (by kernel_rfl) (by kernel_rfl) (fun _ _ _ h => h) rfl (fun W1 hW1 => exec_load _ _ _ _ rfl rfl (run_loadCell W1 _ _ _ (E2 W1 hW1) (agg_no _ (by kernel_rfl)))) (KpS.refl _ _ _) ?_
                  simp only [Act.put, List.setIfInBounds_toArray, List.set_cons_zero, List.set_cons_succ]
                  refine held_takeW (i := 34) (v := .bool false) rfl (by kernel_rfl) (by kernel_rfl) (by kernel_rfl) (fun _ _ _ h => h) rfl (fun W1 hW1 => by go_simp) (KpS.refl _ _ _) ?_
                  simp only [Act.put, List.setIfInBounds_toArray, List.set_cons_zero, List.set_cons_succ]
                  refine held_takeW (i := 35) (v := .bool false) rfl (by kernel_rfl) (by kernel_rfl) (by kernel_rfl) (fun _ _ _ h => h) rfl (fun W1 hW1 => by go_simp) (KpS.refl _ _ _) ?_
                  simp only [Act.put, List.setIfInBounds_toArray, List.set_cons_zero, List.set_cons_succ]
                  refine held_takeW (i := 36) (v := .bool false) rfl (by kernel_rfl) (by kernel_rfl) (by kernel_rfl) (fun _ _ _ h => h) rfl (fun W1 hW1 => by go_simp) (KpS.refl _ _ _) ?_
                  simp only [Act.put, List.setIfInBounds_toArray, List.set_cons_zero, List.set_cons_succ]
                  refine held_take (i := 37) (v := .bool false) rfl (by kernel_rfl) (by kernel_rfl) (by kernel_rfl) (fun _ _ _ h => h) rfl (fun W1 hW1 => by go_simp) (KpS.refl _ _ _) ?_
                  simp only [Act.put, List.setIfInBounds_toArray, List.set_cons_zero, List.set_cons_succ]
                  refine wpAnyH_done (by kernel_rfl) ?_ _
                  have KD := hid (KA.out.drew)
                  clear B0 B1 B2 E0 E1 E2 lb lg b0 b1 b2 d0 d1 d2
                  go_wp2_with fail
                  go_roundw
                  case rel => exact ⟨k + 1, by omega, by go_num, KD.out⟩
                  case measure => simp [intOf]; omega
                · have t2 : (x.2.1 == z.2.1) = false := by simpa using he
                  clear hc p1 p2 he
                  go_wp2_with (first | (refine wpList_is rfl _ _ (exec_load _ _ _ _ rfl rfl LX.out) ?_) | (refine wpList_allocVS rfl rfl ?_) | (refine wpList_storeVS rfl _ _ rfl wr rfl rfl x.1 x.2.1 x.2.2 rfl ?_) | fail)
                  obtain ⟨gb, hgb⟩ : ∃ g, g = wr.heap.size := ⟨_, rfl⟩
                  rw [← hgb] at b0 b1 b2 ⊢
                  clear hgb
                  generalize wr.alloc (.cells #[.int .i64 x.1, .int .i64 x.2.1, .int .i64 x.2.2] 57) = wb at b0 b1 b2 d0 d1 d2 KA ⊢
                  have lb := World.block_lt_of_cell? _ _ b0
                  have lg := World.block_lt_of_cell? _ _ d0
                  refine wp_region_any (by kernel_rfl) (wpAny_of_held (S := KpS [] wb.heap.size wb.drew) _ _ _ _ ?_)
                  change wpAnyH _ _ _ _ _ _ _ _ wb.drew
                  have B0 : ∀ W1, KpS [] wb.heap.size wb.drew W1 → W1.cell? ⟨gb, 0, none⟩ = some (.int .i64 x.1) := fun W1 h => h.cell (by rw [World.cell?_drew]; exact b0) lb (by simp)
                  have B1 : ∀ W1, KpS [] wb.heap.size wb.drew W1 → W1.cell? ⟨gb, 1, none⟩ = some (.int .i64 x.2.1) := fun W1 h => h.cell (by rw [World.cell?_drew]; exact b1) lb (by simp)
                  have B2 : ∀ W1, KpS [] wb.heap.size wb.drew W1 → W1.cell? ⟨gb, 2, none⟩ = some (.int .i64 x.2.2) := fun W1 h => h.cell (by rw [World.cell?_drew]; exact b2) lb (by simp)
                  have E0 : ∀ W1, KpS [] wb.heap.size wb.drew W1 → W1.cell? ⟨g, off + i * 3, none⟩ = some (.int .i64 z.1) := fun W1 h => h.cell (by rw [World.cell?_drew]; exact d0) lg (by simp)
                  have E1 : ∀ W1, KpS [] wb.heap.size wb.drew W1 → W1.cell? ⟨g, off + i * 3 + 1, none⟩ = some (.int .i64 z.2.1) := fun W1 h => h.cell (by rw [World.cell?_drew]; exact d1) lg (by simp)
                  have E2 : ∀ W1, KpS [] wb.heap.size wb.drew W1 → W1.cell? ⟨g, off + i * 3 + 2, none⟩ = some (.int .i64 z.2.2) := fun W1 h => h.cell (by rw [World.cell?_drew]; exact d2) lg (by simp)
                  refine held_take (i := 0) (v := .pointer (some ⟨gb, 0, none⟩)) rfl (by kernel_rfl) (by kernel_rfl) (by kernel_rfl) (fun _ _ _ h => h) rfl (fun W1 hW1 => by go_simp) (KpS.refl _ _ _) ?_
                  simp only [Act.put, List.setIfInBounds_toArray, List.set_cons_zero, List.set_cons_succ]
                  refine held_take (i := 1) (v := .int .i64 x.1) rfl (by kernel_rfl) (by kernel_rfl) (by kernel_rfl) (fun _ _ _ h => h) rfl (fun W1 hW1 => exec_load _ _ _ _ rfl rfl (run_loadCell W1 _ _ _ (B0 W1 hW1) (agg_no _ (by kernel_rfl)))) (KpS.refl _ _ _) ?_
                  simp only [Act.put, List.setIfInBounds_toArray, List.set_cons_zero, List.set_cons_succ]
                  refine held_take (i := 2) (v := .slice (some ⟨g, off, none⟩) zs.length cp) rfl (by kernel_rfl) (by kernel_rfl) (by kernel_rfl) (fun _ _ _ h => h) rfl (fun W1 hW1 => rfl) (KpS.refl _ _ _) ?_
                  simp only [Act.put, List.setIfInBounds_toArray, List.set_cons_zero, List.set_cons_succ]
                  refine held_take (i := 3) (v := .int .i64 i) rfl (by kernel_rfl) (by kernel_rfl) (by kernel_rfl) (fun _ _ _ h => h) rfl (fun W1 hW1 => rfl) (KpS.refl _ _ _) ?_
                  simp only [Act.put, List.setIfInBounds_toArray, List.set_cons_zero, List.set_cons_succ]
                  refine held_take (i := 4) (v := .pointer (some ⟨g, off + i * 3, none⟩)) rfl (by kernel_rfl) (by kernel_rfl) (by kernel_rfl) (fun _ _ _ h => h) rfl (fun W1 hW1 => by go_simp) (KpS.refl _ _ _) ?_
                  simp only [Act.put, List.setIfInBounds_toArray, List.set_cons_zero, List.set_cons_succ]
                  refine held_take (i := 5) (v := .pointer (some ⟨g, off + i * 3, none⟩)) rfl (by kernel_rfl) (by kernel_rfl) (by kernel_rfl) (fun _ _ _ h => h) rfl (fun W1 hW1 => by go_simp) (KpS.refl _ _ _) ?_
                  simp only [Act.put, List.setIfInBounds_toArray, List.set_cons_zero, List.set_cons_succ]
                  refine held_take (i := 6) (v := .int .i64 z.1) rfl (by kernel_rfl) (by kernel_rfl) (by kernel_rfl) (fun _ _ _ h => h) rfl (fun W1 hW1 => exec_load _ _ _ _ rfl rfl (run_loadCell W1 _ _ _ (E0 W1 hW1) (agg_no _ (by kernel_rfl)))) (KpS.refl _ _ _) ?_
                  simp only [Act.put, List.setIfInBounds_toArray, List.set_cons_zero, List.set_cons_succ]
                  refine held_take (i := 7) (v := .bool true) rfl (by kernel_rfl) (by kernel_rfl) (by kernel_rfl) (fun _ _ _ h => h) rfl (fun W1 hW1 => by go_simp) (KpS.refl _ _ _) ?_
                  simp only [Act.put, List.setIfInBounds_toArray, List.set_cons_zero, List.set_cons_succ]
                  refine held_take (i := 8) (v := .bool true) rfl (by kernel_rfl) (by kernel_rfl) (by kernel_rfl) (fun _ _ _ h => h) rfl (fun W1 hW1 => by go_simp) (KpS.refl _ _ _) ?_
                  simp only [Act.put, List.setIfInBounds_toArray, List.set_cons_zero, List.set_cons_succ]
                  refine held_takeW (i := 9) (v := .pointer (some ⟨gb, 1, none⟩)) rfl (by kernel_rfl) (by kernel_rfl) (by kernel_rfl) (fun _ _ _ h => h) rfl (fun W1 hW1 => by go_simp) (KpS.refl _ _ _) ?_
                  simp only [Act.put, List.setIfInBounds_toArray, List.set_cons_zero, List.set_cons_succ]
                  refine held_takeW (i := 10) (v := .int .i64 x.2.1) rfl (by kernel_rfl) (by kernel_rfl) (by kernel_rfl) (fun _ _ _ h => h) rfl (fun W1 hW1 => exec_load _ _ _ _ rfl rfl (run_loadCell W1 _ _ _ (B1 W1 hW1) (agg_no _ (by kernel_rfl)))) (KpS.refl _ _ _) ?_
                  simp only [Act.put, List.setIfInBounds_toArray, List.set_cons_zero, List.set_cons_succ]
                  refine held_takeW (i := 11) (v := .slice (some ⟨g, off, none⟩) zs.length cp) rfl (by kernel_rfl) (by kernel_rfl) (by kernel_rfl) (fun _ _ _ h => h) rfl (fun W1 hW1 => rfl) (KpS.refl _ _ _) ?_
                  simp only [Act.put, List.setIfInBounds_toArray, List.set_cons_zero, List.set_cons_succ]
                  refine held_takeW (i := 12) (v := .int .i64 i) rfl (by kernel_rfl) (by kernel_rfl) (by kernel_rfl) (fun _ _ _ h => h) rfl (fun W1 hW1 => rfl) (KpS.refl _ _ _) ?_
                  simp only [Act.put, List.setIfInBounds_toArray, List.set_cons_zero, List.set_cons_succ]
                  refine held_takeW (i := 13) (v := .pointer (some ⟨g, off + i * 3, none⟩)) rfl (by kernel_rfl) (by kernel_rfl) (by kernel_rfl) (fun _ _ _ h => h) rfl (fun W1 hW1 => by go_simp) (KpS.refl _ _ _) ?_
                  simp only [Act.put, List.setIfInBounds_toArray, List.set_cons_zero, List.set_cons_succ]
                  refine held_takeW (i := 14) (v := .pointer (some ⟨g, off + i * 3 + 1, none⟩)) rfl (by kernel_rfl) (by kernel_rfl) (by kernel_rfl) (fun _ _ _ h => h) rfl (fun W1 hW1 => by go_simp) (KpS.refl _ _ _) ?_
                  simp only [Act.put, List.setIfInBounds_toArray, List.set_cons_zero, List.set_cons_succ]
                  refine held_takeW (i := 15) (v := .int .i64 z.2.1) rfl (by kernel_rfl) (by kernel_rfl) (by kernel_rfl) (fun _ _ _ h => h) rfl (fun W1 hW1 => exec_load _ _ _ _ rfl rfl (run_loadCell W1 _ _ _ (E1 W1 hW1) (agg_no _ (by kernel_rfl)))) (KpS.refl _ _ _) ?_
                  simp only [Act.put, List.setIfInBounds_toArray, List.set_cons_zero, List.set_cons_succ]
                  refine held_takeW (i := 16) (v := .bool false) rfl (by kernel_rfl) (by kernel_rfl) (by kernel_rfl) (fun _ _ _ h => h) rfl (fun W1 hW1 => by go_simp) (KpS.refl _ _ _) ?_
                  simp only [Act.put, List.setIfInBounds_toArray, List.set_cons_zero, List.set_cons_succ]
                  refine held_takeW (i := 17) (v := .bool false) rfl (by kernel_rfl) (by kernel_rfl) (by kernel_rfl) (fun _ _ _ h => h) rfl (fun W1 hW1 => by go_simp) (KpS.refl _ _ _) ?_
                  simp only [Act.put, List.setIfInBounds_toArray, List.set_cons_zero, List.set_cons_succ]
                  refine held_takeW (i := 18) (v := .pointer (some ⟨gb, 1, none⟩)) rfl (by kernel_rfl) (by kernel_rfl) (by kernel_rfl) (fun _ _ _ h => h) rfl (fun W1 hW1 => by go_simp) (KpS.refl _ _ _) ?_
                  simp only [Act.put, List.setIfInBounds_toArray, List.set_cons_zero, List.set_cons_succ]
                  refine held_takeW (i := 19) (v := .int .i64 x.2.1) rfl (by kernel_rfl) (by kernel_rfl) (by kernel_rfl) (fun _ _ _ h => h) rfl (fun W1 hW1 => exec_load _ _ _ _ rfl rfl (run_loadCell W1 _ _ _ (B1 W1 hW1) (agg_no _ (by kernel_rfl)))) (KpS.refl _ _ _) ?_
                  simp only [Act.put, List.setIfInBounds_toArray, List.set_cons_zero, List.set_cons_succ]
                  refine held_takeW (i := 20) (v := .slice (some ⟨g, off, none⟩) zs.length cp) rfl (by kernel_rfl) (by kernel_rfl) (by kernel_rfl) (fun _ _ _ h => h) rfl (fun W1 hW1 => rfl) (KpS.refl _ _ _) ?_
                  simp only [Act.put, List.setIfInBounds_toArray, List.set_cons_zero, List.set_cons_succ]
                  refine held_takeW (i := 21) (v := .int .i64 i) rfl (by kernel_rfl) (by kernel_rfl) (by kernel_rfl) (fun _ _ _ h => h) rfl (fun W1 hW1 => rfl) (KpS.refl _ _ _) ?_
                  simp only [Act.put, List.setIfInBounds_toArray, List.set_cons_zero, List.set_cons_succ]
                  refine held_takeW (i := 22) (v := .pointer (some ⟨g, off + i * 3, none⟩)) rfl (by kernel_rfl) (by kernel_rfl) (by kernel_rfl) (fun _ _ _ h => h) rfl (fun W1 hW1 => by go_simp) (KpS.refl _ _ _) ?_
                  simp only [Act.put, List.setIfInBounds_toArray, List.set_cons_zero, List.set_cons_succ]
                  refine held_takeW (i := 23) (v := .pointer (some ⟨g, off + i * 3 + 1, none⟩)) rfl (by kernel_rfl) (by kernel_rfl) (by kernel_rfl) (fun _ _ _ h => h) rfl (fun W1 hW1 => by go_simp) (KpS.refl _ _ _) ?_
                  simp only [Act.put, List.setIfInBounds_toArray, List.set_cons_zero, List.set_cons_succ]
                  refine held_takeW (i := 24) (v := .int .i64 z.2.1) rfl (by kernel_rfl) (by kernel_rfl) (by kernel_rfl) (fun _ _ _ h => h) rfl (fun W1 hW1 => exec_load _ _ _ _ rfl rfl (run_loadCell W1 _ _ _ (E1 W1 hW1) (agg_no _ (by kernel_rfl)))) (KpS.refl _ _ _) ?_
                  simp only [Act.put, List.setIfInBounds_toArray, List.set_cons_zero, List.set_cons_succ]
                  refine held_takeW (i := 25) (v := .bool false) rfl (by kernel_rfl) (by kernel_rfl) (by kernel_rfl) (fun _ _ _ h => h) rfl (fun W1 hW1 => by go_simp) (KpS.refl _ _ _) ?_
                  simp only [Act.put, List.setIfInBounds_toArray, List.set_cons_zero, List.set_cons_succ]
                  refine held_takeW (i := 26) (v := .bool false) rfl (by kernel_rfl) (by kernel_rfl) (by kernel_rfl) (fun _ _ _ h => h) rfl (fun W1 hW1 => by go_simp) (KpS.refl _ _ _) ?_
                  simp only [Act.put, List.setIfInBounds_toArray, List.set_cons_zero, List.set_cons_succ]
                  refine held_skip (i := 27) rfl (by kernel_rfl) (by kernel_rfl) (by kernel_rfl) (fun _ _ _ h => h) rfl (KpS.refl _ _ _) ?_
                  simp only [Act.put, List.setIfInBounds_toArray, List.set_cons_zero, List.set_cons_succ]
                  refine held_skip (i := 28) rfl (by kernel_rfl) (by kernel_rfl) (by kernel_rfl) (fun _ _ _ h => h) rfl (KpS.refl _ _ _) ?_
                  simp only [Act.put, List.setIfInBounds_toArray, List.set_cons_zero, List.set_cons_succ]
                  refine held_skip (i := 29) rfl (by kernel_rfl) (by kernel_rfl) (by kernel_rfl) (fun _ _ _ h => h) rfl (KpS.refl _ _ _) ?_
                  simp only [Act.put, List.setIfInBounds_toArray, List.set_cons_zero, List.set_cons_succ]
                  refine held_skip (i := 30) rfl (by kernel_rfl) (by kernel_rfl) (by kernel_rfl) (fun _ _ _ h => h) rfl (KpS.refl _ _ _) ?_
                  simp only [Act.put, List.setIfInBounds_toArray, List.set_cons_zero, List.set_cons_succ]
                  refine held_skip (i := 31) rfl (by kernel_rfl) (by kernel_rfl) (by kernel_rfl) (fun _ _ _ h => h) rfl (KpS.refl _ _ _) ?_
                  simp only [Act.put, List.setIfInBounds_toArray, List.set_cons_zero, List.set_cons_succ]
                  refine held_skip (i := 32) rfl (by kernel_rfl) (by kernel_rfl) (by kernel_rfl) (fun _ _ _ h => h) rfl (KpS.refl _ _ _) ?_
                  simp only [Act.put, List.setIfInBounds_toArray, List.set_cons_zero, List.set_cons_succ]
                  refine held_skip (i := 33) rfl (by kernel_rfl) (by kernel_rfl) (by kernel_rfl) (fun _ _ _ h => h) rfl (KpS.refl _ _ _) ?_
                  simp only [Act.put, List.setIfInBounds_toArray, List.set_cons_zero, List.set_cons_succ]
                  refine held_skip (i := 34) rfl (by kernel_rfl) (by kernel_rfl) (by kernel_rfl) (fun _ _ _ h => h) rfl (KpS.refl _ _ _) ?_
                  simp only [Act.put, List.setIfInBounds_toArray, List.set_cons_zero, List.set_cons_succ]
                  refine held_takeW (i := 35) (v := .bool false) rfl (by kernel_rfl) (by kernel_rfl) (by kernel_rfl) (fun _ _ _ h => h) rfl (fun W1 hW1 => by go_simp) (KpS.refl _ _ _) ?_
                  simp only [Act.put, List.setIfInBounds_toArray, List.set_cons_zero, List.set_cons_succ]
                  refine held_takeW (i := 36) (v := .bool false) rfl (by kernel_rfl) (by kernel_rfl) (by kernel_rfl) (fun _ _ _ h => h) rfl (fun W1 hW1 => by go_simp) (KpS.refl _ _ _) ?_
                  simp only [Act.put, List.setIfInBounds_toArray, List.set_cons_zero, List.set_cons_succ]
                  refine held_take (i := 37) (v := .bool false) rfl (by kernel_rfl) (by kernel_rfl) (by kernel_rfl) (fun _ _ _ h => h) rfl (fun W1 hW1 => by go_simp) (KpS.refl _ _ _) ?_
                  simp only [Act.put, List.setIfInBounds_toArray, List.set_cons_zero, List.set_cons_succ]
                  refine wpAnyH_done (by kernel_rfl) ?_ _
                  have KD := hid (KA.out.drew)
                  clear B0 B1 B2 E0 E1 E2 lb lg b0 b1 b2 d0 d1 d2
                  go_wp2_with fail
                  go_roundw
                  case rel => exact ⟨k + 1, by omega, by go_num, KD.out⟩
                  case measure => simp [intOf]; omega
              · have t0 : (x.1 == z.1) = false := by simpa using hc
                clear hc
                go_wp2_with (first | (refine wpList_is rfl _ _ (exec_load _ _ _ _ rfl rfl LX.out) ?_) | (refine wpList_allocVS rfl rfl ?_) | (refine wpList_storeVS rfl _ _ rfl wr rfl rfl x.1 x.2.1 x.2.2 rfl ?_) | fail)
                obtain ⟨gb, hgb⟩ : ∃ g, g = wr.heap.size := ⟨_, rfl⟩
                rw [← hgb] at b0 b1 b2 ⊢
                clear hgb
                generalize wr.alloc (.cells #[.int .i64 x.1, .int .i64 x.2.1, .int .i64 x.2.2] 57) = wb at b0 b1 b2 d0 d1 d2 KA ⊢
                have lb := World.block_lt_of_cell? _ _ b0
                have lg := World.block_lt_of_cell? _ _ d0
                refine wp_region_any (by kernel_rfl) (wpAny_of_held (S := KpS [] wb.heap.size wb.drew) _ _ _ _ ?_)
                change wpAnyH _ _ _ _ _ _ _ _ wb.drew
                have B0 : ∀ W1, KpS [] wb.heap.size wb.drew W1 → W1.cell? ⟨gb, 0, none⟩ = some (.int .i64 x.1) := fun W1 h => h.cell (by rw [World.cell?_drew]; exact b0) lb (by simp)
                have B1 : ∀ W1, KpS [] wb.heap.size wb.drew W1 → W1.cell? ⟨gb, 1, none⟩ = some (.int .i64 x.2.1) := fun W1 h => h.cell (by rw [World.cell?_drew]; exact b1) lb (by simp)
                have B2 : ∀ W1, KpS [] wb.heap.size wb.drew W1 → W1.cell? ⟨gb, 2, none⟩ = some (.int .i64 x.2.2) := fun W1 h => h.cell (by rw [World.cell?_drew]; exact b2) lb (by simp)
                have E0 : ∀ W1, KpS [] wb.heap.size wb.drew W1 → W1.cell? ⟨g, off + i * 3, none⟩ = some (.int .i64 z.1) := fun W1 h => h.cell (by rw [World.cell?_drew]; exact d0) lg (by simp)
                have E1 : ∀ W1, KpS [] wb.heap.size wb.drew W1 → W1.cell? ⟨g, off + i * 3 + 1, none⟩ = some (.int .i64 z.2.1) := fun W1 h => h.cell (by rw [World.cell?_drew]; exact d1) lg (by simp)
                have E2 : ∀ W1, KpS [] wb.heap.size wb.drew W1 → W1.cell? ⟨g, off + i * 3 + 2, none⟩ = some (.int .i64 z.2.2) := fun W1 h => h.cell (by rw [World.cell?_drew]; exact d2) lg (by simp)
                refine held_take (i := 0) (v := .pointer (some ⟨gb, 0, none⟩)) rfl (by kernel_rfl) (by kernel_rfl) (by kernel_rfl) (fun _ _ _ h => h) rfl (fun W1 hW1 => by go_simp) (KpS.refl _ _ _) ?_
                simp only [Act.put, List.setIfInBounds_toArray, List.set_cons_zero, List.set_cons_succ]
                refine held_take (i := 1) (v := .int .i64 x.1) rfl (by kernel_rfl) (by kernel_rfl) (by kernel_rfl) (fun _ _ _ h => h) rfl (fun W1 hW1 => exec_load _ _ _ _ rfl rfl (run_loadCell W1 _ _ _ (B0 W1 hW1) (agg_no _ (by kernel_rfl)))) (KpS.refl _ _ _) ?_
                simp only [Act.put, List.setIfInBounds_toArray, List.set_cons_zero, List.set_cons_succ]
                refine held_take (i := 2) (v := .slice (some ⟨g, off, none⟩) zs.length cp) rfl (by kernel_rfl) (by kernel_rfl) (by kernel_rfl) (fun _ _ _ h => h) rfl (fun W1 hW1 => rfl) (KpS.refl _ _ _) ?_
                simp only [Act.put, List.setIfInBounds_toArray, List.set_cons_zero, List.set_cons_succ]
                refine held_take (i := 3) (v := .int .i64 i) rfl (by kernel_rfl) (by kernel_rfl) (by kernel_rfl) (fun _ _ _ h => h) rfl (fun W1 hW1 => rfl) (KpS.refl _ _ _) ?_
                simp only [Act.put, List.setIfInBounds_toArray, List.set_cons_zero, List.set_cons_succ]
                refine held_take (i := 4) (v := .pointer (some ⟨g, off + i * 3, none⟩)) rfl (by kernel_rfl) (by kernel_rfl) (by kernel_rfl) (fun _ _ _ h => h) rfl (fun W1 hW1 => by go_simp) (KpS.refl _ _ _) ?_
                simp only [Act.put, List.setIfInBounds_toArray, List.set_cons_zero, List.set_cons_succ]
                refine held_take (i := 5) (v := .pointer (some ⟨g, off + i * 3, none⟩)) rfl (by kernel_rfl) (by kernel_rfl) (by kernel_rfl) (fun _ _ _ h => h) rfl (fun W1 hW1 => by go_simp) (KpS.refl _ _ _) ?_
                simp only [Act.put, List.setIfInBounds_toArray, List.set_cons_zero, List.set_cons_succ]
                refine held_take (i := 6) (v := .int .i64 z.1) rfl (by kernel_rfl) (by kernel_rfl) (by kernel_rfl) (fun _ _ _ h => h) rfl (fun W1 hW1 => exec_load _ _ _ _ rfl rfl (run_loadCell W1 _ _ _ (E0 W1 hW1) (agg_no _ (by kernel_rfl)))) (KpS.refl _ _ _) ?_
                simp only [Act.put, List.setIfInBounds_toArray, List.set_cons_zero, List.set_cons_succ]
                refine held_take (i := 7) (v := .bool false) rfl (by kernel_rfl) (by kernel_rfl) (by kernel_rfl) (fun _ _ _ h => h) rfl (fun W1 hW1 => by go_simp) (KpS.refl _ _ _) ?_
                simp only [Act.put, List.setIfInBounds_toArray, List.set_cons_zero, List.set_cons_succ]
                refine held_take (i := 8) (v := .bool false) rfl (by kernel_rfl) (by kernel_rfl) (by kernel_rfl) (fun _ _ _ h => h) rfl (fun W1 hW1 => by go_simp) (KpS.refl _ _ _) ?_
                simp only [Act.put, List.setIfInBounds_toArray, List.set_cons_zero, List.set_cons_succ]
                refine held_skip (i := 9) rfl (by kernel_rfl) (by kernel_rfl) (by kernel_rfl) (fun _ _ _ h => h) rfl (KpS.refl _ _ _) ?_
                simp only [Act.put, List.setIfInBounds_toArray, List.set_cons_zero, List.set_cons_succ]
                refine held_skip (i := 10) rfl (by kernel_rfl) (by kernel_rfl) (by kernel_rfl) (fun _ _ _ h => h) rfl (KpS.refl _ _ _) ?_
                simp only [Act.put, List.setIfInBounds_toArray, List.set_cons_zero, List.set_cons_succ]
                refine held_skip (i := 11) rfl (by kernel_rfl) (by kernel_rfl) (by kernel_rfl) (fun _ _ _ h => h) rfl (KpS.refl _ _ _) ?_
                simp only [Act.put, List.setIfInBounds_toArray, List.set_cons_zero, List.set_cons_succ]
                refine held_skip (i := 12) rfl (by kernel_rfl) (by kernel_rfl) (by kernel_rfl) (fun _ _ _ h => h) rfl (KpS.refl _ _ _) ?_
                simp only [Act.put, List.setIfInBounds_toArray, List.set_cons_zero, List.set_cons_succ]
                refine held_skip (i := 13) rfl (by kernel_rfl) (by kernel_rfl) (by kernel_rfl) (fun _ _ _ h => h) rfl (KpS.refl _ _ _) ?_
                simp only [Act.put, List.setIfInBounds_toArray, List.set_cons_zero, List.set_cons_succ]
                refine held_skip (i := 14) rfl (by kernel_rfl) (by kernel_rfl) (by kernel_rfl) (fun _ _ _ h => h) rfl (KpS.refl _ _ _) ?_
                simp only [Act.put, List.setIfInBounds_toArray, List.set_cons_zero, List.set_cons_succ]
                refine held_skip (i := 15) rfl (by kernel_rfl) (by kernel_rfl) (by kernel_rfl) (fun _ _ _ h => h) rfl (KpS.refl _ _ _) ?_
                simp only [Act.put, List.setIfInBounds_toArray, List.set_cons_zero, List.set_cons_succ]
                refine held_skip (i := 16) rfl (by kernel_rfl) (by kernel_rfl) (by kernel_rfl) (fun _ _ _ h => h) rfl (KpS.refl _ _ _) ?_
                simp only [Act.put, List.setIfInBounds_toArray, List.set_cons_zero, List.set_cons_succ]
                refine held_skip (i := 17) rfl (by kernel_rfl) (by kernel_rfl) (by kernel_rfl) (fun _ _ _ h => h) rfl (KpS.refl _ _ _) ?_
                simp only [Act.put, List.setIfInBounds_toArray, List.set_cons_zero, List.set_cons_succ]
                refine held_skip (i := 18) rfl (by kernel_rfl) (by kernel_rfl) (by kernel_rfl) (fun _ _ _ h => h) rfl (KpS.refl _ _ _) ?_
                simp only [Act.put, List.setIfInBounds_toArray, List.set_cons_zero, List.set_cons_succ]
                refine held_skip (i := 19) rfl (by kernel_rfl) (by kernel_rfl) (by kernel_rfl) (fun _ _ _ h => h) rfl (KpS.refl _ _ _) ?_
                simp only [Act.put, List.setIfInBounds_toArray, List.set_cons_zero, List.set_cons_succ]
                refine held_skip (i := 20) rfl (by kernel_rfl) (by kernel_rfl) (by kernel_rfl) (fun _ _ _ h => h) rfl (KpS.refl _ _ _) ?_
                simp only [Act.put, List.setIfInBounds_toArray, List.set_cons_zero, List.set_cons_succ]
                refine held_skip (i := 21) rfl (by kernel_rfl) (by kernel_rfl) (by kernel_rfl) (fun _ _ _ h => h) rfl (KpS.refl _ _ _) ?_
                simp only [Act.put, List.setIfInBounds_toArray, List.set_cons_zero, List.set_cons_succ]
                refine held_skip (i := 22) rfl (by kernel_rfl) (by kernel_rfl) (by kernel_rfl) (fun _ _ _ h => h) rfl (KpS.refl _ _ _) ?_
                simp only [Act.put, List.setIfInBounds_toArray, List.set_cons_zero, List.set_cons_succ]
                refine held_skip (i := 23) rfl (by kernel_rfl) (by kernel_rfl) (by kernel_rfl) (fun _ _ _ h => h) rfl (KpS.refl _ _ _) ?_
                simp only [Act.put, List.setIfInBounds_toArray, List.set_cons_zero, List.set_cons_succ]
                refine held_skip (i := 24) rfl (by kernel_rfl) (by kernel_rfl) (by kernel_rfl) (fun _ _ _ h => h) rfl (KpS.refl _ _ _) ?_
                simp only [Act.put, List.setIfInBounds_toArray, List.set_cons_zero, List.set_cons_succ]
                refine held_skip (i := 25) rfl (by kernel_rfl) (by kernel_rfl) (by kernel_rfl) (fun _ _ _ h => h) rfl (KpS.refl _ _ _) ?_
                simp only [Act.put, List.setIfInBounds_toArray, List.set_cons_zero, List.set_cons_succ]
                refine held_skip (i := 26) rfl (by kernel_rfl) (by kernel_rfl) (by kernel_rfl) (fun _ _ _ h => h) rfl (KpS.refl _ _ _) ?_
                simp only [Act.put, List.setIfInBounds_toArray, List.set_cons_zero, List.set_cons_succ]
                refine held_skip (i := 27) rfl (by kernel_rfl) (by kernel_rfl) (by kernel_rfl) (fun _ _ _ h => h) rfl (KpS.refl _ _ _) ?_
                simp only [Act.put, List.setIfInBounds_toArray, List.set_cons_zero, List.set_cons_succ]
                refine held_skip (i := 28) rfl (by kernel_rfl) (by kernel_rfl) (by kernel_rfl) (fun _ _ _ h => h) rfl (KpS.refl _ _ _) ?_
                simp only [Act.put, List.setIfInBounds_toArray, List.set_cons_zero, List.set_cons_succ]
                refine held_skip (i := 29) rfl (by kernel_rfl) (by kernel_rfl) (by kernel_rfl) (fun _ _ _ h => h) rfl (KpS.refl _ _ _) ?_
                simp only [Act.put, List.setIfInBounds_toArray, List.set_cons_zero, List.set_cons_succ]
                refine held_skip (i := 30) rfl (by kernel_rfl) (by kernel_rfl) (by kernel_rfl) (fun _ _ _ h => h) rfl (KpS.refl _ _ _) ?_
                simp only [Act.put, List.setIfInBounds_toArray, List.set_cons_zero, List.set_cons_succ]
                refine held_skip (i := 31) rfl (by kernel_rfl) (by kernel_rfl) (by kernel_rfl) (fun _ _ _ h => h) rfl (KpS.refl _ _ _) ?_
                simp only [Act.put, List.setIfInBounds_toArray, List.set_cons_zero, List.set_cons_succ]
                refine held_skip (i := 32) rfl (by kernel_rfl) (by kernel_rfl) (by kernel_rfl) (fun _ _ _ h => h) rfl (KpS.refl _ _ _) ?_
                simp only [Act.put, List.setIfInBounds_toArray, List.set_cons_zero, List.set_cons_succ]
                refine held_skip (i := 33) rfl (by kernel_rfl) (by kernel_rfl) (by kernel_rfl) (fun _ _ _ h => h) rfl (KpS.refl _ _ _) ?_
                simp only [Act.put, List.setIfInBounds_toArray, List.set_cons_zero, List.set_cons_succ]
                refine held_skip (i := 34) rfl (by kernel_rfl) (by kernel_rfl) (by kernel_rfl) (fun _ _ _ h => h) rfl (KpS.refl _ _ _) ?_
                simp only [Act.put, List.setIfInBounds_toArray, List.set_cons_zero, List.set_cons_succ]
                refine held_skip (i := 35) rfl (by kernel_rfl) (by kernel_rfl) (by kernel_rfl) (fun _ _ _ h => h) rfl (KpS.refl _ _ _) ?_
                simp only [Act.put, List.setIfInBounds_toArray, List.set_cons_zero, List.set_cons_succ]
                refine held_skip (i := 36) rfl (by kernel_rfl) (by kernel_rfl) (by kernel_rfl) (fun _ _ _ h => h) rfl (KpS.refl _ _ _) ?_
                simp only [Act.put, List.setIfInBounds_toArray, List.set_cons_zero, List.set_cons_succ]
                refine held_take (i := 37) (v := .bool false) rfl (by kernel_rfl) (by kernel_rfl) (by kernel_rfl) (fun _ _ _ h => h) rfl (fun W1 hW1 => by go_simp) (KpS.refl _ _ _) ?_
                simp only [Act.put, List.setIfInBounds_toArray, List.set_cons_zero, List.set_cons_succ]
                refine wpAnyH_done (by kernel_rfl) ?_ _
                have KD := hid (KA.out.drew)
                clear B0 B1 B2 E0 E1 E2 lb lg b0 b1 b2 d0 d1 d2
                go_wp2_with fail
                go_roundw
                case rel => exact ⟨k + 1, by omega, by go_num, KD.out⟩
                case measure => simp [intOf]; omega
            · obtain rfl : k = ds.length := by omega
              obtain ⟨a2, c2, w5, hr, o5, k5, n5⟩ := append_stamp (OW.out.later KK.out) z ⟨SA.out.b0, SA.out.b1, SA.out.b2⟩ (by omega) (Nat.le_trans HZ.out KK.out.size) 51
              obtain ⟨g2, o2, ha2, _, -, sC⟩ := (H.out.keep (KW.out.trans KK.out)).at i hlt
              injection ha2 with ha2
              injection ha2 with e1 e2 _
              subst e1; subst e2
              rw [← HZE.out] at sC
              have LZ := hid (load_row [.int .i64 z.1, .int .i64 z.2.1, .int .i64 z.2.2] Try.underlying57 rfl iVStamp8 (cells3 sC.c0 sC.c1 sC.c2))
              have R5 := hid hr
              have O5 := hid o5
              have hb5 : ∀ j ∈ (Value.slice ad ds.length cd).ownBlock.toList, B ≤ j := fun j hm => (OW.out.row.lt j (by simpa using hm)).1
              have K5 : Hid (Keeps [] W w5) := hid ((KW.out.trans KK.out).trans' k5 (fun j hj hm => by
                have h1 := hb5 j hm
                have h2 := A.out.hp.2.2
                omega))
              have W5 : Hid (WinF w5 p (p :: (Value.slice a2 (ds.length + 1) c2).ownBlock.toList) (doneT T z.1 z.2.1 z.2.2 [])) := hid ((H4.out.later KK.out).grow k5 (fun b hb => List.mem_cons_of_mem _ hb) (fun hm => by have := hb5 p hm; have := A.out.hp.2.1; omega) (by simp) (fun b hb => by
                rcases List.mem_cons.1 hb with rfl | hb
                · exact Or.inl (by simp)
                · rcases n5 b (by simpa using hb) with h | h
                  · exact Or.inl (List.mem_cons_of_mem _ (by simpa using h))
                  · exact Or.inr h) (fun b hb => by
                rcases List.mem_cons.1 hb with rfl | hb
                · exact Nat.lt_of_lt_of_le ((H4.out.later KK.out).lt _ (by simp)) k5.size
                · exact (o5.row.lt b (by simpa using hb)).2))
              have Z5 := hid (Nat.le_trans (Nat.le_trans HZ.out KK.out.size) k5.size)
              clear hr o5 k5 sC hb5 n5
              go_wp2_with (first | (refine wpList_is rfl _ _ (exec_load _ _ _ _ rfl rfl LZ.out) ?_) | (refine wpList_is rfl _ _ (exec_oneSt _ _ _ _ rfl rfl) ?_) | (at_builtin; refine wpList_is rfl _ _ (exec_appendT 51 _ _ rfl rfl rfl R5.out) ?_) | fail)
              go_roundw
              case rel =>
                refine ⟨i + 1, _, ds ++ [z], by omega, by go_num, ⟨W5.out, ?_, INV.out.1, by simp; omega, K5.out, Z5.out, A.out.hp⟩⟩
                exact O5.out
              case measure => simp [intOf]; omega
        · obtain ⟨h17, hT⟩ := D17.out hd
          have HT := hid hT
          have HD := hid h17
          clear hd h17 hT
          unfold stV at ST
          go_wp2_with (first | (refine wpList_is rfl _ _ (exec_load _ _ _ _ rfl rfl LD.out) ?_) | (go_at_call 24; refine ST.out.mono ?_; rintro e w3 ⟨rfl, k3⟩; have K3 := hid k3; have DN := hid (doneF (A.out.win.later k3) z.1 z.2.1 z.2.2 none 0 0 [] rfl (RowAt.nil w3) (by decide)); rw [HD.out, HT.out] at DN; unfold stV at DN; clear k3) | (go_at_call 21; refine DN.out.mono ?_; rintro e w4 ⟨rfl, h4, k4⟩; have H4 := hid h4; have K4 := hid k4; clear h4 k4) | fail)
          have K4' : Hid (Keeps [p] wr w4) := hid ((K3.out.mono (S' := [p]) (by simp)).trans K4.out)
          go_roundw
          case rel => exact ⟨i + 1, T, ds, by omega, by go_num, ⟨H4.out, A.out.own.keep K4'.out (by simpa using A.out.hp.2.1), A.out.inv, by have := A.out.few; omega, A.out.k.trans' K4'.out (fun j hj hm => by have := A.out.hp.1; simp at hm; omega), Nat.le_trans A.out.hB K4'.out.size, A.out.hp⟩⟩
          case measure => simp [intOf]; omega
      · obtain rfl : i = zs.length := by omega
        go_wp2_with fail
        go_ret
        exact ⟨rfl, A.out.k⟩
  · go_wp2_with fail
    go_ret
    exact ⟨rfl, K1.out⟩
end Go.Proofs.Ytkfebgbgnpdgpaa
