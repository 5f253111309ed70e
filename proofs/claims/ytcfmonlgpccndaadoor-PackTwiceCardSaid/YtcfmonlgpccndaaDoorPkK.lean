/- pack: rows of blocks of a call's own; the laws' dirty and small. -/
import Derived.Test.YtcfmonlgpccndaaDoorPkJ
import Derived.Test.YtcfmonlgpccndaaDoorPkG06
namespace Go.Proofs.YtcfmonlgpccndaaDoor
open Go.RowKit Go.Shelf
set_option maxRecDepth 100000
set_option linter.unusedSimpArgs false
set_option linter.unusedVariables false

theorem DsAt.nil14' (w : World) : DsAt w (.slice none 0 0) [] := ⟨none, 0, rfl, by simp, by simp, fun _ => rfl, fun h => absurd rfl h⟩
def dtcells (xs : List Dr) : List Value := xs.flatMap Dr.cells
theorem dtcells_length (ds : List Dr) : (dtcells ds).length = ds.length * 2 := by
  induction ds with
  | nil => rfl
  | cons d ds ih => simp only [dtcells, List.flatMap_cons, List.length_append, Dr.cells, List.length_cons, List.length_nil] at *; omega
theorem dtcells_append (a b : List Dr) : dtcells (a ++ b) = dtcells a ++ dtcells b := by simp [dtcells]
theorem dtcells_cons (m : Dr) (b : List Dr) : dtcells (m :: b) = m.cells ++ dtcells b := by simp [dtcells]
theorem dtcells_in : ∀ (ds : List Dr) (i : Nat) (h : i < ds.length) (j : Nat), j < 2 → (dtcells ds)[i * 2 + j]? = ds[i].cells[j]?
  | d :: ds, 0, _, j, hj => by
    rw [dtcells_cons, Nat.zero_mul, Nat.zero_add, List.getElem?_append_left (by simpa [Dr.cells] using hj)]
    rfl
  | d :: ds, i + 1, h, j, hj => by
    have ih := dtcells_in ds i (by simpa using h) j hj
    rw [dtcells_cons, List.getElem?_append_right (by simp [Dr.cells]; omega)]
    simp only [List.getElem_cons_succ]
    rw [← ih]
    congr 1
    simp [Dr.cells]
    omega
/-- Blocks of the call's own, their bytes wherever they lie but in that row. -/
structure OwnDt (w : World) (B : Nat) (v : Value) (xs : List Dr) : Prop where
  own : w.ownsRow B 33 2 v xs.length (dtcells xs)
  row : ∀ i (h : i < xs.length), RowAt w xs[i].r xs[i].d ∧ Off v.ownBlock.toList xs[i].r xs[i].d ∧ xs[i].d.length ≤ 140737488351232
theorem OwnDt.nil (w : World) (B : Nat) : OwnDt w B (.slice none 0 0) [] := ⟨World.ownsRow_nil _ _ _ _, fun i h => by simp at h⟩
theorem OwnDt.later {w w' : World} {B : Nat} {v : Value} {xs : List Dr} (h : OwnDt w B v xs) (k : Keeps [] w w') : OwnDt w' B v xs :=
  ⟨ownsRow_keepP h.own k (fun b _ hm => by simp at hm), fun i hi => ⟨(h.row i hi).1.keep k (by intro _ _ _ _ _; simp), (h.row i hi).2⟩⟩
theorem OwnDt.blk {w B v xs} (h : OwnDt w B v xs) : ∀ k, v.ownBlock = some k → B ≤ k ∧ k < w.heap.size := h.own.lt
/-- What is changed lies in none of its blocks. -/
theorem OwnDt.keep {w w' : World} {B : Nat} {v : Value} {xs : List Dr} {S : List Nat} (h : OwnDt w B v xs) (k : Keeps S w w') (h1 : ∀ b, v.ownBlock = some b → b ∉ S) (h2 : ∀ i (h : i < xs.length), Off S xs[i].r xs[i].d) : OwnDt w' B v xs :=
  ⟨ownsRow_keepP h.own k h1, fun i hi => ⟨(h.row i hi).1.keep k (h2 i hi), (h.row i hi).2⟩⟩
theorem OwnDt.shape {w B v xs} (h : OwnDt w B v xs) : ∃ a c, v = .slice a xs.length c := by
  rcases h.own.2 with ⟨rfl, e⟩ | ⟨g, cap, cur, rfl, _⟩
  · exact ⟨none, 0, by rw [e]⟩
  · exact ⟨_, cap, rfl⟩
theorem OwnDt.at {w B v xs} (h : OwnDt w B v xs) : DsAt w v xs := by
  rcases h.own.2 with ⟨rfl, h0⟩ | ⟨g, cap, cur, rfl, hb, hg, hnc, hcm, hcs, ht⟩
  · rw [List.eq_nil_of_length_eq_zero h0]
    exact DsAt.nil14' w
  · refine ⟨_, cap, rfl, hnc, hcm, by simp, fun _ => ⟨g, 0, rfl, lt_of_block hg, fun i hi => ⟨fun j u hu => ?_, (h.row i hi).1, (h.row i hi).2.2⟩⟩⟩
    have hj : j < 2 := by
      have := (List.getElem?_eq_some_iff.1 hu).1
      simpa [Dr.cells] using this
    have := h.own.cells (g := g) rfl (i * 2 + j) u (by rw [dtcells_in xs i hi j hj]; exact hu)
    rw [Addr.add_lit] at this
    rwa [← Nat.add_assoc] at this
theorem row_block {w : World} {v : Value} {d : List Int} (h : RowAt w v d) {ad : Addr} {n c : Nat} (e : v = .slice (some ad) n c) (hne : d ≠ []) : ad.block < w.heap.size := by
  obtain ⟨a, cap, e1, h1, h2, h3, h4, h5⟩ := h
  rw [e] at e1
  injection e1 with e1 _ _
  have h0 : 0 < d.length := List.length_pos_iff.2 hne
  have := h5 ad e1.symm 0 (.int .u8 d[0]) (by rw [List.getElem?_map, List.getElem?_eq_getElem h0]; rfl)
  have := World.block_lt_of_cell? _ _ this
  rwa [Addr.add_block] at this
/-- append of one block more. -/
theorem append_dt {w : World} {B : Nat} {v : Value} {xs : List Dr} (h : OwnDt w B v xs) (x : Dr) (hr : RowAt w x.r x.d) (hoff : Off v.ownBlock.toList x.r x.d) (hf : x.d.length ≤ 140737488351232) (hl : xs.length ≤ 1000) (hB : B ≤ w.heap.size) :
    ∃ a' c' w', (Builtin.append_ #[34, 34] 34 #[v, .slice (some ⟨w.heap.size, 0, none⟩) 1 1]).run Tryd.prog (w.alloc (.cells x.cells.toArray 33)) = .ok (.slice a' (xs.length + 1) c') w' ∧ OwnDt w' B (.slice a' (xs.length + 1) c') (xs ++ [x]) ∧ Keeps v.ownBlock.toList w w' := by
  obtain ⟨i, hi, hz, hz3, hz40⟩ := info_parts iDirty3
  have ka : Keeps [] w (w.alloc (.cells x.cells.toArray 33)) := (Keeps.refl [] w).alloc _
  obtain ⟨a', c', w', hrun, ho, hg, hn⟩ := run_append_rowsO (P := Tryd.prog) (w.alloc (.cells x.cells.toArray 33)) B 34 34 33 i _ 2 32 Tryd.underlying34 hi hz hz3 hz40 rfl (by omega) v xs.length (dtcells xs) ((h.later ka).own) (some ⟨w.heap.size, 0, none⟩) 1 1 x.cells rfl (by simp) (by omega)
    (fun ad had j u hu => by
      obtain rfl := Option.some.inj had
      have := range_new w x.cells 33 j u hu
      rw [Addr.add_lit]
      exact this) (by
        intro u hu
        obtain ⟨a, c, e, _⟩ := hr
        simp [Dr.cells] at hu
        rcases hu with rfl | rfl
        · rfl
        · rw [e]; rfl) (by unfold maxLen; omega) (by omega) (by simp; omega)
  have kk : Keeps v.ownBlock.toList w w' := (ka.mono (by simp)).grown hg (fun k hk => Or.inl (by simp [hk]))
  refine ⟨a', c', w', hrun, ⟨by rw [List.length_append, dtcells_append]; simpa [dtcells] using ho, fun i hi => ?_⟩, kk⟩
  have key : ∀ y : Dr, RowAt w y.r y.d → Off v.ownBlock.toList y.r y.d → y.d.length ≤ 140737488351232 → RowAt w' y.r y.d ∧ Off (Value.slice a' (xs.length + 1) c').ownBlock.toList y.r y.d ∧ y.d.length ≤ 140737488351232 := fun y h1 h2 h3 => by
    refine ⟨h1.keep kk h2, fun ad m c e hne hm => ?_, h3⟩
    rcases hn with hn | hn
    · rw [hn] at hm
      exact h2 ad m c e hne hm
    · have := hn ad.block (by simpa using hm)
      have := row_block h1 e hne
      simp at *
      omega
  by_cases h' : i < xs.length
  · rw [List.getElem_append_left h']
    exact key _ (h.row i h').1 (h.row i h').2.1 (h.row i h').2.2
  · have : i = xs.length := by simp at hi; omega
    subst this
    have e : (xs ++ [x])[xs.length] = x := by simp
    rw [e]
    exact key x hr hoff hf

def small14 (l : List Db) : Bool := decide (l.length ≤ 70) && l.all fun x => decide (x.d.length ≤ 100)
theorem small14_no {l : List Db} {k : Nat} (hk : k < l.length) (h : 100 < (l.getD k default).d.length) : small14 l = false := by
  unfold small14
  rw [Bool.and_eq_false_iff]
  right
  rw [List.all_eq_false]
  refine ⟨l[k], List.getElem_mem hk, ?_⟩
  rw [List.getD_eq_getElem?_getD, List.getElem?_eq_getElem hk] at h
  simpa using h
theorem small14_yes {l : List Db} (h0 : l.length ≤ 70) (h : ∀ k, k < l.length → (l.getD k default).d.length ≤ 100) : small14 l = true := by
  unfold small14
  rw [Bool.and_eq_true, List.all_eq_true]
  refine ⟨by simpa using h0, fun x hx => ?_⟩
  obtain ⟨k, hk, rfl⟩ := List.getElem_of_mem hx
  have := h k hk
  rw [List.getD_eq_getElem?_getD, List.getElem?_eq_getElem hk] at this
  simpa using this
theorem small14_is {l : List Db} (h : small14 l = true) : l.length ≤ 70 ∧ ∀ x ∈ l, x.d.length ≤ 100 := by
  unfold small14 at h
  rw [Bool.and_eq_true, List.all_eq_true] at h
  exact ⟨by simpa using h.1, fun x hx => by simpa using h.2 x hx⟩
set_option maxHeartbeats 6400000 in
theorem pSmall_any (w : World) (v : Value) (xs : List Dr) (hv : DsAt w v xs) : Calls Tryd.prog 12 #[v] w fun e w' => e = .returned (.bool (small14 (dbs xs))) ∧ Keeps [] w w' := by
  have hf := hv.few
  unfold maxLen at hf
  obtain ⟨a, c, rfl⟩ := hv.shape
  have HV := hid hv
  clear hv
  by_cases h70 : xs.length ≤ 70
  · have d70 : decide ((70 : Int) < (xs.length : Int)) = false := by simp; omega
    have d70b : decide (70 < xs.length) = false := by simp; omega
    go_enter Tryd.func12, Tryd.ntmps12
    go_wp2_with fail
    clear d70 d70b
    go_loopw [3] (fun iv wr => ∃ k : Nat, iv = .int .i64 k ∧ k ≤ xs.length ∧ Hid (∀ j, j < k → ((dbs xs).getD j default).d.length ≤ 100) ∧ Hid (Keeps [] w wr)) (fun iv _ => xs.length - (intOf iv).toNat)
    case atStart => exact ⟨0, rfl, Nat.zero_le _, hid (fun _ h => absurd h (Nat.not_lt_zero _)), hid (Keeps.refl _ _)⟩
    case round =>
      obtain ⟨k, rfl, hk, HALL, HK⟩ := hrel
      by_cases hlt : k < xs.length
      · obtain ⟨g, off, rfl, hg, D⟩ := (HV.out.keep HK.out).at k hlt
        obtain ⟨a', c', hr, _⟩ := id D.row
        have c1 : wr.cell? ⟨g, off + k * 2 + 1, none⟩ = some (.slice a' (xs[k]).d.length c') := by rw [← hr]; exact D.rg 1 _ rfl
        have hfit := D.fit
        have HE := hid (show ((dbs xs).getD k default).d.length = xs[k].d.length by rw [dbs_get hlt]; rfl)
        obtain ⟨ld, hld⟩ : ∃ z, z = (xs[k]).d.length := ⟨_, rfl⟩
        rw [← hld] at c1 hfit HE
        clear hr hld D hg
        by_cases h1 : ld ≤ 100
        · have d1 : decide ((100 : Int) < (ld : Int)) = false := by simp; omega
          have H1 := hid h1
          clear h1
          go_wp2_with fail
          go_roundw
          case rel =>
            refine ⟨k + 1, by go_num, by omega, hid (fun j hj => ?_), HK⟩
            by_cases e : j = k
            · subst e; rw [HE.out]; exact H1.out
            · exact HALL.out j (by omega)
          case measure => simp [intOf]; omega
        · have d1 : decide ((100 : Int) < (ld : Int)) = true := by simp; omega
          have H1 := hid h1
          clear h1
          go_wp2_with fail
          go_ret
          exact ⟨by rw [small14_no (k := k) (by rw [dbs_len]; exact hlt) (by rw [HE.out]; have := H1.out; omega)]; rfl, HK.out⟩
      · obtain rfl : k = xs.length := by omega
        go_wp2_with fail
        go_ret
        exact ⟨by rw [small14_yes (by rw [dbs_len]; exact h70) (fun j hj => HALL.out j (by rw [dbs_len] at hj; exact hj))]; rfl, HK.out⟩
  · have d70 : decide ((70 : Int) < (xs.length : Int)) = true := by simp; omega
    have d70b : decide (70 < xs.length) = true := by simp; omega
    have H70 := hid h70
    clear h70
    go_enter Tryd.func12, Tryd.ntmps12
    go_wp2_with fail
    go_ret
    refine ⟨?_, Keeps.refl _ _⟩
    have : small14 (dbs xs) = false := by
      unfold small14
      rw [dbs_len, decide_eq_false H70.out]
      rfl
    rw [this]
    rfl
set_option maxHeartbeats 12800000 in
theorem pDirty_any (w : World) (v : Value) (xs : List Dr) (hv : DsAt w v xs) (hl : xs.length ≤ 70) : Calls Tryd.prog 13 #[v] w fun e w' => ∃ u, e = .returned u ∧ DsAt w' u xs ∧ Keeps [] w w' := by
  obtain ⟨a, c, rfl⟩ := hv.shape
  have HV := hid hv
  clear hv
  go_enter Tryd.func13, Tryd.ntmps13
  go_wp2_with fail
  go_loopw [3, 4] (fun ov iv wr => ∃ (k : Nat) (ao : Option Addr) (co : Nat), iv = .int .i64 k ∧ k ≤ xs.length ∧ ov = .slice ao k co ∧ Hid (OwnDt wr w.heap.size (.slice ao k co) (xs.take k)) ∧ Hid (Keeps [] w wr)) (fun _ iv _ => xs.length - (intOf iv).toNat)
  case atStart => exact ⟨0, none, 0, rfl, Nat.zero_le _, rfl, hid (by simpa using OwnDt.nil w w.heap.size), hid (Keeps.refl _ _)⟩
  case round =>
    obtain ⟨k, ao, co, rfl, hk, rfl, HO, HK⟩ := hrel
    by_cases hlt : k < xs.length
    · obtain ⟨g, off, rfl, hg, D⟩ := (HV.out.keep HK.out).at k hlt
      obtain ⟨g0, off0, e0, hg0, D0w⟩ := HV.out.at k hlt
      injection e0 with e0
      injection e0 with e0 e0'
      subst e0; subst e0'
      have HT := hid (List.take_succ_eq_append_getElem hlt)
      obtain ⟨x, hx⟩ : ∃ x, x = xs[k] := ⟨_, rfl⟩
      rw [← hx] at D D0w HT
      clear hx
      obtain ⟨a', c', hr, _⟩ := id D.row
      obtain ⟨bb, br, bd⟩ := x
      simp only at hr
      subst hr
      have HD := hid D
      have hlo : ∀ b, (Value.slice ao k co).ownBlock = some b → w.heap.size ≤ b ∧ b < wr.heap.size := fun b hb => HO.out.blk b hb
      have HLO := hid hlo
      have ng : g ∉ (Value.slice ao k co).ownBlock.toList := fun hm => by
        have := (hlo g (by simpa using hm)).1
        omega
      have hoff : Off (Value.slice ao k co).ownBlock.toList (.slice a' bd.length c') bd := fun ad m c e hne hm => by
        have := row_block D0w.row e hne
        have := (hlo ad.block (by simpa using hm)).1
        omega
      have HOFF := hid hoff
      have HG := hid (And.intro hg ng)
      clear D D0w hlo ng hoff hg hg0
      go_wp2_with fail
      refine wp_region_any (by kernel_rfl) (wpAny_of_held (S := KpS (Value.slice ao k co).ownBlock.toList wr.heap.size wr.drew) _ _ _ _ ?_)
      change wpAnyH _ _ _ _ _ _ _ _ wr.drew
      have D0 : ∀ W1, KpS (Value.slice ao k co).ownBlock.toList wr.heap.size wr.drew W1 → W1.cell? ⟨g, off + k * 2, none⟩ = some (.int .i64 bb) := fun W1 h => h.cell (by rw [World.cell?_drew]; exact HD.out.rg 0 _ rfl) HG.out.1 HG.out.2
      have D1 : ∀ W1, KpS (Value.slice ao k co).ownBlock.toList wr.heap.size wr.drew W1 → W1.cell? ⟨g, off + k * 2 + 1, none⟩ = some (.slice a' bd.length c') := fun W1 h => h.cell (by rw [World.cell?_drew]; exact HD.out.rg 1 _ rfl) HG.out.1 HG.out.2
      refine held_take (i := 0) (v := .slice ao k co) rfl (by kernel_rfl) (by kernel_rfl) (by kernel_rfl) (fun _ _ _ h => h) rfl (fun W1 hW1 => rfl) (KpS.refl _ _ _) ?_
      simp only [Act.put, List.setIfInBounds_toArray, List.set_cons_zero, List.set_cons_succ]
      refine held_take (i := 1) (v := .slice (some ⟨g, off, none⟩) xs.length c) rfl (by kernel_rfl) (by kernel_rfl) (by kernel_rfl) (fun _ _ _ h => h) rfl (fun W1 hW1 => rfl) (KpS.refl _ _ _) ?_
      simp only [Act.put, List.setIfInBounds_toArray, List.set_cons_zero, List.set_cons_succ]
      refine held_take (i := 2) (v := .int .i64 (k : Int)) rfl (by kernel_rfl) (by kernel_rfl) (by kernel_rfl) (fun _ _ _ h => h) rfl (fun W1 hW1 => rfl) (KpS.refl _ _ _) ?_
      simp only [Act.put, List.setIfInBounds_toArray, List.set_cons_zero, List.set_cons_succ]
      refine held_take (i := 3) (v := .pointer (some ⟨g, off + k * 2, none⟩)) rfl (by kernel_rfl) (by kernel_rfl) (by kernel_rfl) (fun _ _ _ h => h) rfl (fun W1 hW1 => by go_simp) (KpS.refl _ _ _) ?_
      simp only [Act.put, List.setIfInBounds_toArray, List.set_cons_zero, List.set_cons_succ]
      refine held_take (i := 4) (v := .pointer (some ⟨g, off + k * 2, none⟩)) rfl (by kernel_rfl) (by kernel_rfl) (by kernel_rfl) (fun _ _ _ h => h) rfl (fun W1 hW1 => by go_simp) (KpS.refl _ _ _) ?_
      simp only [Act.put, List.setIfInBounds_toArray, List.set_cons_zero, List.set_cons_succ]
      refine held_take (i := 5) (v := .int .i64 bb) rfl (by kernel_rfl) (by kernel_rfl) (by kernel_rfl) (fun _ _ _ h => h) rfl (fun W1 hW1 => exec_load _ _ _ _ rfl rfl (run_loadCell W1 _ _ _ (D0 W1 hW1) (agg_no _ (by kernel_rfl)))) (KpS.refl _ _ _) ?_
      simp only [Act.put, List.setIfInBounds_toArray, List.set_cons_zero, List.set_cons_succ]
      refine held_take (i := 6) (v := .slice (some ⟨g, off, none⟩) xs.length c) rfl (by kernel_rfl) (by kernel_rfl) (by kernel_rfl) (fun _ _ _ h => h) rfl (fun W1 hW1 => rfl) (KpS.refl _ _ _) ?_
      simp only [Act.put, List.setIfInBounds_toArray, List.set_cons_zero, List.set_cons_succ]
      refine held_take (i := 7) (v := .int .i64 (k : Int)) rfl (by kernel_rfl) (by kernel_rfl) (by kernel_rfl) (fun _ _ _ h => h) rfl (fun W1 hW1 => rfl) (KpS.refl _ _ _) ?_
      simp only [Act.put, List.setIfInBounds_toArray, List.set_cons_zero, List.set_cons_succ]
      refine held_take (i := 8) (v := .pointer (some ⟨g, off + k * 2, none⟩)) rfl (by kernel_rfl) (by kernel_rfl) (by kernel_rfl) (fun _ _ _ h => h) rfl (fun W1 hW1 => by go_simp) (KpS.refl _ _ _) ?_
      simp only [Act.put, List.setIfInBounds_toArray, List.set_cons_zero, List.set_cons_succ]
      refine held_take (i := 9) (v := .pointer (some ⟨g, off + k * 2 + 1, none⟩)) rfl (by kernel_rfl) (by kernel_rfl) (by kernel_rfl) (fun _ _ _ h => h) rfl (fun W1 hW1 => by go_simp) (KpS.refl _ _ _) ?_
      simp only [Act.put, List.setIfInBounds_toArray, List.set_cons_zero, List.set_cons_succ]
      refine held_take (i := 10) (v := .slice a' bd.length c') rfl (by kernel_rfl) (by kernel_rfl) (by kernel_rfl) (fun _ _ _ h => h) rfl (fun W1 hW1 => exec_load _ _ _ _ rfl rfl (run_loadCell W1 _ _ _ (D1 W1 hW1) (agg_no _ (by kernel_rfl)))) (KpS.refl _ _ _) ?_
      simp only [Act.put, List.setIfInBounds_toArray, List.set_cons_zero, List.set_cons_succ]
      refine held_take (i := 11) (v := .agg #[.int .i64 bb, .slice a' bd.length c']) rfl (by kernel_rfl) (by kernel_rfl) (by kernel_rfl) (fun _ _ _ h => h) rfl (fun W1 hW1 => exec_buildDt _ _ rfl _ _ _ _ rfl rfl) (KpS.refl _ _ _) ?_
      simp only [Act.put, List.setIfInBounds_toArray, List.set_cons_zero, List.set_cons_succ]
      refine held_do (i := 12) (by kernel_rfl) rfl rfl (wp_value (exec_oneDt _ bb a' bd.length c' rfl rfl) ?_)
      have sB : KpS (Value.slice ao k co).ownBlock.toList wr.heap.size wr.drew (wr.drew.alloc (.cells #[.int .i64 bb, .slice a' bd.length c'] 33)) := (KpS.refl _ _ _).alloc (by simp) _
      have hw0 := HK.out.size
      have tl : (xs.take k).length = k := by rw [List.length_take]; omega
      obtain ⟨a3, c3, w2, hr2, o2, k2⟩ := append_dt (HO.out.later ((Keeps.refl [] wr).drew)) ⟨bb, .slice a' bd.length c', bd⟩ (HD.out.row.keep ((Keeps.refl [] wr).drew) (by intro _ _ _ _ _; simp)) HOFF.out HD.out.fit (by rw [tl]; omega) hw0
      rw [tl] at hr2 o2
      have eS : wr.drew.heap.size = wr.heap.size := rfl
      rw [eS] at hr2
      have K2 : Hid (Keeps [] w w2) := hid ((HK.out.drew).trans' k2 (fun j hj hm => by have := (HLO.out j (by simpa using hm)).1; omega))
      have O2 : Hid (OwnDt w2 w.heap.size (.slice a3 (k + 1) c3) (xs.take (k + 1))) := hid (by rw [HT.out]; exact o2)
      have kB : Keeps (Value.slice ao k co).ownBlock.toList wr.drew w2 := k2
      refine ⟨sB, ?_⟩
      simp only [Act.put, List.setIfInBounds_toArray, List.set_cons_zero, List.set_cons_succ]
      refine held_do (i := 13) (by kernel_rfl) rfl rfl (wp_value (exec_appendT 34 _ _ rfl rfl rfl hr2) ?_)
      have sE : KpS (Value.slice ao k co).ownBlock.toList wr.heap.size wr.drew w2 := (KpS.refl _ _ _).keeps kB (Nat.le_refl _) (fun j hj _ => hj)
      refine ⟨sE, ?_⟩
      simp only [Act.put, List.setIfInBounds_toArray, List.set_cons_zero, List.set_cons_succ]
      refine held_take (i := 14) (v := .slice a3 (k + 1) c3) rfl (by kernel_rfl) (by kernel_rfl) (by kernel_rfl) (fun _ _ _ h => h) rfl (fun W1 hW1 => by go_simp) (sE) ?_
      simp only [Act.put, List.setIfInBounds_toArray, List.set_cons_zero, List.set_cons_succ]
      refine wpAnyH_done (by kernel_rfl) ?_ _
      clear D0 D1 sB hr2 o2 k2 sE hw0 kB eS tl
      go_wp2_with fail
      go_roundw
      case rel => exact ⟨k + 1, a3, c3, by go_num, by omega, rfl, O2, K2⟩
      case measure => simp [intOf]; omega
    · obtain rfl : k = xs.length := by omega
      go_wp2_with fail
      go_ret
      exact ⟨_, rfl, by have := HO.out.at; rwa [List.take_length] at this, HK.out⟩
end Go.Proofs.YtcfmonlgpccndaaDoor
