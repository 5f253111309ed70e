/- BkH. -/
import Derived.Test.YtcfmonlgpccndaaDoorPkG21
/- blocks: resize, point. -/
namespace Go.Proofs.YtcfmonlgpccndaaDoor
open Go.RowKit Go.Shelf
set_option maxRecDepth 100000
set_option linter.unusedSimpArgs false

/-- What a call on a map leaves: the map s, its row in none of the blocks of M. -/
def SetPost (w : World) (M : List Nat) (q : Nat) (s : Bk) (v : Value) (e : Ending) (w' : World) : Prop :=
  e = .returned v ∧ (∃ u, w'.heap[q]? = some (.cells #[.bool true, .int .i64 s.sz, u] 76 (0, 0)) ∧ PtsAt w' M u s.L) ∧ Keeps [q] w w'
theorem heap_three2 {w : World} {p : Nat} {x y z : Value} {T : TypeId} (h : w.heap[p]? = some (.cells #[x, y, z] T (0, 0))) (u : Value) :
    (w.setCell ⟨p, 1, none⟩ u).heap[p]? = some (.cells #[x, u, z] T (0, 0)) ∧ (w.setCell ⟨p, 2, none⟩ u).heap[p]? = some (.cells #[x, y, u] T (0, 0)) := by
  have hlt := lt_of_block h
  have h' : w.heap[p] = .cells #[x, y, z] T (0, 0) := by simpa [Array.getElem?_eq_getElem hlt] using h
  constructor
  · show (w.heap.modify p _)[p]? = _
    rw [Array.getElem?_eq_getElem (by simpa using hlt), Array.getElem_modify_self, h']
    rfl
  · show (w.heap.modify p _)[p]? = _
    rw [Array.getElem?_eq_getElem (by simpa using hlt), Array.getElem_modify_self, h']
    rfl
theorem free_three {w : World} {p : Nat} {x y z : Value} {T : TypeId} (h : w.heap[p]? = some (.cells #[x, y, z] T (0, 0))) : w.frozen? ⟨p, 1, none⟩ = false ∧ w.frozen? ⟨p, 2, none⟩ = false := by
  constructor <;> simp [World.frozen?, h]
theorem exec_appendM {ρ : Operand → Value} {o : Oper} {w w' : World} {v u z : Value} (x y : Operand) (ho : o.op = .call { callee := .builtin .append, args := #[x, y], argTypes := #[57, 3] }) (hx : ρ x = u) (hy : ρ y = z) (h : (Builtin.append_ #[57, 3] o.type #[u, z]).run Tryd.prog w = .ok v w') : (execOp ρ o).run Tryd.prog w = .ok (.value v) w' := by
  simp [execOp, ho, resolve, invoke, builtin, hx, hy, h, Result.andThen]
theorem fit_eq (L : List Pt) (n : Nat) : fitL L n = L.take (min n L.length) ++ List.replicate (n - min n L.length) pZ := by
  unfold fitL
  by_cases h : n ≤ L.length
  · rw [Nat.min_eq_left h, Nat.sub_eq_zero_of_le h, Nat.sub_self]
  · rw [Nat.min_eq_right (by omega), List.take_of_length_le (by omega), List.take_of_length_le (Nat.le_refl _)]
set_option maxHeartbeats 1600000 in
theorem zResize_any {w : World} {M : List Nat} {q : Nat} {z : Int} {L : List Pt} {u : Value} (hb : w.heap[q]? = some (.cells #[.bool true, .int .i64 z, u] 76 (0, 0))) (hu : PtsAt w M u L) (hq : q ∈ M) (hM : ∀ b ∈ M, b < w.heap.size) (hL : L.length ≤ 64) (s : Int) (h0 : 0 ≤ s) (h1 : s ≤ 4096) :
    Calls Tryd.prog 35 #[.pointer (some ⟨q, 0, none⟩), .int .i64 s] w (SetPost w M q ⟨s, fitL L (cnt s)⟩ (.tuple #[])) := by
  obtain ⟨a, c, rfl⟩ := hu.shape
  have HB := hid hb
  have HU := hid hu
  have HM := hid hM
  have HQ := hid hq
  obtain ⟨hcap, hcm⟩ : L.length ≤ c ∧ c ≤ maxLen := by
    obtain ⟨a', cap, e, g1, g2, _⟩ := hu
    injection e with _ _ e3
    subst e3
    exact ⟨g1, g2⟩
  obtain ⟨n, hn⟩ : ∃ n : Nat, n = cnt s := ⟨_, rfl⟩
  have hn64 : n ≤ 64 := by rw [hn]; exact cnt_le h1
  have hdiv : (s + 63) / 64 = (n : Int) := by rw [hn]; unfold cnt; omega
  obtain ⟨t, ht⟩ : ∃ t : Nat, t = min n L.length := ⟨_, rfl⟩
  have htn : t ≤ n := by omega
  have htL : t ≤ L.length := by omega
  have hmin : min (n : Int) (L.length : Int) = (t : Int) := by omega
  have hE := hid (fit_eq L n)
  rw [← hn]
  obtain ⟨c0, c1, c2⟩ := block_cells3 hb
  obtain ⟨f1, f2⟩ := free_three hb
  obtain ⟨b1, _⟩ := heap_three2 hb (.int .i64 s)
  have k1 : Keeps [q] w (w.setCell ⟨q, 1, none⟩ (.int .i64 s)) := (Keeps.refl [q] w).setCell (Or.inl (by simp)) _
  have B1 := hid b1
  have K1 := hid k1
  obtain ⟨d0, d1, d2⟩ := block_cells3 b1
  obtain ⟨g1, g2⟩ := free_three b1
  have U1 := hu.keep k1 (by simpa using hq)
  have CUT := hid (fun W => ptrs_cut a L.length c t hcap htL W)
  have HC : PtsAt (w.setCell ⟨q, 1, none⟩ (.int .i64 s)) M (.slice a t t) (L.take t) := by
    have hlen : (L.take t).length = t := by rw [List.length_take]; omega
    obtain ⟨a', cap', e, q1, q2, q0, q4⟩ := U1
    injection e with e1 e2 e3
    subst e1; subst e3
    refine ⟨a, t, by rw [hlen], by rw [hlen]; exact Nat.le_refl _, by omega, fun ha => by have := q0 ha; omega, fun ad had => ?_⟩
    obtain ⟨g, off, rfl, hg, hgM, hr⟩ := q4 ad had
    refine ⟨g, off, rfl, hg, hgM, fun j v hv => hr j v ?_⟩
    rw [pcells_take, List.getElem?_take] at hv
    split at hv
    · exact hv
    · cases hv
  have hlen : (L.take t).length = t := by rw [List.length_take]; omega
  obtain ⟨a', c', w2, hrun, o2, k2⟩ := append_make (w.setCell ⟨q, 1, none⟩ (.int .i64 s)) M (fun b hb => by have := hM b hb; simpa [World.setCell] using this) 57 a (L.take t) (n - t) (by rw [hlen]; exact HC) (by rw [hlen]; omega)
  rw [hlen] at hrun o2
  have RUN := hid hrun
  have e3 : (((n - t : Nat)) : Int) = (n : Int) - (t : Int) := by omega
  rw [e3] at RUN
  have O2 := hid o2
  have K2 := hid k2
  have B2 := hid ((k2.block q (lt_of_block b1) (by simp)).trans b1)
  have h2 := B2.out
  obtain ⟨x0, x1, x2⟩ := block_cells3 h2
  obtain ⟨y1, y2⟩ := free_three h2
  have HT := hid ht
  have HN := hid hn
  clear hrun o2 k2 HC U1 b1 k1 hb hu hM hq hcm e3 h2 ht hn hlen
  have L0 : (0 : Int) ≤ s := h0
  have q1 : (s + 64 - 1) = s + 63 := by omega
  go_enter Tryd.func35, Tryd.ntmps35
  go_wp2_with (first | (refine wpList_is rfl _ _ (exec_sliceR 57 _ _ _ _ rfl (CUT.out _)) ?_) | (refine wpList_is rfl _ _ (exec_appendM _ _ rfl rfl rfl RUN.out) ?_) | fail)
  go_end0
  have k3 : Keeps [q] w2 (w2.setCell ⟨q, 2, none⟩ (.slice a' n c')) := (Keeps.refl [q] w2).setCell (Or.inl (by simp)) _
  have e4 : t + (n - t) = n := by omega
  rw [e4] at O2
  have e5 : fitL L n = L.take t ++ List.replicate (n - t) pZ := by rw [hE.out, ← HT.out]
  refine ⟨rfl, ⟨_, (heap_three2 B2.out _).2, ?_⟩, (K1.out.trans (K2.out.mono (by simp))).trans k3⟩
  rw [e5]
  exact O2.out.keep k3 (by simpa using HQ.out)

/-- A row of the call's own with one pointer written over. -/
theorem own_set {w : World} {B : Nat} {M : List Nat} {v : Value} {ps : List Pt} (h : OwnP w B M v ps) (k : Nat) (hk : k < ps.length) :
    ∃ g cap cur, v = .slice (some ⟨g, 0, none⟩) ps.length cap ∧ B ≤ g ∧ w.heap[g]? = some (.cells cur 36 (0, 0)) ∧ ps.length ≤ cap ∧ k * 5 + 5 ≤ cur.size ∧
      ∀ (x : Pt) (w' : World), w'.heap[g]? = some (.cells (cur.toList.take (k * 5) ++ x.cells ++ cur.toList.drop (k * 5 + 5)).toArray 36 (0, 0)) → OwnP w' B M v (ps.set k x) := by
  rcases h.row.2 with ⟨rfl, h0⟩ | ⟨g, cap, cur, rfl, hb, hg, hnc, hcm, hcs, ht⟩
  · omega
  · have hl : cur.toList.length = cap * 5 := by simpa using hcs
    have hfit : k * 5 + 5 ≤ cap * 5 := by have : k + 1 ≤ cap := by omega
                                          omega
    refine ⟨g, cap, cur, rfl, hb, hg, hnc, by omega, fun x w' hw => ⟨⟨by rw [pcells_length], .inr ⟨g, cap, _, by simp, hb, hw, by simpa using hnc, hcm, ?_, ?_⟩⟩, h.lt⟩⟩
    · have : x.cells.length = 5 := rfl
      simp only [List.size_toArray, List.length_append, List.length_take, List.length_drop, this]
      omega
    · have lx : x.cells.length = 5 := rfl
      have e1 : ps.set k x = ps.take k ++ [x] ++ ps.drop (k + 1) := by
        rw [List.set_eq_take_append_cons_drop, if_pos hk]
        simp
      rw [e1, pcells_append, pcells_append, pcells_take, pcells_drop, ← ht]
      simp only [List.length_append, List.length_take, List.length_drop, List.length_cons, List.length_nil]
      have lt1 : (cur.toList.take (k * 5)).length = k * 5 := by rw [List.length_take]; omega
      have e2 : pcells [x] = x.cells := by simp [pcells]
      have l3 : (cur.toList.take (k * 5) ++ x.cells).length = k * 5 + 5 := by rw [List.length_append, lt1, lx]
      have m0 : min k ps.length + (0 + 1) + (ps.length - (k + 1)) = ps.length := by omega
      rw [e2, List.take_take, List.take_append, m0, l3, List.drop_take, List.take_of_length_le (by rw [l3]; omega), Nat.min_eq_left (by omega)]
      congr 1
      rw [show (k + 1) * 5 = k * 5 + 5 by omega, show ps.length * 5 - (k * 5 + 5) = ps.length * 5 - (k * 5 + 5) from rfl]
set_option maxHeartbeats 3200000 in
theorem zPoint_any {w : World} {M : List Nat} {q : Nat} {z : Int} {L : List Pt} {u : Value} (hb : w.heap[q]? = some (.cells #[.bool true, .int .i64 z, u] 76 (0, 0))) (hu : PtsAt w M u L) (hq : q ∈ M) (hM : ∀ b ∈ M, b < w.heap.size) (hL : L.length ≤ 64) (k : Nat) (hk : k < L.length) (x : Pt) :
    Calls Tryd.prog 36 #[.pointer (some ⟨q, 0, none⟩), .int .i64 (k : Int), ptV x] w (SetPost w M q ⟨z, L.set k x⟩ (.tuple #[])) := by
  obtain ⟨a, c, rfl⟩ := hu.shape
  have HM := hid hM
  have HQ := hid hq
  have ka : Keeps [] w (w.alloc (.cells x.cells.toArray 36)) := (Keeps.refl [] w).alloc _
  have KA := hid ka
  have RA := hid (range_new w x.cells 36)
  have b1 := (ka.block q (lt_of_block hb) (by simp)).trans hb
  have B1 := hid b1
  obtain ⟨c0, c1, c2⟩ := block_cells3 b1
  have CL := hid (zClone0_any (w.alloc (.cells x.cells.toArray 36)) M (fun b hb => by have := hM b hb; simp; omega) _ L (hu.later ka) (by omega))
  have hz1 : (w.alloc (.cells x.cells.toArray 36)).heap.size = w.heap.size + 1 := by simp
  have HZ1 := hid hz1
  clear hu hb hq hM ka b1 c0 c1 hz1
  go_enter Tryd.func36, Tryd.ntmps36
  go_wp2_with (first | (refine wpList_is rfl _ _ (exec_box 36 _ x.cells.toArray rfl rfl) ?_) | fail)
  clear c2
  generalize w.alloc (.cells x.cells.toArray 36) = w1 at KA RA B1 CL HZ1 ⊢
  refine CL.out.mono ?_
  rintro e w2 ⟨a2, cp, rfl, o2, k2⟩
  obtain ⟨g, cap, cur, hv, hBg, hgb, hnc, hfit, hset⟩ := own_set (o2.keep ((Keeps.refl [q] w2).setCell (p := ⟨q, 2, none⟩) (Or.inl (by simp)) (.slice a2 L.length cp)) (by simpa using HQ.out)) k hk
  injection hv with e1 _ e3
  subst e1; subst e3
  have b2 := (k2.block q (lt_of_block B1.out) (by simp)).trans B1.out
  obtain ⟨f1, f2⟩ := free_three b2
  obtain ⟨x0, x1, x2⟩ := block_cells3 b2
  obtain ⟨_, b3⟩ := heap_three2 b2 (.slice (some ⟨g, 0, none⟩) L.length cp)
  have k3 : Keeps [q] w2 (w2.setCell ⟨q, 2, none⟩ (.slice (some ⟨g, 0, none⟩) L.length cp)) := (Keeps.refl [q] w2).setCell (Or.inl (by simp)) _
  have R3 := hid (range_keep (range_keep RA.out k2 (by simp)) k3 (by have := lt_of_block B1.out; have := HM.out q HQ.out; simp; omega))
  have K3 := hid ((KA.out.trans k2).mono (S' := [q]) (by simp) |>.trans k3)
  have B3 := hid b3
  have HGB := hid hgb
  have HSET := hid hset
  have HFIT := hid hfit
  have HBG := hid hBg
  clear o2 k2 b2 x0 x1 k3 b3 hgb hset hfit hBg
  go_wp2_with fail
  generalize w2.setCell ⟨q, 2, none⟩ (.slice (some ⟨g, 0, none⟩) L.length cp) = w3 at K3 B3 R3 HGB ⊢
  have hw3 : w.heap.size + 1 ≤ w3.heap.size := by have := lt_of_block HGB.out; have := HZ1.out; have := HBG.out; omega
  have HW3 := hid hw3
  clear hw3 f1 f2 x2
  refine wp_region_any (by kernel_rfl) (wpAny_of_held (S := KpS [] (w.heap.size + 1) w3.drew) _ _ _ _ ?_)
  change wpAnyH _ _ _ _ _ _ _ _ w3.drew
  have cQ : ∀ W1, KpS [] (w.heap.size + 1) w3.drew W1 → W1.cell? ⟨q, 2, none⟩ = some (.slice (some ⟨g, 0, none⟩) L.length cp) := fun W1 h => h.cell (by rw [World.cell?_drew]; exact (block_cells3 B3.out).2.2) (by have := HM.out q HQ.out; omega) (by simp)
  have cX : ∀ W1, KpS [] (w.heap.size + 1) w3.drew W1 → W1.rangeAt w.heap.size 0 x.cells := fun W1 h j v hv => h.cell (by rw [World.cell?_drew]; exact R3.out j v hv) (by omega) (by simp)
  refine held_take (i := 0) (v := .pointer (some ⟨q, 0, none⟩)) rfl (by kernel_rfl) (by kernel_rfl) (by kernel_rfl) (fun _ _ _ h => h) rfl (fun W1 hW1 => rfl) (KpS.refl _ _ _) ?_
  simp only [Act.put, List.setIfInBounds_toArray, List.set_cons_zero, List.set_cons_succ]
  refine held_take (i := 1) (v := .pointer (some ⟨q, 0, none⟩)) rfl (by kernel_rfl) (by kernel_rfl) (by kernel_rfl) (fun _ _ _ h => h) rfl (fun W1 hW1 => by go_simp) (KpS.refl _ _ _) ?_
  simp only [Act.put, List.setIfInBounds_toArray, List.set_cons_zero, List.set_cons_succ]
  refine held_take (i := 2) (v := .pointer (some ⟨q, 2, none⟩)) rfl (by kernel_rfl) (by kernel_rfl) (by kernel_rfl) (fun _ _ _ h => h) rfl (fun W1 hW1 => by go_simp) (KpS.refl _ _ _) ?_
  simp only [Act.put, List.setIfInBounds_toArray, List.set_cons_zero, List.set_cons_succ]
  refine held_take (i := 3) (v := .slice (some ⟨g, 0, none⟩) L.length cp) rfl (by kernel_rfl) (by kernel_rfl) (by kernel_rfl) (fun _ _ _ h => h) rfl (fun W1 hW1 => exec_load _ _ _ _ rfl rfl (run_loadCell W1 _ _ _ (cQ W1 hW1) (agg_no _ (by kernel_rfl)))) (KpS.refl _ _ _) ?_
  simp only [Act.put, List.setIfInBounds_toArray, List.set_cons_zero, List.set_cons_succ]
  refine held_take (i := 4) (v := .int .i64 (k : Int)) rfl (by kernel_rfl) (by kernel_rfl) (by kernel_rfl) (fun _ _ _ h => h) rfl (fun W1 hW1 => rfl) (KpS.refl _ _ _) ?_
  simp only [Act.put, List.setIfInBounds_toArray, List.set_cons_zero, List.set_cons_succ]
  refine held_take (i := 5) (v := ptV x) rfl (by kernel_rfl) (by kernel_rfl) (by kernel_rfl) (fun _ _ _ h => h) rfl (fun W1 hW1 => exec_load _ _ _ _ rfl rfl (loadPt_run W1 w.heap.size 0 x (cX W1 hW1))) (KpS.refl _ _ _) ?_
  simp only [Act.put, List.setIfInBounds_toArray, List.set_cons_zero, List.set_cons_succ]
  refine held_take (i := 6) (v := .pointer (some ⟨g, k * 5, none⟩)) rfl (by kernel_rfl) (by kernel_rfl) (by kernel_rfl) (fun _ _ _ h => h) rfl (fun W1 hW1 => by go_simp) (KpS.refl _ _ _) ?_
  simp only [Act.put, List.setIfInBounds_toArray, List.set_cons_zero, List.set_cons_succ]
  have hbD : w3.drew.heap[g]? = some (.cells cur 36 (0, 0)) := HGB.out
  obtain ⟨s1, s2⟩ := setRow_keepsP (cs := (cur.toList.take (k * 5) ++ x.cells ++ cur.toList.drop (k * 5 + 5)).toArray) hbD
  refine held_do (i := 7) (by kernel_rfl) rfl rfl (wp_stored (exec_storePtAt _ _ rfl g (k * 5) rfl cur hbD HFIT.out x rfl) ⟨(KpS.refl _ _ _).keeps s2 (by have := HW3.out; simpa using this) (fun i hi hlt => by simp at hi; have := HBG.out; have := HZ1.out; omega), ?_⟩)
  simp only [Act.put]
  refine wpAnyH_done (by kernel_rfl) ?_ _
  have K4 := hid (K3.out.drew.trans' s2 (fun i hi hm => by simp at hm; have := HBG.out; have := HZ1.out; omega))
  have B4 := hid ((s2.block q (lt_of_block B3.out) (by have := lt_of_block B1.out; have := HBG.out; simp; omega)).trans B3.out)
  have O4 := hid (HSET.out x _ s1)
  clear cQ cX s1 s2 hbD
  go_end0
  exact ⟨rfl, ⟨_, B4.out, by have := O4.out.at; simpa using this⟩, K4.out⟩
end Go.Proofs.YtcfmonlgpccndaaDoor
