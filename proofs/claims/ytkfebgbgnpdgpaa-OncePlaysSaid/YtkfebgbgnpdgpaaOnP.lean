/- once: the walk of the reference's Done. -/
import Derived.Test.YtkfebgbgnpdgpaaOnO
import Derived.Test.YtkfebgbgnpdgpaaOnRowsW
import Derived.Deep.CutRange
namespace Go.Proofs.Ytkfebgbgnpdgpaa
open Go.RowKit Go.Shelf
set_option maxRecDepth 100000
set_option linter.unusedSimpArgs false

theorem any_wpL {P : Program} {ops : Array Oper} {Q : Exit → Act → World → Prop} {i : Nat} {o : Oper} {a : Act} {w : World} {K : Act → World → Prop} (ho : ops.toList[i]? = some o) (hg : o.guard = none) (h : o.wp P a w K Q) : wpOp P ops Q i K a w := any_wp (by simpa using ho) hg h
theorem any_opL {P : Program} {ops : Array Oper} {Q : Exit → Act → World → Prop} {i : Nat} {o : Oper} {a : Act} {w w' : World} {v : Value} {K : Act → World → Prop} (ho : ops.toList[i]? = some o) (hg : o.guard = none) (hrun : (execOp a.eval o).run P w = .ok (.value v) w') (h : K (a.put o.dst v) w') : wpOp P ops Q i K a w := any_op (by simpa using ho) hg hrun h

/-- What Done has laid of the first rows: those of lower clients, its own one, those of higher ones. -/
def insR (c : Int) (r : Rw) (b : Bool) (xs : List Rw) : List Rw := xs.filter (fun x => decide (x.c < c)) ++ (if b then [r] else []) ++ xs.filter (fun x => decide (c < x.c))
def InsOk (c : Int) (b : Bool) (xs : List Rw) : Prop := (b = false → ∀ x ∈ xs, x.c < c) ∧ (b = true → ∃ x ∈ xs, c ≤ x.c)
theorem rows_sorted {w q M T v rs} (h : RefAt w q M T v rs) : rs.Pairwise fun a b => a.c < b.c := by
  have := refLk_sorted T 4
  rw [show refLk T 4 = rs.map Rw.con from h.con.symm, List.pairwise_map] at this
  exact this
theorem sorted_at {rs : List Rw} (h : rs.Pairwise fun a b => a.c < b.c) {k : Nat} (hk : k < rs.length) : ∀ x ∈ rs.take k, x.c < rs[k].c := fun x hx => by
  have hs := h
  rw [← List.take_append_drop k rs, List.pairwise_append] at hs
  exact hs.2.2 x hx _ (by rw [← List.getElem_cons_drop hk]; exact List.mem_cons_self ..)
theorem ins_lt {c : Int} {r x : Rw} {xs : List Rw} {b : Bool} (hi : InsOk c b xs) (hs : ∀ y ∈ xs, y.c < x.c) (h : x.c < c) : b = false ∧ insR c r b (xs ++ [x]) = insR c r b xs ++ [x] ∧ InsOk c b (xs ++ [x]) := by
  have hb : b = false := by
    cases b with
    | false => rfl
    | true =>
      obtain ⟨y, hy, hc⟩ := hi.2 rfl
      have := hs y hy
      omega
  subst hb
  have h2 : xs.filter (fun x => decide (c < x.c)) = [] := List.filter_eq_nil_iff.2 (fun y hy => by have := hi.1 rfl y hy; simp; omega)
  refine ⟨rfl, ?_, fun _ y hy => ?_, by simp⟩
  · unfold insR
    rw [List.filter_append, List.filter_append, h2]
    have e1 : [x].filter (fun x => decide (x.c < c)) = [x] := by simp [h]
    have e2 : [x].filter (fun x => decide (c < x.c)) = [] := by simp; omega
    rw [e1, e2]
    simp
  · rcases List.mem_append.1 hy with hy | hy
    · exact hi.1 rfl y hy
    · simp at hy; subst hy; exact h
theorem ins_eq {c : Int} {r x : Rw} {xs : List Rw} {b : Bool} (hi : InsOk c b xs) (hs : ∀ y ∈ xs, y.c < x.c) (h : x.c = c) : b = false ∧ insR c r true (xs ++ [x]) = insR c r b xs ++ [r] ∧ InsOk c true (xs ++ [x]) := by
  have hb : b = false := by
    cases b with
    | false => rfl
    | true =>
      obtain ⟨y, hy, hc⟩ := hi.2 rfl
      have := hs y hy
      omega
  subst hb
  have h2 : xs.filter (fun x => decide (c < x.c)) = [] := List.filter_eq_nil_iff.2 (fun y hy => by have := hi.1 rfl y hy; simp; omega)
  refine ⟨rfl, ?_, by simp, fun _ => ⟨x, by simp, by omega⟩⟩
  unfold insR
  rw [List.filter_append, List.filter_append, h2]
  have e1 : [x].filter (fun x => decide (x.c < c)) = [] := by simp; omega
  have e2 : [x].filter (fun x => decide (c < x.c)) = [] := by simp; omega
  rw [e1, e2]
  simp
theorem ins_gt0 {c : Int} {r x : Rw} {xs : List Rw} (hi : InsOk c false xs) (h : c < x.c) : insR c r true (xs ++ [x]) = (insR c r false xs ++ [r]) ++ [x] ∧ InsOk c true (xs ++ [x]) := by
  have h2 : xs.filter (fun x => decide (c < x.c)) = [] := List.filter_eq_nil_iff.2 (fun y hy => by have := hi.1 rfl y hy; simp; omega)
  refine ⟨?_, by simp, fun _ => ⟨x, by simp, by omega⟩⟩
  unfold insR
  rw [List.filter_append, List.filter_append, h2]
  have e1 : [x].filter (fun x => decide (x.c < c)) = [] := by simp; omega
  have e2 : [x].filter (fun x => decide (c < x.c)) = [x] := by simp [h]
  rw [e1, e2]
  simp
theorem ins_gt1 {c : Int} {r x : Rw} {xs : List Rw} (h : c < x.c) : insR c r true (xs ++ [x]) = insR c r true xs ++ [x] ∧ InsOk c true (xs ++ [x]) := by
  refine ⟨?_, by simp, fun _ => ⟨x, by simp, by omega⟩⟩
  unfold insR
  rw [List.filter_append, List.filter_append]
  have e1 : [x].filter (fun x => decide (x.c < c)) = [] := by simp; omega
  have e2 : [x].filter (fun x => decide (c < x.c)) = [x] := by simp [h]
  rw [e1, e2]
  simp
theorem insR_len (c : Int) (r : Rw) (b : Bool) (xs : List Rw) : (insR c r b xs).length ≤ 2 * xs.length + 1 := by
  unfold insR
  have h1 := List.length_filter_le (fun x : Rw => decide (x.c < c)) xs
  have h2 := List.length_filter_le (fun x : Rw => decide (c < x.c)) xs
  cases b <;> simp only [List.length_append, List.length_nil, List.length_singleton, if_true, if_false, Bool.false_eq_true] <;> omega
theorem ins_end {c : Int} {r : Rw} {xs : List Rw} (hi : InsOk c false xs) : insR c r true xs = insR c r false xs ++ [r] := by
  have h2 : xs.filter (fun x => decide (c < x.c)) = [] := List.filter_eq_nil_iff.2 (fun y hy => by have := hi.1 rfl y hy; simp; omega)
  unfold insR
  rw [h2]
  simp
theorem ins_con (T : Tab) (c : Nat) (hc : c < 4) (e : Int × Int × List Int) : refL (T.put c e) = (refL T).filter (fun x => decide (x.1 < (c : Int))) ++ [((c : Int), e.1, e.2.1, e.2.2)] ++ (refL T).filter (fun x => decide ((c : Int) < x.1)) := by
  have hc' : c = 0 ∨ c = 1 ∨ c = 2 ∨ c = 3 := by omega
  rcases hc' with rfl | rfl | rfl | rfl <;> cases h0 : T 0 <;> cases h1 : T 1 <;> cases h2 : T 2 <;> cases h3 : T 3 <;> simp [refL, refLk, List.range, List.range.loop, entryT, Tab.put, h0, h1, h2, h3]

theorem insR_con {T : Tab} {rs : List Rw} (h : rs.map Rw.con = refL T) {c l s : Int} (h0 : 0 ≤ c) (h4 : c < 4) (row : Value) (bs : List Int) : (insR c ⟨c, l, s, row, bs⟩ true rs).map Rw.con = refL (T.put c.toNat (l, s, bs)) := by
  have e : ∀ p : Int → Bool, (rs.filter (fun x => p x.c)).map Rw.con = (refL T).filter (fun x => p x.1) := fun p => by
    rw [← h, List.filter_map]
    rfl
  rw [ins_con T c.toNat (by omega), show ((c.toNat : Nat) : Int) = c by omega]
  simp only [insR, if_true, List.map_append, List.map_cons, List.map_nil]
  rw [e (fun z => decide (z < c)), e (fun z => decide (c < z))]
  rfl
theorem TabOk.put {T : Tab} (h : TabOk T) {c l s : Int} (hm : mayS c l s = true) (b : List Int) : TabOk (T.put c.toNat (l, s, b)) := fun k l' s' b' hk e => by
  unfold Tab.put at e
  obtain ⟨q1, q2, _⟩ := mayS_is.1 hm
  split at e
  · rename_i hh
    simp only [Option.some.injEq, Prod.mk.injEq] at e
    obtain ⟨rfl, rfl, rfl⟩ := e
    rw [show ((k : Nat) : Int) = c by omega]
    exact hm
  · exact h k l' s' b' hk e
/-- The new rows are put in place. -/
theorem RefAt.put {w0 w : World} {q B : Nat} {M : List Nat} {T T' : Tab} {v v' : Value} {rs rs' : List Rw} (h : RefAt w0 q M T v rs) (k : Keeps [] w0 w) (ho : OwnW 60 w B M v' rs') (hc : rs'.map Rw.con = refL T') (hT : TabOk T') :
    RefAt (w.setCell ⟨q, 0, none⟩ v') q M T' v' rs' ∧ Keeps [q] w (w.setCell ⟨q, 0, none⟩ v') := by
  have h1 := h.later k
  have kk : Keeps [q] w (w.setCell ⟨q, 0, none⟩ v') := (Keeps.refl [q] w).setCell (p := ⟨q, 0, none⟩) (Or.inl (by simp)) v'
  have hb := heap_setCell_same w q 0 _ 55 v' h1.blk
  exact ⟨⟨hb, h.inM, ho.at.keep kk (by simpa using h.inM), hc, hT, fun b hb => Nat.lt_of_lt_of_le (h1.lt b hb) kk.size⟩, kk⟩

def RDone (w : World) (q : Nat) (M : List Nat) (T' : Tab) (a : Int) (e : Ending) (w' : World) : Prop := e = .returned (.int .i64 a) ∧ (∃ v' rs', RefAt w' q M T' v' rs') ∧ Keeps [q] w w'

set_option maxHeartbeats 12800000 in
theorem vDone_any (w : World) (q : Nat) (M : List Nat) (T : Tab) (v : Value) (rs : List Rw) (H : RefAt w q M T v rs) (c l s : Int) (ra : Option Addr) (rc : Nat) (bs : List Int) (hr : RowAt w (.slice ra bs.length rc) bs) (hl : bs.length ≤ 100) :
    Calls Try.prog 26 #[.pointer (some ⟨q, 0, none⟩), stV c l s, .slice ra bs.length rc] w (RDone w q M (doneT T c l s bs) (doneA T c l s)) := by
  have ka := (Keeps.refl [] w).alloc (.cells #[.int .i64 c, .int .i64 l, .int .i64 s] 57)
  have KA := hid ka
  have BA := hid (heap_alloc_new w (.cells #[.int .i64 c, .int .i64 l, .int .i64 s] 57))
  have HA := hid (H.later ka)
  have RA := hid (hr.keep ka (by intro _ _ _ _ _; simp))
  have HM := hid H.lt
  have AK := hid (vAsk_any _ q M T v rs HA.out c l s)
  clear ka H hr
  unfold stV AskPost at AK
  unfold stV
  obtain ⟨ks, hks⟩ : ∃ z, z = kindS T c l s := ⟨_, rfl⟩
  rw [← hks] at AK
  have HKS := hid hks.symm
  clear hks
  go_enter Try.func26, Try.ntmps26
  go_wp2_with fail
  obtain ⟨g, hg⟩ : ∃ g, g = w.heap.size := ⟨_, rfl⟩
  have GZ := hid (show g < (w.alloc (.cells #[.int .i64 c, .int .i64 l, .int .i64 s] 57)).heap.size by simp [hg])
  rw [← hg] at BA ⊢
  clear hg
  generalize w.alloc (.cells #[.int .i64 c, .int .i64 l, .int .i64 s] 57) = w1 at KA BA HA RA AK GZ ⊢
  by_cases h2 : ks = 2
  · subst h2
    have FT : Hid (doneT T c l s bs = T ∧ doneA T c l s = 17) := hid (by simp [doneT, doneA, HKS.out])
    go_wp2_with (first | (refine wpList_is rfl _ _ (exec_load _ _ _ _ rfl rfl (loadVB8 BA.out)) ?_) | (go_at_call 25; refine AK.out.mono ?_; rintro e w2 ⟨a2, n2, rfl, -, -, k2⟩; have K2 := hid k2; clear k2) | fail)
    go_ret
    unfold RDone
    rw [FT.out.1, FT.out.2]
    exact ⟨rfl, ⟨_, _, HA.out.later K2.out⟩, (KA.out.trans K2.out).mono (by simp)⟩
  · by_cases h1 : ks = 1
    · subst h1
      have FT : Hid (doneT T c l s bs = T ∧ doneA T c l s = 17) := hid (by simp [doneT, doneA, HKS.out])
      clear h2
      go_wp2_with (first | (refine wpList_is rfl _ _ (exec_load _ _ _ _ rfl rfl (loadVB8 BA.out)) ?_) | (go_at_call 25; refine AK.out.mono ?_; rintro e w2 ⟨a2, n2, rfl, -, -, k2⟩; have K2 := hid k2; clear k2) | fail)
      go_ret
      unfold RDone
      rw [FT.out.1, FT.out.2]
      exact ⟨rfl, ⟨_, _, HA.out.later K2.out⟩, (KA.out.trans K2.out).mono (by simp)⟩
    · have hm : mayS c l s = true := by
        cases h : mayS c l s with
        | true => rfl
        | false => have := HKS.out; simp [kindS, h] at this; omega
      have FT : Hid (doneT T c l s bs = T.put c.toNat (l, s, bs) ∧ doneA T c l s = 0) := hid (by simp [doneT, doneA, HKS.out, h1, h2])
      have b1 : (ks == 1) = false := by simpa using h1
      have b2 : (ks == 2) = false := by simpa using h2
      have MM := hid hm
      clear h1 h2 hm
      go_wp2_with (first | (refine wpList_is rfl _ _ (exec_load _ _ _ _ rfl rfl (loadVB8 BA.out)) ?_) | (go_at_call 25; refine AK.out.mono ?_; rintro e w2 ⟨a2, n2, rfl, -, -, k2⟩; have K2 := hid k2; clear k2) | fail)
      have B2 := hid ((K2.out.block _ (lt_of_block BA.out) (by simp)).trans BA.out)
      have H2 := hid (HA.out.later K2.out)
      have R2 := hid (RA.out.keep K2.out (by intro _ _ _ _ _; simp))
      have KW2 := hid (KA.out.trans K2.out)
      clear HA RA BA AK
      go_cut [9] from 25 to 28 (fun t9 wx => ∃ g9 a9 c9, t9 = .pointer (some ⟨g9, 0, none⟩) ∧ wx.heap[g9]? = some (.cells #[.int .i64 c, .int .i64 l, .int .i64 s, .slice a9 bs.length c9] 60 (0, 0)) ∧ RowAt wx (.slice a9 bs.length c9) bs ∧ (∀ ad, a9 = some ad → w.heap.size ≤ ad.block) ∧ w.heap.size ≤ g9 ∧ Keeps [] w2 wx)
      case first =>
        have gb := lt_of_block B2.out
        refine wp_region_any (by kernel_rfl) (wpAny_of_held (S := KpS [] w2.heap.size w2.drew) _ _ _ _ ?_)
        change wpAnyH _ _ _ _ _ _ _ _ w2.drew
        have E0 : ∀ W1, KpS [] w2.heap.size w2.drew W1 → W1.heap[g]? = some (.cells #[.int .i64 c, .int .i64 l, .int .i64 s] 57 (0, 0)) := fun W1 h => (h.block g gb (by simp)).trans B2.out
        refine held_take (i := 0) (v := .agg #[.int .i64 c, .int .i64 l, .int .i64 s]) rfl (by kernel_rfl) (by kernel_rfl) (by kernel_rfl) (fun _ _ _ h => h) rfl (fun W1 hW1 => exec_load _ _ _ _ rfl rfl (loadVB8 (E0 W1 hW1))) (KpS.refl _ _ _) ?_
        simp only [Act.put, List.setIfInBounds_toArray, List.set_cons_zero, List.set_cons_succ]
        refine held_take (i := 1) (v := .slice ra bs.length rc) rfl (by kernel_rfl) (by kernel_rfl) (by kernel_rfl) (fun _ _ _ h => h) rfl (fun W1 hW1 => rfl) (KpS.refl _ _ _) ?_
        simp only [Act.put, List.setIfInBounds_toArray, List.set_cons_zero, List.set_cons_succ]
        refine wpAnyH_all (rs := [2, 4]) (by kernel_rfl) (by simp) fun i hi => ?_
        simp only [List.mem_cons, List.not_mem_nil, or_false] at hi
        rcases hi with rfl | rfl
        · refine any_wpL rfl rfl (wp_enter (f := 48) (args := #[.slice ra bs.length rc]) (by go_simp) (copyR_any w2.drew _ bs (R2.out.keep ((Keeps.refl [] w2).drew) (by intro _ _ _ _ _; simp)) (by omega)) ?_)
          rintro e w3 ⟨a3, c3, rfl, r3, n3, k3⟩
          have sC : KpS [] w2.heap.size w2.drew w3 := (KpS.refl _ _ _).keeps k3 (by simp) (by simp)
          refine ⟨_, rfl, sC, ?_⟩
          simp only [Act.put, List.setIfInBounds_toArray, List.set_cons_zero, List.set_cons_succ]
          refine held_take (i := 3) (v := .agg #[.int .i64 c, .int .i64 l, .int .i64 s, .slice a3 bs.length c3]) rfl (by kernel_rfl) (by kernel_rfl) (by kernel_rfl) (fun _ _ _ h => h) rfl (fun W1 hW1 => by go_simp) (sC) ?_
          simp only [Act.put, List.setIfInBounds_toArray, List.set_cons_zero, List.set_cons_succ]
          refine held_do (i := 4) (by kernel_rfl) rfl rfl (wp_value (exec_alloc 60 _ iVRow8 rfl) ?_)
          have kD : Keeps [] w2 w3 := (Keeps.refl [] w2).drew.trans k3
          refine ⟨sC.keeps ((Keeps.refl [] w3).alloc _) kD.size (by simp), ?_⟩
          simp only [Act.put, List.setIfInBounds_toArray, List.set_cons_zero, List.set_cons_succ]
          refine held_do (i := 5) (by kernel_rfl) rfl rfl (wp_stored (exec_storeNew 60 _ _ rfl w3 _ #[.int .i64 c, .int .i64 l, .int .i64 s, .slice a3 bs.length c3] rfl rfl rfl iVRow8 rfl (by simp [Value.oneCell'])) ?_)
          have kE := (Keeps.refl [] w3).alloc (.cells #[.int .i64 c, .int .i64 l, .int .i64 s, .slice a3 bs.length c3] 60)
          refine ⟨sC.keeps kE kD.size (by simp), ?_⟩
          simp only [Act.put, List.setIfInBounds_toArray, List.set_cons_zero, List.set_cons_succ]
          refine wpAnyH_done (by kernel_rfl) ?_ _
          have hz := KW2.out.size
          have hz2 := kD.size
          have FIN := hid (show ∃ g9 a9 c9, Value.pointer (some ⟨w3.heap.size, 0, none⟩) = .pointer (some ⟨g9, 0, none⟩) ∧ (w3.alloc (.cells #[.int .i64 c, .int .i64 l, .int .i64 s, .slice a3 bs.length c3] 60)).heap[g9]? = some (.cells #[.int .i64 c, .int .i64 l, .int .i64 s, .slice a9 bs.length c9] 60 (0, 0)) ∧ RowAt (w3.alloc (.cells #[.int .i64 c, .int .i64 l, .int .i64 s, .slice a3 bs.length c3] 60)) (.slice a9 bs.length c9) bs ∧ (∀ ad, a9 = some ad → w.heap.size ≤ ad.block) ∧ w.heap.size ≤ g9 ∧ Keeps [] w2 (w3.alloc (.cells #[.int .i64 c, .int .i64 l, .int .i64 s, .slice a3 bs.length c3] 60)) from ⟨w3.heap.size, a3, c3, rfl, heap_alloc_new w3 _, r3.keep kE (by intro _ _ _ _ _; simp), fun ad had => Nat.le_trans hz (n3 ad had), by omega, kD.trans kE⟩)
          clear E0 sC k3 r3 n3 kD kE hz hz2 gb
          go_wp2_with fail
          go_meet
          exact FIN.out
        · refine any_opL rfl rfl (exec_alloc 60 _ iVRow8 rfl) ?_
          have kA : Keeps [] w2 (w2.drew.alloc (.cells #[.int .i64 0, .int .i64 0, .int .i64 0, .slice none 0 0] 60)) := (Keeps.refl [] w2).drew.alloc _
          have sA : KpS [] w2.heap.size w2.drew (w2.drew.alloc (.cells #[.int .i64 0, .int .i64 0, .int .i64 0, .slice none 0 0] 60)) := (KpS.refl _ _ _).alloc (by simp) _
          have hA := heap_alloc_new w2.drew (.cells #[.int .i64 0, .int .i64 0, .int .i64 0, .slice none 0 0] 60)
          refine ⟨sA, ?_⟩
          simp only [Act.put, List.setIfInBounds_toArray, List.set_cons_zero, List.set_cons_succ]
          generalize w2.drew.alloc (.cells #[.int .i64 0, .int .i64 0, .int .i64 0, .slice none 0 0] 60) = wA at kA sA hA ⊢
          refine held_do (i := 2) (by kernel_rfl) rfl rfl (wp_enter (f := 48) (args := #[.slice ra bs.length rc]) (by go_simp) (copyR_any wA _ bs (R2.out.keep kA (by intro _ _ _ _ _; simp)) (by omega)) ?_)
          rintro e w3 ⟨a3, c3, rfl, r3, n3, k3⟩
          have sC : KpS [] w2.heap.size w2.drew w3 := sA.keeps k3 kA.size (by simp)
          refine ⟨_, rfl, sC, ?_⟩
          simp only [Act.put, List.setIfInBounds_toArray, List.set_cons_zero, List.set_cons_succ]
          refine held_take (i := 3) (v := .agg #[.int .i64 c, .int .i64 l, .int .i64 s, .slice a3 bs.length c3]) rfl (by kernel_rfl) (by kernel_rfl) (by kernel_rfl) (fun _ _ _ h => h) rfl (fun W1 hW1 => by go_simp) (sC) ?_
          simp only [Act.put, List.setIfInBounds_toArray, List.set_cons_zero, List.set_cons_succ]
          have hA3 := (k3.block _ (lt_of_block hA) (by simp)).trans hA
          obtain ⟨gA, hgA⟩ : ∃ z, z = w2.drew.heap.size := ⟨_, rfl⟩
          rw [← hgA] at hA3 ⊢
          have hgz : w2.heap.size ≤ gA := by rw [hgA]; exact Nat.le_refl _
          have hth : w3.there gA 0 4 := fun j hj => by
            refine ⟨?_, by simp [World.frozen?, hA3]⟩
            rw [Nat.zero_add, cell_of_row _ _ _ _ _ (0, 0) hA3]
            match j, hj with
            | 0, _ => rfl
            | 1, _ => rfl
            | 2, _ => rfl
            | 3, _ => rfl
          have hset : (w3.setCells gA 0 [.int .i64 c, .int .i64 l, .int .i64 s, .slice a3 bs.length c3]).heap[gA]? = some (.cells #[.int .i64 c, .int .i64 l, .int .i64 s, .slice a3 bs.length c3] 60 (0, 0)) := by
            have x1 := heap_setCell_same w3 gA 0 _ 60 (.int .i64 c) hA3
            have x2 := heap_setCell_same _ gA (0 + 1) _ 60 (.int .i64 l) x1
            have x3 := heap_setCell_same _ gA (0 + 1 + 1) _ 60 (.int .i64 s) x2
            have x4 := heap_setCell_same _ gA (0 + 1 + 1 + 1) _ 60 (.slice a3 bs.length c3) x3
            exact x4
          have kS : Keeps [gA] w3 (w3.setCells gA 0 [.int .i64 c, .int .i64 l, .int .i64 s, .slice a3 bs.length c3]) := Keeps.setCells (Or.inl (by simp)) _ _ (Keeps.refl [gA] w3)
          have hrow : RowAt (w3.setCells gA 0 [.int .i64 c, .int .i64 l, .int .i64 s, .slice a3 bs.length c3]) (.slice a3 bs.length c3) bs := r3.keep kS (fun ad n c e hne hm => by
            injection e with e _ _
            have h1 := n3 ad e
            have h2 := lt_of_block hA
            simp at hm
            omega)
          have kT : Keeps [] w2 (w3.setCells gA 0 [.int .i64 c, .int .i64 l, .int .i64 s, .slice a3 bs.length c3]) := (kA.trans k3).trans' kS (fun j hj hm => by simp at hm; omega)
          refine held_do (i := 5) (by kernel_rfl) rfl rfl (wp_stored (exec_storeMid 60 _ _ rfl gA 0 #[.int .i64 c, .int .i64 l, .int .i64 s, .slice a3 bs.length c3] rfl rfl hth iVRow8 (by simp [Value.oneCell'])) ?_)
          refine ⟨⟨kT.os, kT.tape, kT.output, kT.size, fun j hj _ => kT.block j hj (by simp)⟩, ?_⟩
          simp only [Act.put, List.setIfInBounds_toArray, List.set_cons_zero, List.set_cons_succ]
          refine wpAnyH_done (by kernel_rfl) ?_ _
          have hz := KW2.out.size
          have hz2 := kA.size
          have FIN := hid (show ∃ g9 a9 c9, Value.pointer (some ⟨gA, 0, none⟩) = .pointer (some ⟨g9, 0, none⟩) ∧ (w3.setCells gA 0 [.int .i64 c, .int .i64 l, .int .i64 s, .slice a3 bs.length c3]).heap[g9]? = some (.cells #[.int .i64 c, .int .i64 l, .int .i64 s, .slice a9 bs.length c9] 60 (0, 0)) ∧ RowAt (w3.setCells gA 0 [.int .i64 c, .int .i64 l, .int .i64 s, .slice a3 bs.length c3]) (.slice a9 bs.length c9) bs ∧ (∀ ad, a9 = some ad → w.heap.size ≤ ad.block) ∧ w.heap.size ≤ g9 ∧ Keeps [] w2 (w3.setCells gA 0 [.int .i64 c, .int .i64 l, .int .i64 s, .slice a3 bs.length c3]) from ⟨gA, a3, c3, rfl, hset, hrow, fun ad had => by have := n3 ad had; omega, by omega, kT⟩)
          clear E0 sC k3 r3 n3 hz hz2 gb sA kA hA hA3 hgA hgz hth hset kS hrow kT
          generalize w3.setCells gA 0 [.int .i64 c, .int .i64 l, .int .i64 s, .slice a3 bs.length c3] = w5 at FIN ⊢
          go_wp2_with fail
          go_meet
          exact FIN.out
      case rest =>
        obtain ⟨g9, a9, c9, rfl, hB9, hR9, hn9, hg9, hk9⟩ := hcut
        have B9 := hid ((hk9.block _ (lt_of_block B2.out) (by simp)).trans B2.out)
        have H9 := hid (H2.out.later hk9)
        have KW9 := hid (KW2.out.trans hk9)
        have BR9 := hid hB9
        have OKR : Hid (RwOk wc M ⟨c, l, s, .slice a9 bs.length c9, bs⟩) := hid ⟨hR9, off_new hn9 HM.out, hl, by
          obtain ⟨q1, q2, _⟩ := mayS_is.1 MM.out
          constructor <;> simp <;> omega, by
          obtain ⟨q1, q2, q3, q4, _⟩ := mayS_is.1 MM.out
          constructor <;> simp <;> omega, by
          obtain ⟨q1, q2, q3, q4, q5, q6⟩ := mayS_is.1 MM.out
          constructor <;> simp <;> omega⟩
        have few := H9.out.few
        have MLT := hid H9.out.lt
        have SRT := hid (rows_sorted H9.out)
        obtain ⟨a0, cp, hv, -⟩ := id H9.out.rows
        subst hv
        clear hB9 hR9 hn9 hk9 hg9 B2 H2 R2
        go_wp2_with fail
        go_loopw [10, 11, 12] (fun lv pv iv wr => ∃ (k : Nat) (b : Bool) (ao : Option Addr) (co : Nat), k ≤ rs.length ∧ iv = .int .i64 k ∧ pv = .bool b ∧ lv = .slice ao (insR c ⟨c, l, s, .slice a9 bs.length c9, bs⟩ b (rs.take k)).length co ∧ OwnW 60 wr wc.heap.size M (.slice ao (insR c ⟨c, l, s, .slice a9 bs.length c9, bs⟩ b (rs.take k)).length co) (insR c ⟨c, l, s, .slice a9 bs.length c9, bs⟩ b (rs.take k)) ∧ InsOk c b (rs.take k) ∧ Keeps [] wc wr) (fun _ _ iv _ => rs.length - (intOf iv).toNat)
        case atStart => exact ⟨0, false, none, 0, by omega, rfl, rfl, rfl, OwnW.nil _ _ _ _ MLT.out, ⟨by simp, by simp⟩, Keeps.refl _ _⟩
        case round =>
          obtain ⟨k, b, ao, co, hk, rfl, rfl, rfl, ho, hio, kk⟩ := hrel
          have HO := hid ho
          have IO := hid hio
          have KK := hid kk
          clear ho hio kk
          have ln : (insR c ⟨c, l, s, .slice a9 bs.length c9, bs⟩ b (rs.take k)).length ≤ 9 := by
            have h1 := insR_len c ⟨c, l, s, .slice a9 bs.length c9, bs⟩ b (rs.take k)
            have h2 : (rs.take k).length ≤ 4 := by rw [List.length_take]; omega
            omega
          by_cases hlt : k < rs.length
          · obtain ⟨g1, o1, ha, -, -, -, -, -, -, -⟩ := H9.out.rows.at k hlt
            subst ha
            have HT := hid (List.take_succ_eq_append_getElem hlt)
            have SAT := hid (sorted_at SRT.out hlt)
            have OKX := hid (H9.out.rows.ok _ (List.getElem_mem hlt))
            obtain ⟨x, hx⟩ : ∃ x, x = rs[k] := ⟨_, rfl⟩
            rw [← hx] at HT SAT OKX
            have HX := hid hx
            obtain ⟨rax, rcx, hrowx, -⟩ := OKX.out.row
            have HROWX := hid hrowx
            clear hx hrowx
            by_cases h1 : x.c < c
            · obtain ⟨rfl, i1, i2⟩ := ins_lt (r := ⟨c, l, s, .slice a9 bs.length c9, bs⟩) IO.out SAT.out h1
              have I1 := hid i1
              have I2 := hid i2
              clear i1 i2
              have t1 : decide (c ≤ x.c) = false := by simp; omega
              have t2 : (x.c != c) = true := by simp; omega
              clear h1
              have kr0 := Keeps.refl [] wr
              have hc0 := (H9.out.later KK.out).cell
              obtain ⟨_, _, hae, -, hgl, -, hd0, hd1, hd2, hd3⟩ := (H9.out.later KK.out).rows.at k hlt
              injection hae with hae
              injection hae with e1 e2 _
              subst e1; subst e2
              rw [← HX.out] at hd0 hd1 hd2 hd3
              rw [HROWX.out] at hd3
              have hb0 := (block_cells3 ((KK.out.block _ (lt_of_block B9.out) (by simp)).trans B9.out)).1
              have c0 : ∀ n, (wr.drewN n).cell? ⟨q, 0, none⟩ = some (.slice (some ⟨g1, o1, none⟩) rs.length cp) := fun n => hc0
              have d0 : ∀ n, (wr.drewN n).cell? ⟨g1, o1 + k * 4, none⟩ = some (.int .i64 x.c) := fun n => hd0
              have b0 : ∀ n, (wr.drewN n).cell? ⟨g, 0, none⟩ = some (.int .i64 c) := fun n => hb0
              go_wp2_with fail
              go_quiet (fail)
              have kq1 := KK.out.trans ((Keeps.refl [] wr).drewN nq)
              have kr1 := kr0.trans ((Keeps.refl [] wr).drewN nq)
              clear c0 d0 b0 hc0 hd0 hb0 hd1 hd2 hd3 hgl
              generalize wr.drewN nq = wq1 at kq1 kr1 ⊢
              have hc0 := (H9.out.later kq1).cell
              obtain ⟨_, _, hae, -, hgl, -, hd0, hd1, hd2, hd3⟩ := (H9.out.later kq1).rows.at k hlt
              injection hae with hae
              injection hae with e1 e2 _
              subst e1; subst e2
              rw [← HX.out] at hd0 hd1 hd2 hd3
              rw [HROWX.out] at hd3
              have hb0 := (block_cells3 ((kq1.block _ (lt_of_block B9.out) (by simp)).trans B9.out)).1
              have c0 : ∀ n, (wq1.drewN n).cell? ⟨q, 0, none⟩ = some (.slice (some ⟨g1, o1, none⟩) rs.length cp) := fun n => hc0
              have d0 : ∀ n, (wq1.drewN n).cell? ⟨g1, o1 + k * 4, none⟩ = some (.int .i64 x.c) := fun n => hd0
              have b0 : ∀ n, (wq1.drewN n).cell? ⟨g, 0, none⟩ = some (.int .i64 c) := fun n => hb0
              go_wp2_with fail
              go_quiet (fail)
              have kq2 := kq1.trans ((Keeps.refl [] wq1).drewN nq)
              have kr2 := kr1.trans ((Keeps.refl [] wq1).drewN nq)
              clear c0 d0 b0 hc0 hd0 hb0 hd1 hd2 hd3 hgl
              generalize wq1.drewN nq = wq2 at kq2 kr2 ⊢
              obtain ⟨a4, c4, w4, hr4, o4, k4⟩ := append_row rtV (HO.out.later kr2) x (OKX.out.later kq2) (off_own OKX.out (fun b hb => ((HO.out.later kr2).blk b hb).1)) (by first | omega | (simp; omega)) (Nat.le_trans (Nat.le_refl _) kq2.size) 50 HROWX.out
              have kk4 : Keeps [] wc w4 := kq2.trans' k4 (fun j hj hm => by have := ((HO.out.later kr2).blk j (by simpa using hm)).1; omega)
              have R4 := hid hr4
              have O4 := hid o4
              have KK4 := hid kk4
              clear hr4 o4 k4 kk4
              have hc0 := (H9.out.later kq2).cell
              obtain ⟨_, _, hae, -, hgl, -, hd0, hd1, hd2, hd3⟩ := (H9.out.later kq2).rows.at k hlt
              injection hae with hae
              injection hae with e1 e2 _
              subst e1; subst e2
              rw [← HX.out] at hd0 hd1 hd2 hd3
              rw [HROWX.out] at hd3
              have hb0 := (block_cells3 ((kq2.block _ (lt_of_block B9.out) (by simp)).trans B9.out)).1
              have c0 : ∀ n, (wq2.drewN n).cell? ⟨q, 0, none⟩ = some (.slice (some ⟨g1, o1, none⟩) rs.length cp) := fun n => hc0
              have d0 : ∀ n, (wq2.drewN n).cell? ⟨g1, o1 + k * 4, none⟩ = some (.int .i64 x.c) := fun n => hd0
              have b0 : ∀ n, (wq2.drewN n).cell? ⟨g, 0, none⟩ = some (.int .i64 c) := fun n => hb0
              go_wp2_with (first | (refine wpList_is rfl _ _ (exec_load _ _ _ _ rfl rfl (loadVRw hd0 hd1 hd2 hd3)) ?_) | (refine wpList_is rfl _ _ (exec_oneRw rtV _ _ _ _ _ _ _ rfl rfl) ?_) | (at_builtin; refine wpList_is rfl _ _ (exec_appendT 50 _ _ rfl rfl rfl R4.out) ?_) | fail)
              go_roundw
              case rel =>
                refine ⟨k + 1, false, a4, c4, by omega, by go_num, rfl, ?_, ?_, by rw [HT.out]; exact I2.out, KK4.out⟩
                · rw [HT.out, I1.out, List.length_append]; rfl
                · rw [HT.out, I1.out, List.length_append]; exact O4.out
              case measure => simp [intOf]; omega
            · by_cases h2 : x.c = c
              · obtain ⟨rfl, i1, i2⟩ := ins_eq (r := ⟨c, l, s, .slice a9 bs.length c9, bs⟩) IO.out SAT.out h2
                have I1 := hid i1
                have I2 := hid i2
                clear i1 i2
                have t1 : decide (c ≤ x.c) = true := by simp; omega
                have t2 : (x.c != c) = false := by simp; omega
                clear h1 h2
                have kr0 := Keeps.refl [] wr
                have hc0 := (H9.out.later KK.out).cell
                obtain ⟨_, _, hae, -, hgl, -, hd0, hd1, hd2, hd3⟩ := (H9.out.later KK.out).rows.at k hlt
                injection hae with hae
                injection hae with e1 e2 _
                subst e1; subst e2
                rw [← HX.out] at hd0 hd1 hd2 hd3
                rw [HROWX.out] at hd3
                have hb0 := (block_cells3 ((KK.out.block _ (lt_of_block B9.out) (by simp)).trans B9.out)).1
                have c0 : ∀ n, (wr.drewN n).cell? ⟨q, 0, none⟩ = some (.slice (some ⟨g1, o1, none⟩) rs.length cp) := fun n => hc0
                have d0 : ∀ n, (wr.drewN n).cell? ⟨g1, o1 + k * 4, none⟩ = some (.int .i64 x.c) := fun n => hd0
                have b0 : ∀ n, (wr.drewN n).cell? ⟨g, 0, none⟩ = some (.int .i64 c) := fun n => hb0
                go_wp2_with fail
                go_quiet (fail)
                have kq1 := KK.out.trans ((Keeps.refl [] wr).drewN nq)
                have kr1 := kr0.trans ((Keeps.refl [] wr).drewN nq)
                clear c0 d0 b0 hc0 hd0 hb0 hd1 hd2 hd3 hgl
                generalize wr.drewN nq = wq1 at kq1 kr1 ⊢
                obtain ⟨a4, c4, w4, hr4, o4, k4⟩ := append_row rtV (HO.out.later kr1) ⟨c, l, s, .slice a9 bs.length c9, bs⟩ (OKR.out.later kq1) (off_own OKR.out (fun b hb => ((HO.out.later kr1).blk b hb).1)) (by first | omega | (simp; omega)) (Nat.le_trans (Nat.le_refl _) kq1.size) 50 rfl
                have kk4 : Keeps [] wc w4 := kq1.trans' k4 (fun j hj hm => by have := ((HO.out.later kr1).blk j (by simpa using hm)).1; omega)
                have R4 := hid hr4
                have O4 := hid o4
                have KK4 := hid kk4
                clear hr4 o4 k4 kk4
                obtain ⟨X0, X1, X2, X3⟩ := block_cells4 ((kq1.block _ (lt_of_block BR9.out) (by simp)).trans BR9.out)
                go_wp2_with (first | (refine wpList_is rfl _ _ (exec_load _ _ _ _ rfl rfl (loadVRw X0 X1 X2 X3)) ?_) | (refine wpList_is rfl _ _ (exec_oneRw rtV _ _ _ _ _ _ _ rfl rfl) ?_) | (at_builtin; refine wpList_is rfl _ _ (exec_appendT 50 _ _ rfl rfl rfl R4.out) ?_) | fail)
                clear X0 X1 X2 X3
                have kr4 := Keeps.refl [] w4
                have hc0 := (H9.out.later KK4.out).cell
                obtain ⟨_, _, hae, -, hgl, -, hd0, hd1, hd2, hd3⟩ := (H9.out.later KK4.out).rows.at k hlt
                injection hae with hae
                injection hae with e1 e2 _
                subst e1; subst e2
                rw [← HX.out] at hd0 hd1 hd2 hd3
                rw [HROWX.out] at hd3
                have hb0 := (block_cells3 ((KK4.out.block _ (lt_of_block B9.out) (by simp)).trans B9.out)).1
                have c0 : ∀ n, (w4.drewN n).cell? ⟨q, 0, none⟩ = some (.slice (some ⟨g1, o1, none⟩) rs.length cp) := fun n => hc0
                have d0 : ∀ n, (w4.drewN n).cell? ⟨g1, o1 + k * 4, none⟩ = some (.int .i64 x.c) := fun n => hd0
                have b0 : ∀ n, (w4.drewN n).cell? ⟨g, 0, none⟩ = some (.int .i64 c) := fun n => hb0
                go_wp2_with fail
                go_quiet (fail)
                have kq2 := KK4.out.trans ((Keeps.refl [] w4).drewN nq)
                have kr5 := kr4.trans ((Keeps.refl [] w4).drewN nq)
                clear c0 d0 b0 hc0 hd0 hb0 hd1 hd2 hd3 hgl
                generalize w4.drewN nq = wq2 at kq2 kr5 ⊢
                go_wp2_with fail
                go_roundw
                case rel =>
                  refine ⟨k + 1, true, a4, c4, by omega, by go_num, rfl, ?_, ?_, by rw [HT.out]; exact I2.out, kq2⟩
                  · rw [HT.out, I1.out, List.length_append]; rfl
                  · rw [HT.out, I1.out, List.length_append]; exact O4.out.later kr5
                case measure => simp [intOf]; omega
              · have h3 : c < x.c := by omega
                cases b with
                | false =>
                  obtain ⟨i1, i2⟩ := ins_gt0 (r := ⟨c, l, s, .slice a9 bs.length c9, bs⟩) IO.out h3
                  have I1 := hid i1
                  have I2 := hid i2
                  clear i1 i2
                  have t1 : decide (c ≤ x.c) = true := by simp; omega
                  have t2 : (x.c != c) = true := by simp; omega
                  clear h1 h2 h3
                  have kr0 := Keeps.refl [] wr
                  have hc0 := (H9.out.later KK.out).cell
                  obtain ⟨_, _, hae, -, hgl, -, hd0, hd1, hd2, hd3⟩ := (H9.out.later KK.out).rows.at k hlt
                  injection hae with hae
                  injection hae with e1 e2 _
                  subst e1; subst e2
                  rw [← HX.out] at hd0 hd1 hd2 hd3
                  rw [HROWX.out] at hd3
                  have hb0 := (block_cells3 ((KK.out.block _ (lt_of_block B9.out) (by simp)).trans B9.out)).1
                  have c0 : ∀ n, (wr.drewN n).cell? ⟨q, 0, none⟩ = some (.slice (some ⟨g1, o1, none⟩) rs.length cp) := fun n => hc0
                  have d0 : ∀ n, (wr.drewN n).cell? ⟨g1, o1 + k * 4, none⟩ = some (.int .i64 x.c) := fun n => hd0
                  have b0 : ∀ n, (wr.drewN n).cell? ⟨g, 0, none⟩ = some (.int .i64 c) := fun n => hb0
                  go_wp2_with fail
                  go_quiet (fail)
                  have kq1 := KK.out.trans ((Keeps.refl [] wr).drewN nq)
                  have kr1 := kr0.trans ((Keeps.refl [] wr).drewN nq)
                  clear c0 d0 b0 hc0 hd0 hb0 hd1 hd2 hd3 hgl
                  generalize wr.drewN nq = wq1 at kq1 kr1 ⊢
                  obtain ⟨a4, c4, w4, hr4, o4, k4⟩ := append_row rtV (HO.out.later kr1) ⟨c, l, s, .slice a9 bs.length c9, bs⟩ (OKR.out.later kq1) (off_own OKR.out (fun b hb => ((HO.out.later kr1).blk b hb).1)) (by first | omega | (simp; omega)) (Nat.le_trans (Nat.le_refl _) kq1.size) 50 rfl
                  have kk4 : Keeps [] wc w4 := kq1.trans' k4 (fun j hj hm => by have := ((HO.out.later kr1).blk j (by simpa using hm)).1; omega)
                  have R4 := hid hr4
                  have O4 := hid o4
                  have KK4 := hid kk4
                  clear hr4 o4 k4 kk4
                  obtain ⟨X0, X1, X2, X3⟩ := block_cells4 ((kq1.block _ (lt_of_block BR9.out) (by simp)).trans BR9.out)
                  go_wp2_with (first | (refine wpList_is rfl _ _ (exec_load _ _ _ _ rfl rfl (loadVRw X0 X1 X2 X3)) ?_) | (refine wpList_is rfl _ _ (exec_oneRw rtV _ _ _ _ _ _ _ rfl rfl) ?_) | (at_builtin; refine wpList_is rfl _ _ (exec_appendT 50 _ _ rfl rfl rfl R4.out) ?_) | fail)
                  clear X0 X1 X2 X3
                  have kr4 := Keeps.refl [] w4
                  have hc0 := (H9.out.later KK4.out).cell
                  obtain ⟨_, _, hae, -, hgl, -, hd0, hd1, hd2, hd3⟩ := (H9.out.later KK4.out).rows.at k hlt
                  injection hae with hae
                  injection hae with e1 e2 _
                  subst e1; subst e2
                  rw [← HX.out] at hd0 hd1 hd2 hd3
                  rw [HROWX.out] at hd3
                  have hb0 := (block_cells3 ((KK4.out.block _ (lt_of_block B9.out) (by simp)).trans B9.out)).1
                  have c0 : ∀ n, (w4.drewN n).cell? ⟨q, 0, none⟩ = some (.slice (some ⟨g1, o1, none⟩) rs.length cp) := fun n => hc0
                  have d0 : ∀ n, (w4.drewN n).cell? ⟨g1, o1 + k * 4, none⟩ = some (.int .i64 x.c) := fun n => hd0
                  have b0 : ∀ n, (w4.drewN n).cell? ⟨g, 0, none⟩ = some (.int .i64 c) := fun n => hb0
                  go_wp2_with fail
                  go_quiet (fail)
                  have kq2 := KK4.out.trans ((Keeps.refl [] w4).drewN nq)
                  have kr5 := kr4.trans ((Keeps.refl [] w4).drewN nq)
                  clear c0 d0 b0 hc0 hd0 hb0 hd1 hd2 hd3 hgl
                  generalize w4.drewN nq = wq2 at kq2 kr5 ⊢
                  have O4' := O4.out.later kr5
                  rw [← List.length_singleton (a := (⟨c, l, s, .slice a9 bs.length c9, bs⟩ : Rw)), ← List.length_append] at O4'
                  obtain ⟨a5, c5, w5, hr5, o5, k5⟩ := append_row rtV O4' x (OKX.out.later kq2) (off_own OKX.out (fun b hb => (O4'.blk b hb).1)) (by first | omega | (simp; omega)) (Nat.le_trans (Nat.le_refl _) kq2.size) 50 HROWX.out
                  have kk5 : Keeps [] wc w5 := kq2.trans' k5 (fun j hj hm => by have := (O4'.blk j (by simpa using hm)).1; omega)
                  have R5 := hid hr5
                  have O5 := hid o5
                  have KK5 := hid kk5
                  clear hr5 o5 k5 kk5
                  rw [List.length_append, List.length_singleton] at R5
                  have hc0 := (H9.out.later kq2).cell
                  obtain ⟨_, _, hae, -, hgl, -, hd0, hd1, hd2, hd3⟩ := (H9.out.later kq2).rows.at k hlt
                  injection hae with hae
                  injection hae with e1 e2 _
                  subst e1; subst e2
                  rw [← HX.out] at hd0 hd1 hd2 hd3
                  rw [HROWX.out] at hd3
                  have hb0 := (block_cells3 ((kq2.block _ (lt_of_block B9.out) (by simp)).trans B9.out)).1
                  have c0 : ∀ n, (wq2.drewN n).cell? ⟨q, 0, none⟩ = some (.slice (some ⟨g1, o1, none⟩) rs.length cp) := fun n => hc0
                  have d0 : ∀ n, (wq2.drewN n).cell? ⟨g1, o1 + k * 4, none⟩ = some (.int .i64 x.c) := fun n => hd0
                  have b0 : ∀ n, (wq2.drewN n).cell? ⟨g, 0, none⟩ = some (.int .i64 c) := fun n => hb0
                  go_wp2_with (first | (refine wpList_is rfl _ _ (exec_load _ _ _ _ rfl rfl (loadVRw hd0 hd1 hd2 hd3)) ?_) | (refine wpList_is rfl _ _ (exec_oneRw rtV _ _ _ _ _ _ _ rfl rfl) ?_) | (at_builtin; refine wpList_is rfl _ _ (exec_appendT 50 _ _ rfl rfl rfl R5.out) ?_) | fail)
                  go_roundw
                  case rel =>
                    refine ⟨k + 1, true, a5, c5, by omega, by go_num, rfl, ?_, ?_, by rw [HT.out]; exact I2.out, KK5.out⟩
                    · rw [HT.out, I1.out, List.length_append, List.length_append]; rfl
                    · rw [HT.out, I1.out, List.length_append]; exact O5.out
                  case measure => simp [intOf]; omega
                | true =>
                  obtain ⟨i1, i2⟩ := ins_gt1 (r := ⟨c, l, s, .slice a9 bs.length c9, bs⟩) (xs := rs.take k) h3
                  have I1 := hid i1
                  have I2 := hid i2
                  clear i1 i2
                  have t2 : (x.c != c) = true := by simp; omega
                  clear h1 h2 h3
                  have kr0 := Keeps.refl [] wr
                  have hc0 := (H9.out.later KK.out).cell
                  obtain ⟨_, _, hae, -, hgl, -, hd0, hd1, hd2, hd3⟩ := (H9.out.later KK.out).rows.at k hlt
                  injection hae with hae
                  injection hae with e1 e2 _
                  subst e1; subst e2
                  rw [← HX.out] at hd0 hd1 hd2 hd3
                  rw [HROWX.out] at hd3
                  have hb0 := (block_cells3 ((KK.out.block _ (lt_of_block B9.out) (by simp)).trans B9.out)).1
                  have c0 : ∀ n, (wr.drewN n).cell? ⟨q, 0, none⟩ = some (.slice (some ⟨g1, o1, none⟩) rs.length cp) := fun n => hc0
                  have d0 : ∀ n, (wr.drewN n).cell? ⟨g1, o1 + k * 4, none⟩ = some (.int .i64 x.c) := fun n => hd0
                  have b0 : ∀ n, (wr.drewN n).cell? ⟨g, 0, none⟩ = some (.int .i64 c) := fun n => hb0
                  go_wp2_with fail
                  go_quiet (fail)
                  have kq1 := KK.out.trans ((Keeps.refl [] wr).drewN nq)
                  have kr1 := kr0.trans ((Keeps.refl [] wr).drewN nq)
                  clear c0 d0 b0 hc0 hd0 hb0 hd1 hd2 hd3 hgl
                  generalize wr.drewN nq = wq1 at kq1 kr1 ⊢
                  have hc0 := (H9.out.later kq1).cell
                  obtain ⟨_, _, hae, -, hgl, -, hd0, hd1, hd2, hd3⟩ := (H9.out.later kq1).rows.at k hlt
                  injection hae with hae
                  injection hae with e1 e2 _
                  subst e1; subst e2
                  rw [← HX.out] at hd0 hd1 hd2 hd3
                  rw [HROWX.out] at hd3
                  have hb0 := (block_cells3 ((kq1.block _ (lt_of_block B9.out) (by simp)).trans B9.out)).1
                  have c0 : ∀ n, (wq1.drewN n).cell? ⟨q, 0, none⟩ = some (.slice (some ⟨g1, o1, none⟩) rs.length cp) := fun n => hc0
                  have d0 : ∀ n, (wq1.drewN n).cell? ⟨g1, o1 + k * 4, none⟩ = some (.int .i64 x.c) := fun n => hd0
                  have b0 : ∀ n, (wq1.drewN n).cell? ⟨g, 0, none⟩ = some (.int .i64 c) := fun n => hb0
                  go_wp2_with fail
                  go_quiet (fail)
                  have kq2 := kq1.trans ((Keeps.refl [] wq1).drewN nq)
                  have kr2 := kr1.trans ((Keeps.refl [] wq1).drewN nq)
                  clear c0 d0 b0 hc0 hd0 hb0 hd1 hd2 hd3 hgl
                  generalize wq1.drewN nq = wq2 at kq2 kr2 ⊢
                  obtain ⟨a4, c4, w4, hr4, o4, k4⟩ := append_row rtV (HO.out.later kr2) x (OKX.out.later kq2) (off_own OKX.out (fun b hb => ((HO.out.later kr2).blk b hb).1)) (by first | omega | (simp; omega)) (Nat.le_trans (Nat.le_refl _) kq2.size) 50 HROWX.out
                  have kk4 : Keeps [] wc w4 := kq2.trans' k4 (fun j hj hm => by have := ((HO.out.later kr2).blk j (by simpa using hm)).1; omega)
                  have R4 := hid hr4
                  have O4 := hid o4
                  have KK4 := hid kk4
                  clear hr4 o4 k4 kk4
                  have hc0 := (H9.out.later kq2).cell
                  obtain ⟨_, _, hae, -, hgl, -, hd0, hd1, hd2, hd3⟩ := (H9.out.later kq2).rows.at k hlt
                  injection hae with hae
                  injection hae with e1 e2 _
                  subst e1; subst e2
                  rw [← HX.out] at hd0 hd1 hd2 hd3
                  rw [HROWX.out] at hd3
                  have hb0 := (block_cells3 ((kq2.block _ (lt_of_block B9.out) (by simp)).trans B9.out)).1
                  have c0 : ∀ n, (wq2.drewN n).cell? ⟨q, 0, none⟩ = some (.slice (some ⟨g1, o1, none⟩) rs.length cp) := fun n => hc0
                  have d0 : ∀ n, (wq2.drewN n).cell? ⟨g1, o1 + k * 4, none⟩ = some (.int .i64 x.c) := fun n => hd0
                  have b0 : ∀ n, (wq2.drewN n).cell? ⟨g, 0, none⟩ = some (.int .i64 c) := fun n => hb0
                  go_wp2_with (first | (refine wpList_is rfl _ _ (exec_load _ _ _ _ rfl rfl (loadVRw hd0 hd1 hd2 hd3)) ?_) | (refine wpList_is rfl _ _ (exec_oneRw rtV _ _ _ _ _ _ _ rfl rfl) ?_) | (at_builtin; refine wpList_is rfl _ _ (exec_appendT 50 _ _ rfl rfl rfl R4.out) ?_) | fail)
                  go_roundw
                  case rel =>
                    refine ⟨k + 1, true, a4, c4, by omega, by go_num, rfl, ?_, ?_, by rw [HT.out]; exact I2.out, KK4.out⟩
                    · rw [HT.out, I1.out, List.length_append]; rfl
                    · rw [HT.out, I1.out, List.length_append]; exact O4.out
                  case measure => simp [intOf]; omega
          · obtain rfl : k = rs.length := by omega
            rw [List.take_length] at HO IO
            rw [List.take_length] at ln ⊢
            have hc0 := (H9.out.later KK.out).cell
            obtain ⟨q1, q2, _⟩ := mayS_is.1 MM.out
            have TOK := hid (H9.out.ok.put MM.out bs)
            have CON := hid (insR_con H9.out.con (l := l) (s := s) q1 q2 (.slice a9 bs.length c9) bs)
            clear hlt q1 q2
            cases b with
            | true =>
              have ff := (H9.out.later KK.out).free
              have PT := hid (H9.out.put KK.out HO.out CON.out TOK.out)
              go_wp2_with fail
              go_ret
              unfold RDone
              rw [FT.out.1, FT.out.2]
              exact ⟨rfl, ⟨_, _, PT.out.1⟩, ((KW9.out.trans KK.out).mono (by simp)).trans PT.out.2⟩
            | false =>
              have IE := hid (ins_end (r := ⟨c, l, s, .slice a9 bs.length c9, bs⟩) IO.out)
              obtain ⟨a4, c4, w4, hr4, o4, k4⟩ := append_row rtV HO.out ⟨c, l, s, .slice a9 bs.length c9, bs⟩ (OKR.out.later KK.out) (off_own OKR.out (fun b hb => (HO.out.blk b hb).1)) (by omega) KK.out.size 50 rfl
              have kk4 : Keeps [] wc w4 := KK.out.trans' k4 (fun j hj hm => by have := (HO.out.blk j (by simpa using hm)).1; omega)
              have R4 := hid hr4
              have O4 : Hid (OwnW 60 w4 wc.heap.size M (.slice a4 ((insR c ⟨c, l, s, .slice a9 bs.length c9, bs⟩ false rs).length + 1) c4) (insR c ⟨c, l, s, .slice a9 bs.length c9, bs⟩ true rs)) := hid (by rw [IE.out]; exact o4)
              have KK4 := hid kk4
              clear hr4 o4 k4 kk4
              obtain ⟨X0, X1, X2, X3⟩ := block_cells4 ((KK.out.block _ (lt_of_block BR9.out) (by simp)).trans BR9.out)
              have c4c := (H9.out.later KK4.out).cell
              have ff := (H9.out.later KK4.out).free
              have PT := hid (H9.out.put KK4.out O4.out CON.out TOK.out)
              go_wp2_with (first | (refine wpList_is rfl _ _ (exec_load _ _ _ _ rfl rfl (loadVRw X0 X1 X2 X3)) ?_) | (refine wpList_is rfl _ _ (exec_oneRw rtV _ _ _ _ _ _ _ rfl rfl) ?_) | (at_builtin; refine wpList_is rfl _ _ (exec_appendT 50 _ _ rfl rfl rfl R4.out) ?_) | fail)
              go_ret
              unfold RDone
              rw [FT.out.1, FT.out.2]
              exact ⟨rfl, ⟨_, _, PT.out.1⟩, ((KW9.out.trans KK4.out).mono (by simp)).trans PT.out.2⟩
end Go.Proofs.Ytkfebgbgnpdgpaa
