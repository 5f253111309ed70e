/- The walk of the law OnceLives. -/
import Derived.Test.YtkfebgbgnpdgpaaOnF
namespace Go.Proofs.Ytkfebgbgnpdgpaa
open Go.RowKit Go.Shelf
set_option maxRecDepth 100000
set_option linter.unusedSimpArgs false

theorem exec_oneB8 {ρ : Operand → Value} {o : Oper} {w : World} (x : Operand) (c : Int) (ho : o.op = .buildSlice 29 1 #[(0, x)]) (hx : ρ x = .int .u8 c) :
    (execOp ρ o).run Try.prog w = .ok (.value (.slice (some ⟨w.heap.size, 0, none⟩) 1 1)) (w.alloc (.cells #[.int .u8 c] 5)) := by
  obtain ⟨ie, hie, hz, hs, _⟩ := info_parts info5
  have h : (Instr.buildSlice 29 1 #[(0, .int .u8 c)]).run Try.prog w = .ok (.slice (some ⟨w.heap.size, 0, none⟩) 1 1) (w.alloc (.cells #[.int .u8 c] 5)) := by
    refine run_buildSlice w _ _ 1 _ _ ie _ Try.underlying29 hie hz (by rw [hs]; decide) (by rw [hs]; decide) ?_
    rw [hs]
    have e : (Array.range (1 * 1)) = #[0] := rfl
    have e2 : (Value.int .u8 0).cells = #[.int .u8 0] := rfl
    have e3 : (Value.int .u8 c).cells = #[.int .u8 c] := rfl
    simp only [Instr.fill, e, e2, e3]
    simp
  simp only [execOp, ho, List.map_toArray, List.map_cons, List.map_nil, hx, Sem.run_bind, h, Result.andThen_ok, Sem.run_pure]
theorem iVStamp : (Try.prog.info? 57).map (fun i => (i.zero, i.size)) = some (some (.agg #[.int .i64 0, .int .i64 0, .int .i64 0]), 3) := by kernel_rfl
theorem loadV {w : World} {b o : Nat} {x0 x1 x2 : Value} (c0 : w.cell? ⟨b, o, none⟩ = some x0) (c1 : w.cell? ⟨b, o + 1, none⟩ = some x1) (c2 : w.cell? ⟨b, o + 2, none⟩ = some x2) :
    (Instr.loadAt 57 (.pointer (some ⟨b, o, none⟩))).run Try.prog w = .ok (.agg #[x0, x1, x2]) w := load_row [x0, x1, x2] Try.underlying57 rfl iVStamp (cells3 c0 c1 c2)
theorem loadVB {w : World} {b : Nat} {x0 x1 x2 : Value} (h : w.heap[b]? = some (.cells #[x0, x1, x2] 57 (0, 0))) :
    (Instr.loadAt 57 (.pointer (some ⟨b, 0, none⟩))).run Try.prog w = .ok (.agg #[x0, x1, x2]) w := by
  obtain ⟨c0, c1, c2⟩ := block_cells3 h
  exact loadV c0 c1 c2

theorem loadI3 {w : World} {b o : Nat} {n : Int} (c : w.cell? ⟨b, o, none⟩ = some (.int .i64 n)) : (Instr.loadAt 3 (.pointer (some ⟨b, o, none⟩))).run Try.prog w = .ok (.int .i64 n) w := run_loadCell w _ _ _ c (agg_no _ (by kernel_rfl))
theorem kindS_new {k l s : Int} (h : mayS k l s = true) : kindS tab0 k l s = 3 := by simp [kindS, h, tab0, kindE]
theorem kindS_put {T : Tab} {k : Nat} {e : Int × Int × List Int} {l s : Int} (h : mayS k l s = true) : kindS (T.put k e) k l s = kindE l s (some e) := by simp [kindS, h, Tab.put]
theorem lives_facts {k : Nat} {al aq bl bs : Int} (ha : mayS k al aq = true) (hb : mayS k bl bs = true) (h : bl < al) :
    doneT tab0 k bl bs [1] = tab0.put k (bl, bs, [1]) ∧ doneA tab0 k bl bs = 0 ∧ doneT (tab0.put k (bl, bs, [1])) k al aq [2] = (tab0.put k (bl, bs, [1])).put k (al, aq, [2]) ∧ doneA (tab0.put k (bl, bs, [1])) k al aq = 0 ∧
      kindS ((tab0.put k (bl, bs, [1])).put k (al, aq, [2])) k bl bs = 2 ∧ replyS ((tab0.put k (bl, bs, [1])).put k (al, aq, [2])) k bl bs = [] ∧
      kindS ((tab0.put k (bl, bs, [1])).put k (al, aq, [2])) k al aq = 1 ∧ replyS ((tab0.put k (bl, bs, [1])).put k (al, aq, [2])) k al aq = [2] ∧ lifeS ((tab0.put k (bl, bs, [1])).put k (al, aq, [2])) k = al := by
  have h1 := kindS_new hb
  have h2 : kindS (tab0.put k (bl, bs, [1])) k al aq = 3 := by
    rw [kindS_put ha]
    simp only [kindE]
    rw [if_neg (by omega), if_pos h]
  have h3 : kindS ((tab0.put k (bl, bs, [1])).put k (al, aq, [2])) k bl bs = 2 := by
    rw [kindS_put hb]
    simp only [kindE]
    rw [if_pos h]
  have h4 : kindS ((tab0.put k (bl, bs, [1])).put k (al, aq, [2])) k al aq = 1 := by
    rw [kindS_put ha]
    simp [kindE]
  obtain ⟨q1, q2, _⟩ := mayS_is.1 ha
  refine ⟨?_, ?_, ?_, ?_, h3, ?_, h4, ?_, ?_⟩
  · simp [doneT, h1]
  · simp [doneA, h1]
  · simp [doneT, h2]
  · simp [doneA, h2]
  · simp [replyS, h3]
  · simp [replyS, h4, Tab.put, replyE]
  · unfold lifeS
    rw [if_pos ⟨q1, q2⟩]
    simp [Tab.put]
theorem lives_other {k : Nat} {e1 e2 : Int × Int × List Int} {c l s : Int} (h : mayS c l s = true) (hc : c ≠ k) : kindS ((tab0.put k e1).put k e2) c l s = 3 := by
  obtain ⟨q1, q2, _⟩ := mayS_is.1 h
  have : ¬ c.toNat = k := by omega
  simp [kindS, h, Tab.put, this, tab0, kindE]

set_option maxHeartbeats 12800000 in
theorem j8Lives_any (w : World) (ac al aq bc bl bs cc cl cs : Int) : Calls Try.prog 7 #[stV ac al aq, stV bc bl bs, stV cc cl cs] w fun e w' => e = .returned (.bool true) ∧ Keeps [] w w' := by
  have k1 := (Keeps.refl [] w).alloc (.cells #[.int .i64 ac, .int .i64 al, .int .i64 aq] 57)
  have k2 := k1.alloc (.cells #[.int .i64 bc, .int .i64 bl, .int .i64 bs] 57)
  have k3 := k2.alloc (.cells #[.int .i64 cc, .int .i64 cl, .int .i64 cs] 57)
  have hb3 : (((w.alloc (.cells #[.int .i64 ac, .int .i64 al, .int .i64 aq] 57)).alloc (.cells #[.int .i64 bc, .int .i64 bl, .int .i64 bs] 57)).alloc (.cells #[.int .i64 cc, .int .i64 cl, .int .i64 cs] 57)).heap[w.heap.size]? = some (.cells #[.int .i64 ac, .int .i64 al, .int .i64 aq] 57 (0, 0)) := by
    rw [Below.heap_alloc _ _ _ (by simp; omega), Below.heap_alloc _ _ _ (by simp)]
    exact heap_alloc_new _ _
  have hb4 : (((w.alloc (.cells #[.int .i64 ac, .int .i64 al, .int .i64 aq] 57)).alloc (.cells #[.int .i64 bc, .int .i64 bl, .int .i64 bs] 57)).alloc (.cells #[.int .i64 cc, .int .i64 cl, .int .i64 cs] 57)).heap[w.heap.size + 1]? = some (.cells #[.int .i64 bc, .int .i64 bl, .int .i64 bs] 57 (0, 0)) := by
    rw [Below.heap_alloc _ _ _ (by simp)]
    have := heap_alloc_new (w.alloc (.cells #[.int .i64 ac, .int .i64 al, .int .i64 aq] 57)) (.cells #[.int .i64 bc, .int .i64 bl, .int .i64 bs] 57)
    simpa using this
  have hb5 : (((w.alloc (.cells #[.int .i64 ac, .int .i64 al, .int .i64 aq] 57)).alloc (.cells #[.int .i64 bc, .int .i64 bl, .int .i64 bs] 57)).alloc (.cells #[.int .i64 cc, .int .i64 cl, .int .i64 cs] 57)).heap[w.heap.size + 1 + 1]? = some (.cells #[.int .i64 cc, .int .i64 cl, .int .i64 cs] 57 (0, 0)) := by
    have := heap_alloc_new ((w.alloc (.cells #[.int .i64 ac, .int .i64 al, .int .i64 aq] 57)).alloc (.cells #[.int .i64 bc, .int .i64 bl, .int .i64 bs] 57)) (.cells #[.int .i64 cc, .int .i64 cl, .int .i64 cs] 57)
    simpa using this
  have K3 := hid k3
  have B3 := hid hb3
  have B4 := hid hb4
  have B5 := hid hb5
  clear k1 k2 k3 hb3 hb4 hb5
  have AW := hid (fun W => j8Awake_any W)
  have MA := hid (fun W => vMay_any W ac al aq)
  have MB := hid (fun W => vMay_any W bc bl bs)
  have MC := hid (fun W => vMay_any W cc cl cs)
  have SA := hid (fun W => j8Stamp_any W ac al aq)
  have SB := hid (fun W => j8Stamp_any W bc bl bs)
  have SC := hid (fun W => j8Stamp_any W cc cl cs)
  unfold stV at MA MB MC SA SB SC ⊢
  go_enter Try.func7, Try.ntmps7
  go_wp2_with fail
  obtain ⟨g3, h3⟩ : ∃ g, g = w.heap.size := ⟨_, rfl⟩
  rw [← h3] at B3 ⊢
  obtain ⟨g4, h4⟩ : ∃ g, g = w.heap.size + 1 := ⟨_, rfl⟩
  obtain ⟨g5, h5⟩ : ∃ g, g = w.heap.size + 1 + 1 := ⟨_, rfl⟩
  rw [← h5] at B5
  rw [← h4] at B4
  rw [show g3 + 1 = g4 by omega]
  rw [show g4 + 1 = g5 by omega]
  clear h3 h4 h5
  generalize ((w.alloc (.cells #[.int .i64 ac, .int .i64 al, .int .i64 aq] 57)).alloc (.cells #[.int .i64 bc, .int .i64 bl, .int .i64 bs] 57)).alloc (.cells #[.int .i64 cc, .int .i64 cl, .int .i64 cs] 57) = w1 at K3 B3 B4 B5 ⊢
  refine (AW.out w1).mono ?_
  rintro e w2 ⟨rfl, k2⟩
  have K2 := hid (K3.out.trans k2)
  replace B3 := hid ((k2.block _ (lt_of_block B3.out) (by simp)).trans B3.out)
  replace B4 := hid ((k2.block _ (lt_of_block B4.out) (by simp)).trans B4.out)
  replace B5 := hid ((k2.block _ (lt_of_block B5.out) (by simp)).trans B5.out)
  clear k2
  by_cases hma : mayS ac al aq = true
  · rw [hma] at MA
    by_cases hmb : mayS bc bl bs = true
    · rw [hmb] at MB
      by_cases he : ac = bc
      · by_cases hlt : bl < al
        · subst he
          obtain ⟨q1, q2, _⟩ := mayS_is.1 hma
          obtain ⟨k, rfl⟩ : ∃ k : Nat, ac = k := ⟨ac.toNat, by omega⟩
          obtain ⟨fT1, fA1, fT2, fA2, fk1, fr1, fk2, fr2, fl⟩ := lives_facts hma hmb hlt
          have FL := hid fl
          have hle : decide (al ≤ bl) = false := by simp; omega
          clear fl q1 q2 hlt
          go_wp2_with (first | (refine wpList_isW rfl _ _ (exec_load _ _ _ _ rfl rfl (loadVB B3.out)) ?_) | (refine wpList_isW rfl _ _ (exec_load _ _ _ _ rfl rfl (loadVB B4.out)) ?_) | (refine wpList_isW rfl _ _ (exec_load _ _ _ _ rfl rfl (loadVB B5.out)) ?_) | (refine wpList_isW rfl _ _ (exec_load _ _ _ _ rfl rfl (loadI3 (block_cells3 B3.out).1)) ?_) | (refine wpList_isW rfl _ _ (exec_load _ _ _ _ rfl rfl (loadI3 (block_cells3 B4.out).1)) ?_) | (refine wpList_isW rfl _ _ (exec_load _ _ _ _ rfl rfl (loadI3 (block_cells3 B3.out).2.1)) ?_) | (refine wpList_isW rfl _ _ (exec_load _ _ _ _ rfl rfl (loadI3 (block_cells3 B4.out).2.1)) ?_) | fail)
          refine (MA.out _).mono ?_
          rintro e w3 ⟨rfl, k3⟩
          have K3' := hid (K2.out.trans k3)
          replace B3 := hid ((k3.block _ (lt_of_block B3.out) (by simp)).trans B3.out)
          replace B4 := hid ((k3.block _ (lt_of_block B4.out) (by simp)).trans B4.out)
          replace B5 := hid ((k3.block _ (lt_of_block B5.out) (by simp)).trans B5.out)
          clear k3
          go_wp2_with (first | (refine wpList_isW rfl _ _ (exec_load _ _ _ _ rfl rfl (loadVB B3.out)) ?_) | (refine wpList_isW rfl _ _ (exec_load _ _ _ _ rfl rfl (loadVB B4.out)) ?_) | (refine wpList_isW rfl _ _ (exec_load _ _ _ _ rfl rfl (loadVB B5.out)) ?_) | (refine wpList_isW rfl _ _ (exec_load _ _ _ _ rfl rfl (loadI3 (block_cells3 B3.out).1)) ?_) | (refine wpList_isW rfl _ _ (exec_load _ _ _ _ rfl rfl (loadI3 (block_cells3 B4.out).1)) ?_) | (refine wpList_isW rfl _ _ (exec_load _ _ _ _ rfl rfl (loadI3 (block_cells3 B3.out).2.1)) ?_) | (refine wpList_isW rfl _ _ (exec_load _ _ _ _ rfl rfl (loadI3 (block_cells3 B4.out).2.1)) ?_) | fail)
          refine (MB.out _).mono ?_
          rintro e w4 ⟨rfl, k4⟩
          have K4 := hid (K3'.out.trans k4)
          replace B3 := hid ((k4.block _ (lt_of_block B3.out) (by simp)).trans B3.out)
          replace B4 := hid ((k4.block _ (lt_of_block B4.out) (by simp)).trans B4.out)
          replace B5 := hid ((k4.block _ (lt_of_block B5.out) (by simp)).trans B5.out)
          clear k4
          have L3 : g3 < w4.heap.size ∧ g4 < w4.heap.size ∧ g5 < w4.heap.size := ⟨lt_of_block B3.out, lt_of_block B4.out, lt_of_block B5.out⟩
          go_wp2_with (first | (refine wpList_isW rfl _ _ (exec_load _ _ _ _ rfl rfl (loadVB B3.out)) ?_) | (refine wpList_isW rfl _ _ (exec_load _ _ _ _ rfl rfl (loadVB B4.out)) ?_) | (refine wpList_isW rfl _ _ (exec_load _ _ _ _ rfl rfl (loadVB B5.out)) ?_) | (refine wpList_isW rfl _ _ (exec_load _ _ _ _ rfl rfl (loadI3 (block_cells3 B3.out).1)) ?_) | (refine wpList_isW rfl _ _ (exec_load _ _ _ _ rfl rfl (loadI3 (block_cells3 B4.out).1)) ?_) | (refine wpList_isW rfl _ _ (exec_load _ _ _ _ rfl rfl (loadI3 (block_cells3 B3.out).2.1)) ?_) | (refine wpList_isW rfl _ _ (exec_load _ _ _ _ rfl rfl (loadI3 (block_cells3 B4.out).2.1)) ?_) | fail)
          refine (newF w4 [] (by simp)).mono ?_
          rintro e w5 ⟨p, hp, rfl, h5, k5⟩
          replace B3 := hid ((k5.block _ (lt_of_block B3.out) (by simp)).trans B3.out)
          replace B4 := hid ((k5.block _ (lt_of_block B4.out) (by simp)).trans B4.out)
          replace B5 := hid ((k5.block _ (lt_of_block B5.out) (by simp)).trans B5.out)
          have HR := hid h5
          have K5 := hid (K4.out.trans k5)
          have HP : Hid (w.heap.size ≤ p) := hid (Nat.le_trans K4.out.size hp)
          have N3 : Hid (g3 ≠ p ∧ g4 ≠ p ∧ g5 ≠ p) := hid (⟨fun e => by have := L3.1; omega, fun e => by have := L3.2.1; omega, fun e => by have := L3.2.2; omega⟩)
          clear h5 k5 hp L3
          go_wp2_with (first | (refine wpList_isW rfl _ _ (exec_load _ _ _ _ rfl rfl (loadVB B3.out)) ?_) | (refine wpList_isW rfl _ _ (exec_load _ _ _ _ rfl rfl (loadVB B4.out)) ?_) | (refine wpList_isW rfl _ _ (exec_load _ _ _ _ rfl rfl (loadVB B5.out)) ?_) | (refine wpList_isW rfl _ _ (exec_load _ _ _ _ rfl rfl (loadI3 (block_cells3 B3.out).1)) ?_) | (refine wpList_isW rfl _ _ (exec_load _ _ _ _ rfl rfl (loadI3 (block_cells3 B4.out).1)) ?_) | (refine wpList_isW rfl _ _ (exec_load _ _ _ _ rfl rfl (loadI3 (block_cells3 B3.out).2.1)) ?_) | (refine wpList_isW rfl _ _ (exec_load _ _ _ _ rfl rfl (loadI3 (block_cells3 B4.out).2.1)) ?_) | fail)
          refine (SB.out _).mono ?_
          rintro e w6 ⟨rfl, k6⟩
          have K6 := hid (K5.out.trans k6)
          replace B3 := hid ((k6.block _ (lt_of_block B3.out) (by simp)).trans B3.out)
          replace B4 := hid ((k6.block _ (lt_of_block B4.out) (by simp)).trans B4.out)
          replace B5 := hid ((k6.block _ (lt_of_block B5.out) (by simp)).trans B5.out)
          replace HR := hid (HR.out.later k6)
          clear k6
          go_wp2_with (first | (refine wpList_isW rfl _ _ (exec_load _ _ _ _ rfl rfl (loadVB B3.out)) ?_) | (refine wpList_isW rfl _ _ (exec_load _ _ _ _ rfl rfl (loadVB B4.out)) ?_) | (refine wpList_isW rfl _ _ (exec_load _ _ _ _ rfl rfl (loadVB B5.out)) ?_) | (refine wpList_isW rfl _ _ (exec_load _ _ _ _ rfl rfl (loadI3 (block_cells3 B3.out).1)) ?_) | (refine wpList_isW rfl _ _ (exec_load _ _ _ _ rfl rfl (loadI3 (block_cells3 B4.out).1)) ?_) | (refine wpList_isW rfl _ _ (exec_load _ _ _ _ rfl rfl (loadI3 (block_cells3 B3.out).2.1)) ?_) | (refine wpList_isW rfl _ _ (exec_load _ _ _ _ rfl rfl (loadI3 (block_cells3 B4.out).2.1)) ?_) | fail)
          have ka := (Keeps.refl [] w6).alloc (.cells #[.int .u8 1] 5)
          replace HR := hid (HR.out.later ka)
          have K7 := hid (K6.out.trans ka)
          have rA := row_oneK (w := w6) 1 5 (by decide)
          replace B3 := hid ((ka.block _ (lt_of_block B3.out) (by simp)).trans B3.out)
          replace B4 := hid ((ka.block _ (lt_of_block B4.out) (by simp)).trans B4.out)
          replace B5 := hid ((ka.block _ (lt_of_block B5.out) (by simp)).trans B5.out)
          clear ka
          generalize w6.heap.size = b6 at rA ⊢
          generalize w6.alloc (.cells #[.int .u8 1] 5) = w7 at HR K7 rA B3 B4 B5 ⊢
          refine (doneF HR.out k bl bs _ _ 1 [1] rfl rA (by decide)).mono ?_
          rw [fT1, fA1]
          rintro e w8 ⟨rfl, h8, k8⟩
          replace HR := hid h8
          have K8 : Hid (Keeps [] w w8) := hid (K7.out.trans' k8 (fun i hi hm => by have := HP.out; simp at hm; omega))
          replace B3 := hid ((k8.block _ (lt_of_block B3.out) (by simpa using N3.out.1)).trans B3.out)
          replace B4 := hid ((k8.block _ (lt_of_block B4.out) (by simpa using N3.out.2.1)).trans B4.out)
          replace B5 := hid ((k8.block _ (lt_of_block B5.out) (by simpa using N3.out.2.2)).trans B5.out)
          clear h8 k8 rA
          go_wp2_with (first | (refine wpList_isW rfl _ _ (exec_load _ _ _ _ rfl rfl (loadVB B3.out)) ?_) | (refine wpList_isW rfl _ _ (exec_load _ _ _ _ rfl rfl (loadVB B4.out)) ?_) | (refine wpList_isW rfl _ _ (exec_load _ _ _ _ rfl rfl (loadVB B5.out)) ?_) | (refine wpList_isW rfl _ _ (exec_load _ _ _ _ rfl rfl (loadI3 (block_cells3 B3.out).1)) ?_) | (refine wpList_isW rfl _ _ (exec_load _ _ _ _ rfl rfl (loadI3 (block_cells3 B4.out).1)) ?_) | (refine wpList_isW rfl _ _ (exec_load _ _ _ _ rfl rfl (loadI3 (block_cells3 B3.out).2.1)) ?_) | (refine wpList_isW rfl _ _ (exec_load _ _ _ _ rfl rfl (loadI3 (block_cells3 B4.out).2.1)) ?_) | fail)
          refine (SA.out _).mono ?_
          rintro e w9 ⟨rfl, k9⟩
          have K9 := hid (K8.out.trans k9)
          replace B3 := hid ((k9.block _ (lt_of_block B3.out) (by simp)).trans B3.out)
          replace B4 := hid ((k9.block _ (lt_of_block B4.out) (by simp)).trans B4.out)
          replace B5 := hid ((k9.block _ (lt_of_block B5.out) (by simp)).trans B5.out)
          replace HR := hid (HR.out.later k9)
          clear k9
          go_wp2_with (first | (refine wpList_isW rfl _ _ (exec_load _ _ _ _ rfl rfl (loadVB B3.out)) ?_) | (refine wpList_isW rfl _ _ (exec_load _ _ _ _ rfl rfl (loadVB B4.out)) ?_) | (refine wpList_isW rfl _ _ (exec_load _ _ _ _ rfl rfl (loadVB B5.out)) ?_) | (refine wpList_isW rfl _ _ (exec_load _ _ _ _ rfl rfl (loadI3 (block_cells3 B3.out).1)) ?_) | (refine wpList_isW rfl _ _ (exec_load _ _ _ _ rfl rfl (loadI3 (block_cells3 B4.out).1)) ?_) | (refine wpList_isW rfl _ _ (exec_load _ _ _ _ rfl rfl (loadI3 (block_cells3 B3.out).2.1)) ?_) | (refine wpList_isW rfl _ _ (exec_load _ _ _ _ rfl rfl (loadI3 (block_cells3 B4.out).2.1)) ?_) | fail)
          have ka := (Keeps.refl [] w9).alloc (.cells #[.int .u8 2] 5)
          replace HR := hid (HR.out.later ka)
          have K10 := hid (K9.out.trans ka)
          have rA := row_oneK (w := w9) 2 5 (by decide)
          replace B3 := hid ((ka.block _ (lt_of_block B3.out) (by simp)).trans B3.out)
          replace B4 := hid ((ka.block _ (lt_of_block B4.out) (by simp)).trans B4.out)
          replace B5 := hid ((ka.block _ (lt_of_block B5.out) (by simp)).trans B5.out)
          clear ka
          generalize w9.heap.size = b9 at rA ⊢
          generalize w9.alloc (.cells #[.int .u8 2] 5) = w10 at HR K10 rA B3 B4 B5 ⊢
          refine (doneF HR.out k al aq _ _ 1 [2] rfl rA (by decide)).mono ?_
          rw [fT2, fA2]
          rintro e w11 ⟨rfl, h8, k11⟩
          replace HR := hid h8
          have K11 : Hid (Keeps [] w w11) := hid (K10.out.trans' k11 (fun i hi hm => by have := HP.out; simp at hm; omega))
          replace B3 := hid ((k11.block _ (lt_of_block B3.out) (by simpa using N3.out.1)).trans B3.out)
          replace B4 := hid ((k11.block _ (lt_of_block B4.out) (by simpa using N3.out.2.1)).trans B4.out)
          replace B5 := hid ((k11.block _ (lt_of_block B5.out) (by simpa using N3.out.2.2)).trans B5.out)
          clear h8 k11 rA
          go_wp2_with (first | (refine wpList_isW rfl _ _ (exec_load _ _ _ _ rfl rfl (loadVB B3.out)) ?_) | (refine wpList_isW rfl _ _ (exec_load _ _ _ _ rfl rfl (loadVB B4.out)) ?_) | (refine wpList_isW rfl _ _ (exec_load _ _ _ _ rfl rfl (loadVB B5.out)) ?_) | (refine wpList_isW rfl _ _ (exec_load _ _ _ _ rfl rfl (loadI3 (block_cells3 B3.out).1)) ?_) | (refine wpList_isW rfl _ _ (exec_load _ _ _ _ rfl rfl (loadI3 (block_cells3 B4.out).1)) ?_) | (refine wpList_isW rfl _ _ (exec_load _ _ _ _ rfl rfl (loadI3 (block_cells3 B3.out).2.1)) ?_) | (refine wpList_isW rfl _ _ (exec_load _ _ _ _ rfl rfl (loadI3 (block_cells3 B4.out).2.1)) ?_) | fail)
          refine (SB.out _).mono ?_
          rintro e w12 ⟨rfl, k12⟩
          have K12 := hid (K11.out.trans k12)
          replace B3 := hid ((k12.block _ (lt_of_block B3.out) (by simp)).trans B3.out)
          replace B4 := hid ((k12.block _ (lt_of_block B4.out) (by simp)).trans B4.out)
          replace B5 := hid ((k12.block _ (lt_of_block B5.out) (by simp)).trans B5.out)
          replace HR := hid (HR.out.later k12)
          clear k12
          go_wp2_with (first | (refine wpList_isW rfl _ _ (exec_load _ _ _ _ rfl rfl (loadVB B3.out)) ?_) | (refine wpList_isW rfl _ _ (exec_load _ _ _ _ rfl rfl (loadVB B4.out)) ?_) | (refine wpList_isW rfl _ _ (exec_load _ _ _ _ rfl rfl (loadVB B5.out)) ?_) | (refine wpList_isW rfl _ _ (exec_load _ _ _ _ rfl rfl (loadI3 (block_cells3 B3.out).1)) ?_) | (refine wpList_isW rfl _ _ (exec_load _ _ _ _ rfl rfl (loadI3 (block_cells3 B4.out).1)) ?_) | (refine wpList_isW rfl _ _ (exec_load _ _ _ _ rfl rfl (loadI3 (block_cells3 B3.out).2.1)) ?_) | (refine wpList_isW rfl _ _ (exec_load _ _ _ _ rfl rfl (loadI3 (block_cells3 B4.out).2.1)) ?_) | fail)
          refine (askF HR.out k bl bs).mono ?_
          unfold AskPost
          rw [fk1, fr1]
          rintro e w13 ⟨ra1, rc1, rfl, -, -, k13⟩
          have K13 := hid (K12.out.trans k13)
          replace B3 := hid ((k13.block _ (lt_of_block B3.out) (by simp)).trans B3.out)
          replace B4 := hid ((k13.block _ (lt_of_block B4.out) (by simp)).trans B4.out)
          replace B5 := hid ((k13.block _ (lt_of_block B5.out) (by simp)).trans B5.out)
          replace HR := hid (HR.out.later k13)
          clear k13
          go_wp2_with (first | (refine wpList_isW rfl _ _ (exec_load _ _ _ _ rfl rfl (loadVB B3.out)) ?_) | (refine wpList_isW rfl _ _ (exec_load _ _ _ _ rfl rfl (loadVB B4.out)) ?_) | (refine wpList_isW rfl _ _ (exec_load _ _ _ _ rfl rfl (loadVB B5.out)) ?_) | (refine wpList_isW rfl _ _ (exec_load _ _ _ _ rfl rfl (loadI3 (block_cells3 B3.out).1)) ?_) | (refine wpList_isW rfl _ _ (exec_load _ _ _ _ rfl rfl (loadI3 (block_cells3 B4.out).1)) ?_) | (refine wpList_isW rfl _ _ (exec_load _ _ _ _ rfl rfl (loadI3 (block_cells3 B3.out).2.1)) ?_) | (refine wpList_isW rfl _ _ (exec_load _ _ _ _ rfl rfl (loadI3 (block_cells3 B4.out).2.1)) ?_) | fail)
          refine (SA.out _).mono ?_
          rintro e w14 ⟨rfl, k14⟩
          have K14 := hid (K13.out.trans k14)
          replace B3 := hid ((k14.block _ (lt_of_block B3.out) (by simp)).trans B3.out)
          replace B4 := hid ((k14.block _ (lt_of_block B4.out) (by simp)).trans B4.out)
          replace B5 := hid ((k14.block _ (lt_of_block B5.out) (by simp)).trans B5.out)
          replace HR := hid (HR.out.later k14)
          clear k14
          go_wp2_with (first | (refine wpList_isW rfl _ _ (exec_load _ _ _ _ rfl rfl (loadVB B3.out)) ?_) | (refine wpList_isW rfl _ _ (exec_load _ _ _ _ rfl rfl (loadVB B4.out)) ?_) | (refine wpList_isW rfl _ _ (exec_load _ _ _ _ rfl rfl (loadVB B5.out)) ?_) | (refine wpList_isW rfl _ _ (exec_load _ _ _ _ rfl rfl (loadI3 (block_cells3 B3.out).1)) ?_) | (refine wpList_isW rfl _ _ (exec_load _ _ _ _ rfl rfl (loadI3 (block_cells3 B4.out).1)) ?_) | (refine wpList_isW rfl _ _ (exec_load _ _ _ _ rfl rfl (loadI3 (block_cells3 B3.out).2.1)) ?_) | (refine wpList_isW rfl _ _ (exec_load _ _ _ _ rfl rfl (loadI3 (block_cells3 B4.out).2.1)) ?_) | fail)
          refine (askF HR.out k al aq).mono ?_
          unfold AskPost
          rw [fk2, fr2]
          rintro e w15 ⟨ra2, rc2, rfl, r15, -, k15⟩
          have RQ := hid r15
          clear r15
          have K15 := hid (K14.out.trans k15)
          replace B3 := hid ((k15.block _ (lt_of_block B3.out) (by simp)).trans B3.out)
          replace B4 := hid ((k15.block _ (lt_of_block B4.out) (by simp)).trans B4.out)
          replace B5 := hid ((k15.block _ (lt_of_block B5.out) (by simp)).trans B5.out)
          replace HR := hid (HR.out.later k15)
          clear k15
          go_wp2_with (first | (refine wpList_isW rfl _ _ (exec_load _ _ _ _ rfl rfl (loadVB B3.out)) ?_) | (refine wpList_isW rfl _ _ (exec_load _ _ _ _ rfl rfl (loadVB B4.out)) ?_) | (refine wpList_isW rfl _ _ (exec_load _ _ _ _ rfl rfl (loadVB B5.out)) ?_) | (refine wpList_isW rfl _ _ (exec_load _ _ _ _ rfl rfl (loadI3 (block_cells3 B3.out).1)) ?_) | (refine wpList_isW rfl _ _ (exec_load _ _ _ _ rfl rfl (loadI3 (block_cells3 B4.out).1)) ?_) | (refine wpList_isW rfl _ _ (exec_load _ _ _ _ rfl rfl (loadI3 (block_cells3 B3.out).2.1)) ?_) | (refine wpList_isW rfl _ _ (exec_load _ _ _ _ rfl rfl (loadI3 (block_cells3 B4.out).2.1)) ?_) | fail)
          refine (SC.out _).mono ?_
          rintro e w16 ⟨rfl, k16⟩
          have K16 := hid (K15.out.trans k16)
          replace B3 := hid ((k16.block _ (lt_of_block B3.out) (by simp)).trans B3.out)
          replace B4 := hid ((k16.block _ (lt_of_block B4.out) (by simp)).trans B4.out)
          replace B5 := hid ((k16.block _ (lt_of_block B5.out) (by simp)).trans B5.out)
          replace HR := hid (HR.out.later k16)
          replace RQ := hid (RQ.out.keep k16 (by intro _ _ _ _ _; simp))
          clear k16
          obtain ⟨ko, hko⟩ : ∃ z, z = kindS ((tab0.put k (bl, bs, [1])).put k (al, aq, [2])) cc cl cs := ⟨_, rfl⟩
          have HKO := hid hko.symm
          clear hko
          go_wp2_with (first | (refine wpList_isW rfl _ _ (exec_load _ _ _ _ rfl rfl (loadVB B3.out)) ?_) | (refine wpList_isW rfl _ _ (exec_load _ _ _ _ rfl rfl (loadVB B4.out)) ?_) | (refine wpList_isW rfl _ _ (exec_load _ _ _ _ rfl rfl (loadVB B5.out)) ?_) | (refine wpList_isW rfl _ _ (exec_load _ _ _ _ rfl rfl (loadI3 (block_cells3 B3.out).1)) ?_) | (refine wpList_isW rfl _ _ (exec_load _ _ _ _ rfl rfl (loadI3 (block_cells3 B4.out).1)) ?_) | (refine wpList_isW rfl _ _ (exec_load _ _ _ _ rfl rfl (loadI3 (block_cells3 B3.out).2.1)) ?_) | (refine wpList_isW rfl _ _ (exec_load _ _ _ _ rfl rfl (loadI3 (block_cells3 B4.out).2.1)) ?_) | fail)
          refine (askF HR.out cc cl cs).mono ?_
          unfold AskPost
          rw [HKO.out]
          rintro e w17 ⟨ra3, rc3, rfl, -, -, k17⟩
          have K17 := hid (K16.out.trans k17)
          replace B3 := hid ((k17.block _ (lt_of_block B3.out) (by simp)).trans B3.out)
          replace B4 := hid ((k17.block _ (lt_of_block B4.out) (by simp)).trans B4.out)
          replace B5 := hid ((k17.block _ (lt_of_block B5.out) (by simp)).trans B5.out)
          replace HR := hid (HR.out.later k17)
          replace RQ := hid (RQ.out.keep k17 (by intro _ _ _ _ _; simp))
          clear k17
          have WN : Hid (∀ wn : Int, (if mayS cc cl cs = true then wn = 3 else wn = 2) → cc ≠ k → ko = wn) := hid (fun wn h hc => by
            rw [← HKO.out]
            split at h
            · rename_i hm; rw [h]; exact lives_other hm hc
            · rename_i hm; rw [h]; simp [kindS, hm])
          by_cases hmc : mayS cc cl cs = true
          · rw [hmc] at MC WN
            go_wp2_with (first | (refine wpList_isW rfl _ _ (exec_load _ _ _ _ rfl rfl (loadVB B3.out)) ?_) | (refine wpList_isW rfl _ _ (exec_load _ _ _ _ rfl rfl (loadVB B4.out)) ?_) | (refine wpList_isW rfl _ _ (exec_load _ _ _ _ rfl rfl (loadVB B5.out)) ?_) | (refine wpList_isW rfl _ _ (exec_load _ _ _ _ rfl rfl (loadI3 (block_cells3 B3.out).1)) ?_) | (refine wpList_isW rfl _ _ (exec_load _ _ _ _ rfl rfl (loadI3 (block_cells3 B4.out).1)) ?_) | (refine wpList_isW rfl _ _ (exec_load _ _ _ _ rfl rfl (loadI3 (block_cells3 B3.out).2.1)) ?_) | (refine wpList_isW rfl _ _ (exec_load _ _ _ _ rfl rfl (loadI3 (block_cells3 B4.out).2.1)) ?_) | fail)
            refine (MC.out _).mono ?_
            rintro e wr ⟨rfl, k18⟩
            have KR := hid (K17.out.trans k18)
            replace B3 := hid ((k18.block _ (lt_of_block B3.out) (by simp)).trans B3.out)
            replace B4 := hid ((k18.block _ (lt_of_block B4.out) (by simp)).trans B4.out)
            replace B5 := hid ((k18.block _ (lt_of_block B5.out) (by simp)).trans B5.out)
            replace HR := hid (HR.out.later k18)
            replace RQ := hid (RQ.out.keep k18 (by intro _ _ _ _ _; simp))
            clear k18
            by_cases hcc : cc = k
            · subst hcc
              go_wp2_with (first | (refine wpList_isW rfl _ _ (exec_load _ _ _ _ rfl rfl (loadVB B3.out)) ?_) | (refine wpList_isW rfl _ _ (exec_load _ _ _ _ rfl rfl (loadVB B4.out)) ?_) | (refine wpList_isW rfl _ _ (exec_load _ _ _ _ rfl rfl (loadVB B5.out)) ?_) | (refine wpList_isW rfl _ _ (exec_load _ _ _ _ rfl rfl (loadI3 (block_cells3 B3.out).1)) ?_) | (refine wpList_isW rfl _ _ (exec_load _ _ _ _ rfl rfl (loadI3 (block_cells3 B4.out).1)) ?_) | (refine wpList_isW rfl _ _ (exec_load _ _ _ _ rfl rfl (loadI3 (block_cells3 B3.out).2.1)) ?_) | (refine wpList_isW rfl _ _ (exec_load _ _ _ _ rfl rfl (loadI3 (block_cells3 B4.out).2.1)) ?_) | fail)
              refine wp_region_any (by kernel_rfl) (wpAny_of_held (S := KpS [] wr.heap.size wr.drew) _ _ _ _ ?_)
              change wpAnyH _ _ _ _ _ _ _ _ wr.drew
              have D3 : ∀ W1, KpS [] wr.heap.size wr.drew W1 → W1.heap[g3]? = some (.cells #[.int .i64 k, .int .i64 al, .int .i64 aq] 57 (0, 0)) := fun W1 h => (h.block _ (lt_of_block B3.out) (by simp)).trans B3.out
              have D5 : ∀ W1, KpS [] wr.heap.size wr.drew W1 → W1.heap[g5]? = some (.cells #[.int .i64 k, .int .i64 cl, .int .i64 cs] 57 (0, 0)) := fun W1 h => (h.block _ (lt_of_block B5.out) (by simp)).trans B5.out
              refine held_take (i := 0) (v := .int .i64 2) rfl (by kernel_rfl) (by kernel_rfl) (by kernel_rfl) (fun _ _ _ h => h) rfl (fun W1 hW1 => rfl) (KpS.refl _ _ _) ?_
              simp only [Act.put, List.setIfInBounds_toArray, List.set_cons_zero, List.set_cons_succ]
              refine held_take (i := 1) (v := .bool true) rfl (by kernel_rfl) (by kernel_rfl) (by kernel_rfl) (fun _ _ _ h => h) rfl (fun W1 hW1 => by go_simp) (KpS.refl _ _ _) ?_
              simp only [Act.put, List.setIfInBounds_toArray, List.set_cons_zero, List.set_cons_succ]
              refine held_take (i := 2) (v := .bool true) rfl (by kernel_rfl) (by kernel_rfl) (by kernel_rfl) (fun _ _ _ h => h) rfl (fun W1 hW1 => by go_simp) (KpS.refl _ _ _) ?_
              simp only [Act.put, List.setIfInBounds_toArray, List.set_cons_zero, List.set_cons_succ]
              refine held_takeW (i := 3) (v := .slice ra1 0 rc1) rfl (by kernel_rfl) (by kernel_rfl) (by kernel_rfl) (fun _ _ _ h => h) rfl (fun W1 hW1 => rfl) (KpS.refl _ _ _) ?_
              simp only [Act.put, List.setIfInBounds_toArray, List.set_cons_zero, List.set_cons_succ]
              refine held_takeW (i := 4) (v := .int .i64 0) rfl (by kernel_rfl) (by kernel_rfl) (by kernel_rfl) (fun _ _ _ h => h) rfl (fun W1 hW1 => by go_simp) (KpS.refl _ _ _) ?_
              simp only [Act.put, List.setIfInBounds_toArray, List.set_cons_zero, List.set_cons_succ]
              refine held_takeW (i := 5) (v := .bool true) rfl (by kernel_rfl) (by kernel_rfl) (by kernel_rfl) (fun _ _ _ h => h) rfl (fun W1 hW1 => by go_simp) (KpS.refl _ _ _) ?_
              simp only [Act.put, List.setIfInBounds_toArray, List.set_cons_zero, List.set_cons_succ]
              refine held_take (i := 6) (v := .bool true) rfl (by kernel_rfl) (by kernel_rfl) (by kernel_rfl) (fun _ _ _ h => h) rfl (fun W1 hW1 => by go_simp) (KpS.refl _ _ _) ?_
              simp only [Act.put, List.setIfInBounds_toArray, List.set_cons_zero, List.set_cons_succ]
              refine held_take (i := 7) (v := .bool true) rfl (by kernel_rfl) (by kernel_rfl) (by kernel_rfl) (fun _ _ _ h => h) rfl (fun W1 hW1 => by go_simp) (KpS.refl _ _ _) ?_
              simp only [Act.put, List.setIfInBounds_toArray, List.set_cons_zero, List.set_cons_succ]
              refine held_takeW (i := 8) (v := .int .i64 1) rfl (by kernel_rfl) (by kernel_rfl) (by kernel_rfl) (fun _ _ _ h => h) rfl (fun W1 hW1 => rfl) (KpS.refl _ _ _) ?_
              simp only [Act.put, List.setIfInBounds_toArray, List.set_cons_zero, List.set_cons_succ]
              refine held_takeW (i := 9) (v := .bool true) rfl (by kernel_rfl) (by kernel_rfl) (by kernel_rfl) (fun _ _ _ h => h) rfl (fun W1 hW1 => by go_simp) (KpS.refl _ _ _) ?_
              simp only [Act.put, List.setIfInBounds_toArray, List.set_cons_zero, List.set_cons_succ]
              refine held_take (i := 10) (v := .bool true) rfl (by kernel_rfl) (by kernel_rfl) (by kernel_rfl) (fun _ _ _ h => h) rfl (fun W1 hW1 => by go_simp) (KpS.refl _ _ _) ?_
              simp only [Act.put, List.setIfInBounds_toArray, List.set_cons_zero, List.set_cons_succ]
              refine held_take (i := 11) (v := .bool true) rfl (by kernel_rfl) (by kernel_rfl) (by kernel_rfl) (fun _ _ _ h => h) rfl (fun W1 hW1 => by go_simp) (KpS.refl _ _ _) ?_
              simp only [Act.put, List.setIfInBounds_toArray, List.set_cons_zero, List.set_cons_succ]
              refine held_takeW (i := 12) (v := .slice ra2 1 rc2) rfl (by kernel_rfl) (by kernel_rfl) (by kernel_rfl) (fun _ _ _ h => h) rfl (fun W1 hW1 => rfl) (KpS.refl _ _ _) ?_
              simp only [Act.put, List.setIfInBounds_toArray, List.set_cons_zero, List.set_cons_succ]
              refine held_doW (i := 13) (by kernel_rfl) rfl rfl (wp_value (exec_oneB8 _ _ rfl rfl) ?_)
              refine ⟨(KpS.refl _ _ _).alloc (by simp) _, ?_⟩
              simp only [Act.put, List.setIfInBounds_toArray, List.set_cons_zero, List.set_cons_succ]
              have kB : Keeps [] wr (wr.drew.alloc (.cells #[.int .u8 2] 5)) := (Keeps.refl [] wr).drew.alloc _
              have sB : KpS [] wr.heap.size wr.drew (wr.drew.alloc (.cells #[.int .u8 2] 5)) := (KpS.refl _ _ _).alloc (by simp) _
              have rB := row_oneK (w := wr.drew) 2 5 (by decide)
              have rA := RQ.out.keep kB (by intro _ _ _ _ _; simp)
              generalize wr.drew.heap.size = gB at rB ⊢
              generalize wr.drew.alloc (.cells #[.int .u8 2] 5) = wB at kB sB rA rB ⊢
              refine held_doW (i := 14) (by kernel_rfl) rfl rfl (wp_enter (f := 15) (args := #[.slice ra2 1 rc2, .slice (some ⟨gB, 0, none⟩) 1 1]) (by go_simp) (same_any wB _ _ [2] [2] rA rB (by decide) (by decide)) ?_)
              rintro e w9 ⟨rfl, n9, rfl⟩
              have kC : Keeps [] wr (wB.drewN n9) := kB.drewN n9
              have sC : KpS [] wr.heap.size wr.drew (wB.drewN n9) := sB.keeps ((Keeps.refl [] wB).drewN n9) kB.size (by simp)
              refine ⟨_, rfl, sC, ?_⟩
              simp only [Act.put, List.setIfInBounds_toArray, List.set_cons_zero, List.set_cons_succ]
              generalize wB.drewN n9 = wC at kC sC ⊢
              refine held_take (i := 15) (v := .bool true) rfl (by kernel_rfl) (by kernel_rfl) (by kernel_rfl) (fun _ _ _ h => h) rfl (fun W1 hW1 => by go_simp) (sC) ?_
              simp only [Act.put, List.setIfInBounds_toArray, List.set_cons_zero, List.set_cons_succ]
              refine held_take (i := 16) (v := .bool true) rfl (by kernel_rfl) (by kernel_rfl) (by kernel_rfl) (fun _ _ _ h => h) rfl (fun W1 hW1 => by go_simp) (sC) ?_
              simp only [Act.put, List.setIfInBounds_toArray, List.set_cons_zero, List.set_cons_succ]
              refine held_takeW (i := 17) (v := .pointer (some ⟨p, 0, none⟩)) rfl (by kernel_rfl) (by kernel_rfl) (by kernel_rfl) (fun _ _ _ h => h) rfl (fun W1 hW1 => rfl) (sC) ?_
              simp only [Act.put, List.setIfInBounds_toArray, List.set_cons_zero, List.set_cons_succ]
              refine held_takeW (i := 18) (v := .pointer (some ⟨g3, 0, none⟩)) rfl (by kernel_rfl) (by kernel_rfl) (by kernel_rfl) (fun _ _ _ h => h) rfl (fun W1 hW1 => by go_simp) (sC) ?_
              simp only [Act.put, List.setIfInBounds_toArray, List.set_cons_zero, List.set_cons_succ]
              refine held_takeW (i := 19) (v := .int .i64 k) rfl (by kernel_rfl) (by kernel_rfl) (by kernel_rfl) (fun _ _ _ h => h) rfl (fun W1 hW1 => exec_load _ _ _ _ rfl rfl (run_loadCell W1 _ _ _ ((block_cells3 (D3 W1 hW1)).1) (agg_no _ (by kernel_rfl)))) (sC) ?_
              simp only [Act.put, List.setIfInBounds_toArray, List.set_cons_zero, List.set_cons_succ]
              refine held_takeW (i := 21) (v := .pointer (some ⟨g3, 1, none⟩)) rfl (by kernel_rfl) (by kernel_rfl) (by kernel_rfl) (fun _ _ _ h => h) rfl (fun W1 hW1 => by go_simp) (sC) ?_
              simp only [Act.put, List.setIfInBounds_toArray, List.set_cons_zero, List.set_cons_succ]
              refine held_takeW (i := 22) (v := .int .i64 al) rfl (by kernel_rfl) (by kernel_rfl) (by kernel_rfl) (fun _ _ _ h => h) rfl (fun W1 hW1 => exec_load _ _ _ _ rfl rfl (run_loadCell W1 _ _ _ ((block_cells3 (D3 W1 hW1)).2.1) (agg_no _ (by kernel_rfl)))) (sC) ?_
              simp only [Act.put, List.setIfInBounds_toArray, List.set_cons_zero, List.set_cons_succ]
              refine held_doW (i := 20) (by kernel_rfl) rfl rfl (wp_enter (f := 22) (args := #[.pointer (some ⟨p, 0, none⟩), .int .i64 k]) (by go_simp) (lifeF (HR.out.later kC) k) ?_)
              rintro e w10 ⟨rfl, rfl⟩
              refine ⟨_, rfl, sC, ?_⟩
              simp only [Act.put, List.setIfInBounds_toArray, List.set_cons_zero, List.set_cons_succ]
              rw [FL.out]
              refine held_takeW (i := 23) (v := .bool true) rfl (by kernel_rfl) (by kernel_rfl) (by kernel_rfl) (fun _ _ _ h => h) rfl (fun W1 hW1 => by go_simp) (sC) ?_
              simp only [Act.put, List.setIfInBounds_toArray, List.set_cons_zero, List.set_cons_succ]
              refine held_take (i := 24) (v := .bool true) rfl (by kernel_rfl) (by kernel_rfl) (by kernel_rfl) (fun _ _ _ h => h) rfl (fun W1 hW1 => by go_simp) (sC) ?_
              simp only [Act.put, List.setIfInBounds_toArray, List.set_cons_zero, List.set_cons_succ]
              refine held_take (i := 25) (v := .bool true) rfl (by kernel_rfl) (by kernel_rfl) (by kernel_rfl) (fun _ _ _ h => h) rfl (fun W1 hW1 => by go_simp) (sC) ?_
              simp only [Act.put, List.setIfInBounds_toArray, List.set_cons_zero, List.set_cons_succ]
              refine held_takeW (i := 26) (v := .pointer (some ⟨g5, 0, none⟩)) rfl (by kernel_rfl) (by kernel_rfl) (by kernel_rfl) (fun _ _ _ h => h) rfl (fun W1 hW1 => by go_simp) (sC) ?_
              simp only [Act.put, List.setIfInBounds_toArray, List.set_cons_zero, List.set_cons_succ]
              refine held_takeW (i := 27) (v := .int .i64 k) rfl (by kernel_rfl) (by kernel_rfl) (by kernel_rfl) (fun _ _ _ h => h) rfl (fun W1 hW1 => exec_load _ _ _ _ rfl rfl (run_loadCell W1 _ _ _ ((block_cells3 (D5 W1 hW1)).1) (agg_no _ (by kernel_rfl)))) (sC) ?_
              simp only [Act.put, List.setIfInBounds_toArray, List.set_cons_zero, List.set_cons_succ]
              refine held_takeW (i := 28) (v := .pointer (some ⟨g3, 0, none⟩)) rfl (by kernel_rfl) (by kernel_rfl) (by kernel_rfl) (fun _ _ _ h => h) rfl (fun W1 hW1 => by go_simp) (sC) ?_
              simp only [Act.put, List.setIfInBounds_toArray, List.set_cons_zero, List.set_cons_succ]
              refine held_takeW (i := 29) (v := .int .i64 k) rfl (by kernel_rfl) (by kernel_rfl) (by kernel_rfl) (fun _ _ _ h => h) rfl (fun W1 hW1 => exec_load _ _ _ _ rfl rfl (run_loadCell W1 _ _ _ ((block_cells3 (D3 W1 hW1)).1) (agg_no _ (by kernel_rfl)))) (sC) ?_
              simp only [Act.put, List.setIfInBounds_toArray, List.set_cons_zero, List.set_cons_succ]
              refine held_takeW (i := 30) (v := .bool true) rfl (by kernel_rfl) (by kernel_rfl) (by kernel_rfl) (fun _ _ _ h => h) rfl (fun W1 hW1 => by go_simp) (sC) ?_
              simp only [Act.put, List.setIfInBounds_toArray, List.set_cons_zero, List.set_cons_succ]
              refine held_takeW (i := 31) (v := .bool true) rfl (by kernel_rfl) (by kernel_rfl) (by kernel_rfl) (fun _ _ _ h => h) rfl (fun W1 hW1 => by go_simp) (sC) ?_
              simp only [Act.put, List.setIfInBounds_toArray, List.set_cons_zero, List.set_cons_succ]
              refine held_skip (i := 32) rfl (by kernel_rfl) (by kernel_rfl) (by kernel_rfl) (fun _ _ _ h => h) rfl (sC) ?_
              simp only [Act.put, List.setIfInBounds_toArray, List.set_cons_zero, List.set_cons_succ]
              refine held_skip (i := 33) rfl (by kernel_rfl) (by kernel_rfl) (by kernel_rfl) (fun _ _ _ h => h) rfl (sC) ?_
              simp only [Act.put, List.setIfInBounds_toArray, List.set_cons_zero, List.set_cons_succ]
              refine held_skip (i := 34) rfl (by kernel_rfl) (by kernel_rfl) (by kernel_rfl) (fun _ _ _ h => h) rfl (sC) ?_
              simp only [Act.put, List.setIfInBounds_toArray, List.set_cons_zero, List.set_cons_succ]
              refine held_takeW (i := 35) (v := .bool true) rfl (by kernel_rfl) (by kernel_rfl) (by kernel_rfl) (fun _ _ _ h => h) rfl (fun W1 hW1 => by go_simp) (sC) ?_
              simp only [Act.put, List.setIfInBounds_toArray, List.set_cons_zero, List.set_cons_succ]
              refine held_take (i := 36) (v := .bool true) rfl (by kernel_rfl) (by kernel_rfl) (by kernel_rfl) (fun _ _ _ h => h) rfl (fun W1 hW1 => by go_simp) (sC) ?_
              simp only [Act.put, List.setIfInBounds_toArray, List.set_cons_zero, List.set_cons_succ]
              refine held_take (i := 37) (v := .bool true) rfl (by kernel_rfl) (by kernel_rfl) (by kernel_rfl) (fun _ _ _ h => h) rfl (fun W1 hW1 => by go_simp) (sC) ?_
              simp only [Act.put, List.setIfInBounds_toArray, List.set_cons_zero, List.set_cons_succ]
              refine wpAnyH_done (by kernel_rfl) ?_ _
              have KF := hid (KR.out.trans kC)
              clear kB sB rA rB kC sC D3 D5
              go_wp2_with fail
              go_ret
              exact ⟨rfl, KF.out⟩
            · have hw := WN.out 3 (by simp) hcc
              subst hw
              go_wp2_with (first | (refine wpList_isW rfl _ _ (exec_load _ _ _ _ rfl rfl (loadVB B3.out)) ?_) | (refine wpList_isW rfl _ _ (exec_load _ _ _ _ rfl rfl (loadVB B4.out)) ?_) | (refine wpList_isW rfl _ _ (exec_load _ _ _ _ rfl rfl (loadVB B5.out)) ?_) | (refine wpList_isW rfl _ _ (exec_load _ _ _ _ rfl rfl (loadI3 (block_cells3 B3.out).1)) ?_) | (refine wpList_isW rfl _ _ (exec_load _ _ _ _ rfl rfl (loadI3 (block_cells3 B4.out).1)) ?_) | (refine wpList_isW rfl _ _ (exec_load _ _ _ _ rfl rfl (loadI3 (block_cells3 B3.out).2.1)) ?_) | (refine wpList_isW rfl _ _ (exec_load _ _ _ _ rfl rfl (loadI3 (block_cells3 B4.out).2.1)) ?_) | fail)
              refine wp_region_any (by kernel_rfl) (wpAny_of_held (S := KpS [] wr.heap.size wr.drew) _ _ _ _ ?_)
              change wpAnyH _ _ _ _ _ _ _ _ wr.drew
              have D3 : ∀ W1, KpS [] wr.heap.size wr.drew W1 → W1.heap[g3]? = some (.cells #[.int .i64 k, .int .i64 al, .int .i64 aq] 57 (0, 0)) := fun W1 h => (h.block _ (lt_of_block B3.out) (by simp)).trans B3.out
              have D5 : ∀ W1, KpS [] wr.heap.size wr.drew W1 → W1.heap[g5]? = some (.cells #[.int .i64 cc, .int .i64 cl, .int .i64 cs] 57 (0, 0)) := fun W1 h => (h.block _ (lt_of_block B5.out) (by simp)).trans B5.out
              refine held_take (i := 0) (v := .int .i64 2) rfl (by kernel_rfl) (by kernel_rfl) (by kernel_rfl) (fun _ _ _ h => h) rfl (fun W1 hW1 => rfl) (KpS.refl _ _ _) ?_
              simp only [Act.put, List.setIfInBounds_toArray, List.set_cons_zero, List.set_cons_succ]
              refine held_take (i := 1) (v := .bool true) rfl (by kernel_rfl) (by kernel_rfl) (by kernel_rfl) (fun _ _ _ h => h) rfl (fun W1 hW1 => by go_simp) (KpS.refl _ _ _) ?_
              simp only [Act.put, List.setIfInBounds_toArray, List.set_cons_zero, List.set_cons_succ]
              refine held_take (i := 2) (v := .bool true) rfl (by kernel_rfl) (by kernel_rfl) (by kernel_rfl) (fun _ _ _ h => h) rfl (fun W1 hW1 => by go_simp) (KpS.refl _ _ _) ?_
              simp only [Act.put, List.setIfInBounds_toArray, List.set_cons_zero, List.set_cons_succ]
              refine held_takeW (i := 3) (v := .slice ra1 0 rc1) rfl (by kernel_rfl) (by kernel_rfl) (by kernel_rfl) (fun _ _ _ h => h) rfl (fun W1 hW1 => rfl) (KpS.refl _ _ _) ?_
              simp only [Act.put, List.setIfInBounds_toArray, List.set_cons_zero, List.set_cons_succ]
              refine held_takeW (i := 4) (v := .int .i64 0) rfl (by kernel_rfl) (by kernel_rfl) (by kernel_rfl) (fun _ _ _ h => h) rfl (fun W1 hW1 => by go_simp) (KpS.refl _ _ _) ?_
              simp only [Act.put, List.setIfInBounds_toArray, List.set_cons_zero, List.set_cons_succ]
              refine held_takeW (i := 5) (v := .bool true) rfl (by kernel_rfl) (by kernel_rfl) (by kernel_rfl) (fun _ _ _ h => h) rfl (fun W1 hW1 => by go_simp) (KpS.refl _ _ _) ?_
              simp only [Act.put, List.setIfInBounds_toArray, List.set_cons_zero, List.set_cons_succ]
              refine held_take (i := 6) (v := .bool true) rfl (by kernel_rfl) (by kernel_rfl) (by kernel_rfl) (fun _ _ _ h => h) rfl (fun W1 hW1 => by go_simp) (KpS.refl _ _ _) ?_
              simp only [Act.put, List.setIfInBounds_toArray, List.set_cons_zero, List.set_cons_succ]
              refine held_take (i := 7) (v := .bool true) rfl (by kernel_rfl) (by kernel_rfl) (by kernel_rfl) (fun _ _ _ h => h) rfl (fun W1 hW1 => by go_simp) (KpS.refl _ _ _) ?_
              simp only [Act.put, List.setIfInBounds_toArray, List.set_cons_zero, List.set_cons_succ]
              refine held_takeW (i := 8) (v := .int .i64 1) rfl (by kernel_rfl) (by kernel_rfl) (by kernel_rfl) (fun _ _ _ h => h) rfl (fun W1 hW1 => rfl) (KpS.refl _ _ _) ?_
              simp only [Act.put, List.setIfInBounds_toArray, List.set_cons_zero, List.set_cons_succ]
              refine held_takeW (i := 9) (v := .bool true) rfl (by kernel_rfl) (by kernel_rfl) (by kernel_rfl) (fun _ _ _ h => h) rfl (fun W1 hW1 => by go_simp) (KpS.refl _ _ _) ?_
              simp only [Act.put, List.setIfInBounds_toArray, List.set_cons_zero, List.set_cons_succ]
              refine held_take (i := 10) (v := .bool true) rfl (by kernel_rfl) (by kernel_rfl) (by kernel_rfl) (fun _ _ _ h => h) rfl (fun W1 hW1 => by go_simp) (KpS.refl _ _ _) ?_
              simp only [Act.put, List.setIfInBounds_toArray, List.set_cons_zero, List.set_cons_succ]
              refine held_take (i := 11) (v := .bool true) rfl (by kernel_rfl) (by kernel_rfl) (by kernel_rfl) (fun _ _ _ h => h) rfl (fun W1 hW1 => by go_simp) (KpS.refl _ _ _) ?_
              simp only [Act.put, List.setIfInBounds_toArray, List.set_cons_zero, List.set_cons_succ]
              refine held_takeW (i := 12) (v := .slice ra2 1 rc2) rfl (by kernel_rfl) (by kernel_rfl) (by kernel_rfl) (fun _ _ _ h => h) rfl (fun W1 hW1 => rfl) (KpS.refl _ _ _) ?_
              simp only [Act.put, List.setIfInBounds_toArray, List.set_cons_zero, List.set_cons_succ]
              refine held_doW (i := 13) (by kernel_rfl) rfl rfl (wp_value (exec_oneB8 _ _ rfl rfl) ?_)
              refine ⟨(KpS.refl _ _ _).alloc (by simp) _, ?_⟩
              simp only [Act.put, List.setIfInBounds_toArray, List.set_cons_zero, List.set_cons_succ]
              have kB : Keeps [] wr (wr.drew.alloc (.cells #[.int .u8 2] 5)) := (Keeps.refl [] wr).drew.alloc _
              have sB : KpS [] wr.heap.size wr.drew (wr.drew.alloc (.cells #[.int .u8 2] 5)) := (KpS.refl _ _ _).alloc (by simp) _
              have rB := row_oneK (w := wr.drew) 2 5 (by decide)
              have rA := RQ.out.keep kB (by intro _ _ _ _ _; simp)
              generalize wr.drew.heap.size = gB at rB ⊢
              generalize wr.drew.alloc (.cells #[.int .u8 2] 5) = wB at kB sB rA rB ⊢
              refine held_doW (i := 14) (by kernel_rfl) rfl rfl (wp_enter (f := 15) (args := #[.slice ra2 1 rc2, .slice (some ⟨gB, 0, none⟩) 1 1]) (by go_simp) (same_any wB _ _ [2] [2] rA rB (by decide) (by decide)) ?_)
              rintro e w9 ⟨rfl, n9, rfl⟩
              have kC : Keeps [] wr (wB.drewN n9) := kB.drewN n9
              have sC : KpS [] wr.heap.size wr.drew (wB.drewN n9) := sB.keeps ((Keeps.refl [] wB).drewN n9) kB.size (by simp)
              refine ⟨_, rfl, sC, ?_⟩
              simp only [Act.put, List.setIfInBounds_toArray, List.set_cons_zero, List.set_cons_succ]
              generalize wB.drewN n9 = wC at kC sC ⊢
              refine held_take (i := 15) (v := .bool true) rfl (by kernel_rfl) (by kernel_rfl) (by kernel_rfl) (fun _ _ _ h => h) rfl (fun W1 hW1 => by go_simp) (sC) ?_
              simp only [Act.put, List.setIfInBounds_toArray, List.set_cons_zero, List.set_cons_succ]
              refine held_take (i := 16) (v := .bool true) rfl (by kernel_rfl) (by kernel_rfl) (by kernel_rfl) (fun _ _ _ h => h) rfl (fun W1 hW1 => by go_simp) (sC) ?_
              simp only [Act.put, List.setIfInBounds_toArray, List.set_cons_zero, List.set_cons_succ]
              refine held_takeW (i := 17) (v := .pointer (some ⟨p, 0, none⟩)) rfl (by kernel_rfl) (by kernel_rfl) (by kernel_rfl) (fun _ _ _ h => h) rfl (fun W1 hW1 => rfl) (sC) ?_
              simp only [Act.put, List.setIfInBounds_toArray, List.set_cons_zero, List.set_cons_succ]
              refine held_takeW (i := 18) (v := .pointer (some ⟨g3, 0, none⟩)) rfl (by kernel_rfl) (by kernel_rfl) (by kernel_rfl) (fun _ _ _ h => h) rfl (fun W1 hW1 => by go_simp) (sC) ?_
              simp only [Act.put, List.setIfInBounds_toArray, List.set_cons_zero, List.set_cons_succ]
              refine held_takeW (i := 19) (v := .int .i64 k) rfl (by kernel_rfl) (by kernel_rfl) (by kernel_rfl) (fun _ _ _ h => h) rfl (fun W1 hW1 => exec_load _ _ _ _ rfl rfl (run_loadCell W1 _ _ _ ((block_cells3 (D3 W1 hW1)).1) (agg_no _ (by kernel_rfl)))) (sC) ?_
              simp only [Act.put, List.setIfInBounds_toArray, List.set_cons_zero, List.set_cons_succ]
              refine held_takeW (i := 21) (v := .pointer (some ⟨g3, 1, none⟩)) rfl (by kernel_rfl) (by kernel_rfl) (by kernel_rfl) (fun _ _ _ h => h) rfl (fun W1 hW1 => by go_simp) (sC) ?_
              simp only [Act.put, List.setIfInBounds_toArray, List.set_cons_zero, List.set_cons_succ]
              refine held_takeW (i := 22) (v := .int .i64 al) rfl (by kernel_rfl) (by kernel_rfl) (by kernel_rfl) (fun _ _ _ h => h) rfl (fun W1 hW1 => exec_load _ _ _ _ rfl rfl (run_loadCell W1 _ _ _ ((block_cells3 (D3 W1 hW1)).2.1) (agg_no _ (by kernel_rfl)))) (sC) ?_
              simp only [Act.put, List.setIfInBounds_toArray, List.set_cons_zero, List.set_cons_succ]
              refine held_doW (i := 20) (by kernel_rfl) rfl rfl (wp_enter (f := 22) (args := #[.pointer (some ⟨p, 0, none⟩), .int .i64 k]) (by go_simp) (lifeF (HR.out.later kC) k) ?_)
              rintro e w10 ⟨rfl, rfl⟩
              refine ⟨_, rfl, sC, ?_⟩
              simp only [Act.put, List.setIfInBounds_toArray, List.set_cons_zero, List.set_cons_succ]
              rw [FL.out]
              refine held_takeW (i := 23) (v := .bool true) rfl (by kernel_rfl) (by kernel_rfl) (by kernel_rfl) (fun _ _ _ h => h) rfl (fun W1 hW1 => by go_simp) (sC) ?_
              simp only [Act.put, List.setIfInBounds_toArray, List.set_cons_zero, List.set_cons_succ]
              refine held_take (i := 24) (v := .bool true) rfl (by kernel_rfl) (by kernel_rfl) (by kernel_rfl) (fun _ _ _ h => h) rfl (fun W1 hW1 => by go_simp) (sC) ?_
              simp only [Act.put, List.setIfInBounds_toArray, List.set_cons_zero, List.set_cons_succ]
              refine held_take (i := 25) (v := .bool true) rfl (by kernel_rfl) (by kernel_rfl) (by kernel_rfl) (fun _ _ _ h => h) rfl (fun W1 hW1 => by go_simp) (sC) ?_
              simp only [Act.put, List.setIfInBounds_toArray, List.set_cons_zero, List.set_cons_succ]
              refine held_takeW (i := 26) (v := .pointer (some ⟨g5, 0, none⟩)) rfl (by kernel_rfl) (by kernel_rfl) (by kernel_rfl) (fun _ _ _ h => h) rfl (fun W1 hW1 => by go_simp) (sC) ?_
              simp only [Act.put, List.setIfInBounds_toArray, List.set_cons_zero, List.set_cons_succ]
              refine held_takeW (i := 27) (v := .int .i64 cc) rfl (by kernel_rfl) (by kernel_rfl) (by kernel_rfl) (fun _ _ _ h => h) rfl (fun W1 hW1 => exec_load _ _ _ _ rfl rfl (run_loadCell W1 _ _ _ ((block_cells3 (D5 W1 hW1)).1) (agg_no _ (by kernel_rfl)))) (sC) ?_
              simp only [Act.put, List.setIfInBounds_toArray, List.set_cons_zero, List.set_cons_succ]
              refine held_takeW (i := 28) (v := .pointer (some ⟨g3, 0, none⟩)) rfl (by kernel_rfl) (by kernel_rfl) (by kernel_rfl) (fun _ _ _ h => h) rfl (fun W1 hW1 => by go_simp) (sC) ?_
              simp only [Act.put, List.setIfInBounds_toArray, List.set_cons_zero, List.set_cons_succ]
              refine held_takeW (i := 29) (v := .int .i64 k) rfl (by kernel_rfl) (by kernel_rfl) (by kernel_rfl) (fun _ _ _ h => h) rfl (fun W1 hW1 => exec_load _ _ _ _ rfl rfl (run_loadCell W1 _ _ _ ((block_cells3 (D3 W1 hW1)).1) (agg_no _ (by kernel_rfl)))) (sC) ?_
              simp only [Act.put, List.setIfInBounds_toArray, List.set_cons_zero, List.set_cons_succ]
              refine held_takeW (i := 30) (v := .bool false) rfl (by kernel_rfl) (by kernel_rfl) (by kernel_rfl) (fun _ _ _ h => h) rfl (fun W1 hW1 => by go_simp) (sC) ?_
              simp only [Act.put, List.setIfInBounds_toArray, List.set_cons_zero, List.set_cons_succ]
              refine held_takeW (i := 31) (v := .bool false) rfl (by kernel_rfl) (by kernel_rfl) (by kernel_rfl) (fun _ _ _ h => h) rfl (fun W1 hW1 => by go_simp) (sC) ?_
              simp only [Act.put, List.setIfInBounds_toArray, List.set_cons_zero, List.set_cons_succ]
              refine held_takeW (i := 32) (v := .int .i64 3) rfl (by kernel_rfl) (by kernel_rfl) (by kernel_rfl) (fun _ _ _ h => h) rfl (fun W1 hW1 => by go_simp) (sC) ?_
              simp only [Act.put, List.setIfInBounds_toArray, List.set_cons_zero, List.set_cons_succ]
              refine held_takeW (i := 33) (v := .int .i64 3) rfl (by kernel_rfl) (by kernel_rfl) (by kernel_rfl) (fun _ _ _ h => h) rfl (fun W1 hW1 => by go_simp) (sC) ?_
              simp only [Act.put, List.setIfInBounds_toArray, List.set_cons_zero, List.set_cons_succ]
              refine held_takeW (i := 34) (v := .bool true) rfl (by kernel_rfl) (by kernel_rfl) (by kernel_rfl) (fun _ _ _ h => h) rfl (fun W1 hW1 => by go_simp) (sC) ?_
              simp only [Act.put, List.setIfInBounds_toArray, List.set_cons_zero, List.set_cons_succ]
              refine held_takeW (i := 35) (v := .bool true) rfl (by kernel_rfl) (by kernel_rfl) (by kernel_rfl) (fun _ _ _ h => h) rfl (fun W1 hW1 => by go_simp) (sC) ?_
              simp only [Act.put, List.setIfInBounds_toArray, List.set_cons_zero, List.set_cons_succ]
              refine held_take (i := 36) (v := .bool true) rfl (by kernel_rfl) (by kernel_rfl) (by kernel_rfl) (fun _ _ _ h => h) rfl (fun W1 hW1 => by go_simp) (sC) ?_
              simp only [Act.put, List.setIfInBounds_toArray, List.set_cons_zero, List.set_cons_succ]
              refine held_take (i := 37) (v := .bool true) rfl (by kernel_rfl) (by kernel_rfl) (by kernel_rfl) (fun _ _ _ h => h) rfl (fun W1 hW1 => by go_simp) (sC) ?_
              simp only [Act.put, List.setIfInBounds_toArray, List.set_cons_zero, List.set_cons_succ]
              refine wpAnyH_done (by kernel_rfl) ?_ _
              have KF := hid (KR.out.trans kC)
              clear kB sB rA rB kC sC D3 D5
              go_wp2_with fail
              go_ret
              exact ⟨rfl, KF.out⟩
          · have hmc' : mayS cc cl cs = false := by simpa using hmc
            rw [hmc'] at MC WN
            go_wp2_with (first | (refine wpList_isW rfl _ _ (exec_load _ _ _ _ rfl rfl (loadVB B3.out)) ?_) | (refine wpList_isW rfl _ _ (exec_load _ _ _ _ rfl rfl (loadVB B4.out)) ?_) | (refine wpList_isW rfl _ _ (exec_load _ _ _ _ rfl rfl (loadVB B5.out)) ?_) | (refine wpList_isW rfl _ _ (exec_load _ _ _ _ rfl rfl (loadI3 (block_cells3 B3.out).1)) ?_) | (refine wpList_isW rfl _ _ (exec_load _ _ _ _ rfl rfl (loadI3 (block_cells3 B4.out).1)) ?_) | (refine wpList_isW rfl _ _ (exec_load _ _ _ _ rfl rfl (loadI3 (block_cells3 B3.out).2.1)) ?_) | (refine wpList_isW rfl _ _ (exec_load _ _ _ _ rfl rfl (loadI3 (block_cells3 B4.out).2.1)) ?_) | fail)
            refine (MC.out _).mono ?_
            rintro e wr ⟨rfl, k18⟩
            have KR := hid (K17.out.trans k18)
            replace B3 := hid ((k18.block _ (lt_of_block B3.out) (by simp)).trans B3.out)
            replace B4 := hid ((k18.block _ (lt_of_block B4.out) (by simp)).trans B4.out)
            replace B5 := hid ((k18.block _ (lt_of_block B5.out) (by simp)).trans B5.out)
            replace HR := hid (HR.out.later k18)
            replace RQ := hid (RQ.out.keep k18 (by intro _ _ _ _ _; simp))
            clear k18
            by_cases hcc : cc = k
            · subst hcc
              go_wp2_with (first | (refine wpList_isW rfl _ _ (exec_load _ _ _ _ rfl rfl (loadVB B3.out)) ?_) | (refine wpList_isW rfl _ _ (exec_load _ _ _ _ rfl rfl (loadVB B4.out)) ?_) | (refine wpList_isW rfl _ _ (exec_load _ _ _ _ rfl rfl (loadVB B5.out)) ?_) | (refine wpList_isW rfl _ _ (exec_load _ _ _ _ rfl rfl (loadI3 (block_cells3 B3.out).1)) ?_) | (refine wpList_isW rfl _ _ (exec_load _ _ _ _ rfl rfl (loadI3 (block_cells3 B4.out).1)) ?_) | (refine wpList_isW rfl _ _ (exec_load _ _ _ _ rfl rfl (loadI3 (block_cells3 B3.out).2.1)) ?_) | (refine wpList_isW rfl _ _ (exec_load _ _ _ _ rfl rfl (loadI3 (block_cells3 B4.out).2.1)) ?_) | fail)
              refine wp_region_any (by kernel_rfl) (wpAny_of_held (S := KpS [] wr.heap.size wr.drew) _ _ _ _ ?_)
              change wpAnyH _ _ _ _ _ _ _ _ wr.drew
              have D3 : ∀ W1, KpS [] wr.heap.size wr.drew W1 → W1.heap[g3]? = some (.cells #[.int .i64 k, .int .i64 al, .int .i64 aq] 57 (0, 0)) := fun W1 h => (h.block _ (lt_of_block B3.out) (by simp)).trans B3.out
              have D5 : ∀ W1, KpS [] wr.heap.size wr.drew W1 → W1.heap[g5]? = some (.cells #[.int .i64 k, .int .i64 cl, .int .i64 cs] 57 (0, 0)) := fun W1 h => (h.block _ (lt_of_block B5.out) (by simp)).trans B5.out
              refine held_take (i := 0) (v := .int .i64 2) rfl (by kernel_rfl) (by kernel_rfl) (by kernel_rfl) (fun _ _ _ h => h) rfl (fun W1 hW1 => rfl) (KpS.refl _ _ _) ?_
              simp only [Act.put, List.setIfInBounds_toArray, List.set_cons_zero, List.set_cons_succ]
              refine held_take (i := 1) (v := .bool true) rfl (by kernel_rfl) (by kernel_rfl) (by kernel_rfl) (fun _ _ _ h => h) rfl (fun W1 hW1 => by go_simp) (KpS.refl _ _ _) ?_
              simp only [Act.put, List.setIfInBounds_toArray, List.set_cons_zero, List.set_cons_succ]
              refine held_take (i := 2) (v := .bool true) rfl (by kernel_rfl) (by kernel_rfl) (by kernel_rfl) (fun _ _ _ h => h) rfl (fun W1 hW1 => by go_simp) (KpS.refl _ _ _) ?_
              simp only [Act.put, List.setIfInBounds_toArray, List.set_cons_zero, List.set_cons_succ]
              refine held_takeW (i := 3) (v := .slice ra1 0 rc1) rfl (by kernel_rfl) (by kernel_rfl) (by kernel_rfl) (fun _ _ _ h => h) rfl (fun W1 hW1 => rfl) (KpS.refl _ _ _) ?_
              simp only [Act.put, List.setIfInBounds_toArray, List.set_cons_zero, List.set_cons_succ]
              refine held_takeW (i := 4) (v := .int .i64 0) rfl (by kernel_rfl) (by kernel_rfl) (by kernel_rfl) (fun _ _ _ h => h) rfl (fun W1 hW1 => by go_simp) (KpS.refl _ _ _) ?_
              simp only [Act.put, List.setIfInBounds_toArray, List.set_cons_zero, List.set_cons_succ]
              refine held_takeW (i := 5) (v := .bool true) rfl (by kernel_rfl) (by kernel_rfl) (by kernel_rfl) (fun _ _ _ h => h) rfl (fun W1 hW1 => by go_simp) (KpS.refl _ _ _) ?_
              simp only [Act.put, List.setIfInBounds_toArray, List.set_cons_zero, List.set_cons_succ]
              refine held_take (i := 6) (v := .bool true) rfl (by kernel_rfl) (by kernel_rfl) (by kernel_rfl) (fun _ _ _ h => h) rfl (fun W1 hW1 => by go_simp) (KpS.refl _ _ _) ?_
              simp only [Act.put, List.setIfInBounds_toArray, List.set_cons_zero, List.set_cons_succ]
              refine held_take (i := 7) (v := .bool true) rfl (by kernel_rfl) (by kernel_rfl) (by kernel_rfl) (fun _ _ _ h => h) rfl (fun W1 hW1 => by go_simp) (KpS.refl _ _ _) ?_
              simp only [Act.put, List.setIfInBounds_toArray, List.set_cons_zero, List.set_cons_succ]
              refine held_takeW (i := 8) (v := .int .i64 1) rfl (by kernel_rfl) (by kernel_rfl) (by kernel_rfl) (fun _ _ _ h => h) rfl (fun W1 hW1 => rfl) (KpS.refl _ _ _) ?_
              simp only [Act.put, List.setIfInBounds_toArray, List.set_cons_zero, List.set_cons_succ]
              refine held_takeW (i := 9) (v := .bool true) rfl (by kernel_rfl) (by kernel_rfl) (by kernel_rfl) (fun _ _ _ h => h) rfl (fun W1 hW1 => by go_simp) (KpS.refl _ _ _) ?_
              simp only [Act.put, List.setIfInBounds_toArray, List.set_cons_zero, List.set_cons_succ]
              refine held_take (i := 10) (v := .bool true) rfl (by kernel_rfl) (by kernel_rfl) (by kernel_rfl) (fun _ _ _ h => h) rfl (fun W1 hW1 => by go_simp) (KpS.refl _ _ _) ?_
              simp only [Act.put, List.setIfInBounds_toArray, List.set_cons_zero, List.set_cons_succ]
              refine held_take (i := 11) (v := .bool true) rfl (by kernel_rfl) (by kernel_rfl) (by kernel_rfl) (fun _ _ _ h => h) rfl (fun W1 hW1 => by go_simp) (KpS.refl _ _ _) ?_
              simp only [Act.put, List.setIfInBounds_toArray, List.set_cons_zero, List.set_cons_succ]
              refine held_takeW (i := 12) (v := .slice ra2 1 rc2) rfl (by kernel_rfl) (by kernel_rfl) (by kernel_rfl) (fun _ _ _ h => h) rfl (fun W1 hW1 => rfl) (KpS.refl _ _ _) ?_
              simp only [Act.put, List.setIfInBounds_toArray, List.set_cons_zero, List.set_cons_succ]
              refine held_doW (i := 13) (by kernel_rfl) rfl rfl (wp_value (exec_oneB8 _ _ rfl rfl) ?_)
              refine ⟨(KpS.refl _ _ _).alloc (by simp) _, ?_⟩
              simp only [Act.put, List.setIfInBounds_toArray, List.set_cons_zero, List.set_cons_succ]
              have kB : Keeps [] wr (wr.drew.alloc (.cells #[.int .u8 2] 5)) := (Keeps.refl [] wr).drew.alloc _
              have sB : KpS [] wr.heap.size wr.drew (wr.drew.alloc (.cells #[.int .u8 2] 5)) := (KpS.refl _ _ _).alloc (by simp) _
              have rB := row_oneK (w := wr.drew) 2 5 (by decide)
              have rA := RQ.out.keep kB (by intro _ _ _ _ _; simp)
              generalize wr.drew.heap.size = gB at rB ⊢
              generalize wr.drew.alloc (.cells #[.int .u8 2] 5) = wB at kB sB rA rB ⊢
              refine held_doW (i := 14) (by kernel_rfl) rfl rfl (wp_enter (f := 15) (args := #[.slice ra2 1 rc2, .slice (some ⟨gB, 0, none⟩) 1 1]) (by go_simp) (same_any wB _ _ [2] [2] rA rB (by decide) (by decide)) ?_)
              rintro e w9 ⟨rfl, n9, rfl⟩
              have kC : Keeps [] wr (wB.drewN n9) := kB.drewN n9
              have sC : KpS [] wr.heap.size wr.drew (wB.drewN n9) := sB.keeps ((Keeps.refl [] wB).drewN n9) kB.size (by simp)
              refine ⟨_, rfl, sC, ?_⟩
              simp only [Act.put, List.setIfInBounds_toArray, List.set_cons_zero, List.set_cons_succ]
              generalize wB.drewN n9 = wC at kC sC ⊢
              refine held_take (i := 15) (v := .bool true) rfl (by kernel_rfl) (by kernel_rfl) (by kernel_rfl) (fun _ _ _ h => h) rfl (fun W1 hW1 => by go_simp) (sC) ?_
              simp only [Act.put, List.setIfInBounds_toArray, List.set_cons_zero, List.set_cons_succ]
              refine held_take (i := 16) (v := .bool true) rfl (by kernel_rfl) (by kernel_rfl) (by kernel_rfl) (fun _ _ _ h => h) rfl (fun W1 hW1 => by go_simp) (sC) ?_
              simp only [Act.put, List.setIfInBounds_toArray, List.set_cons_zero, List.set_cons_succ]
              refine held_takeW (i := 17) (v := .pointer (some ⟨p, 0, none⟩)) rfl (by kernel_rfl) (by kernel_rfl) (by kernel_rfl) (fun _ _ _ h => h) rfl (fun W1 hW1 => rfl) (sC) ?_
              simp only [Act.put, List.setIfInBounds_toArray, List.set_cons_zero, List.set_cons_succ]
              refine held_takeW (i := 18) (v := .pointer (some ⟨g3, 0, none⟩)) rfl (by kernel_rfl) (by kernel_rfl) (by kernel_rfl) (fun _ _ _ h => h) rfl (fun W1 hW1 => by go_simp) (sC) ?_
              simp only [Act.put, List.setIfInBounds_toArray, List.set_cons_zero, List.set_cons_succ]
              refine held_takeW (i := 19) (v := .int .i64 k) rfl (by kernel_rfl) (by kernel_rfl) (by kernel_rfl) (fun _ _ _ h => h) rfl (fun W1 hW1 => exec_load _ _ _ _ rfl rfl (run_loadCell W1 _ _ _ ((block_cells3 (D3 W1 hW1)).1) (agg_no _ (by kernel_rfl)))) (sC) ?_
              simp only [Act.put, List.setIfInBounds_toArray, List.set_cons_zero, List.set_cons_succ]
              refine held_takeW (i := 21) (v := .pointer (some ⟨g3, 1, none⟩)) rfl (by kernel_rfl) (by kernel_rfl) (by kernel_rfl) (fun _ _ _ h => h) rfl (fun W1 hW1 => by go_simp) (sC) ?_
              simp only [Act.put, List.setIfInBounds_toArray, List.set_cons_zero, List.set_cons_succ]
              refine held_takeW (i := 22) (v := .int .i64 al) rfl (by kernel_rfl) (by kernel_rfl) (by kernel_rfl) (fun _ _ _ h => h) rfl (fun W1 hW1 => exec_load _ _ _ _ rfl rfl (run_loadCell W1 _ _ _ ((block_cells3 (D3 W1 hW1)).2.1) (agg_no _ (by kernel_rfl)))) (sC) ?_
              simp only [Act.put, List.setIfInBounds_toArray, List.set_cons_zero, List.set_cons_succ]
              refine held_doW (i := 20) (by kernel_rfl) rfl rfl (wp_enter (f := 22) (args := #[.pointer (some ⟨p, 0, none⟩), .int .i64 k]) (by go_simp) (lifeF (HR.out.later kC) k) ?_)
              rintro e w10 ⟨rfl, rfl⟩
              refine ⟨_, rfl, sC, ?_⟩
              simp only [Act.put, List.setIfInBounds_toArray, List.set_cons_zero, List.set_cons_succ]
              rw [FL.out]
              refine held_takeW (i := 23) (v := .bool true) rfl (by kernel_rfl) (by kernel_rfl) (by kernel_rfl) (fun _ _ _ h => h) rfl (fun W1 hW1 => by go_simp) (sC) ?_
              simp only [Act.put, List.setIfInBounds_toArray, List.set_cons_zero, List.set_cons_succ]
              refine held_take (i := 24) (v := .bool true) rfl (by kernel_rfl) (by kernel_rfl) (by kernel_rfl) (fun _ _ _ h => h) rfl (fun W1 hW1 => by go_simp) (sC) ?_
              simp only [Act.put, List.setIfInBounds_toArray, List.set_cons_zero, List.set_cons_succ]
              refine held_take (i := 25) (v := .bool true) rfl (by kernel_rfl) (by kernel_rfl) (by kernel_rfl) (fun _ _ _ h => h) rfl (fun W1 hW1 => by go_simp) (sC) ?_
              simp only [Act.put, List.setIfInBounds_toArray, List.set_cons_zero, List.set_cons_succ]
              refine held_takeW (i := 26) (v := .pointer (some ⟨g5, 0, none⟩)) rfl (by kernel_rfl) (by kernel_rfl) (by kernel_rfl) (fun _ _ _ h => h) rfl (fun W1 hW1 => by go_simp) (sC) ?_
              simp only [Act.put, List.setIfInBounds_toArray, List.set_cons_zero, List.set_cons_succ]
              refine held_takeW (i := 27) (v := .int .i64 k) rfl (by kernel_rfl) (by kernel_rfl) (by kernel_rfl) (fun _ _ _ h => h) rfl (fun W1 hW1 => exec_load _ _ _ _ rfl rfl (run_loadCell W1 _ _ _ ((block_cells3 (D5 W1 hW1)).1) (agg_no _ (by kernel_rfl)))) (sC) ?_
              simp only [Act.put, List.setIfInBounds_toArray, List.set_cons_zero, List.set_cons_succ]
              refine held_takeW (i := 28) (v := .pointer (some ⟨g3, 0, none⟩)) rfl (by kernel_rfl) (by kernel_rfl) (by kernel_rfl) (fun _ _ _ h => h) rfl (fun W1 hW1 => by go_simp) (sC) ?_
              simp only [Act.put, List.setIfInBounds_toArray, List.set_cons_zero, List.set_cons_succ]
              refine held_takeW (i := 29) (v := .int .i64 k) rfl (by kernel_rfl) (by kernel_rfl) (by kernel_rfl) (fun _ _ _ h => h) rfl (fun W1 hW1 => exec_load _ _ _ _ rfl rfl (run_loadCell W1 _ _ _ ((block_cells3 (D3 W1 hW1)).1) (agg_no _ (by kernel_rfl)))) (sC) ?_
              simp only [Act.put, List.setIfInBounds_toArray, List.set_cons_zero, List.set_cons_succ]
              refine held_takeW (i := 30) (v := .bool true) rfl (by kernel_rfl) (by kernel_rfl) (by kernel_rfl) (fun _ _ _ h => h) rfl (fun W1 hW1 => by go_simp) (sC) ?_
              simp only [Act.put, List.setIfInBounds_toArray, List.set_cons_zero, List.set_cons_succ]
              refine held_takeW (i := 31) (v := .bool true) rfl (by kernel_rfl) (by kernel_rfl) (by kernel_rfl) (fun _ _ _ h => h) rfl (fun W1 hW1 => by go_simp) (sC) ?_
              simp only [Act.put, List.setIfInBounds_toArray, List.set_cons_zero, List.set_cons_succ]
              refine held_skip (i := 32) rfl (by kernel_rfl) (by kernel_rfl) (by kernel_rfl) (fun _ _ _ h => h) rfl (sC) ?_
              simp only [Act.put, List.setIfInBounds_toArray, List.set_cons_zero, List.set_cons_succ]
              refine held_skip (i := 33) rfl (by kernel_rfl) (by kernel_rfl) (by kernel_rfl) (fun _ _ _ h => h) rfl (sC) ?_
              simp only [Act.put, List.setIfInBounds_toArray, List.set_cons_zero, List.set_cons_succ]
              refine held_skip (i := 34) rfl (by kernel_rfl) (by kernel_rfl) (by kernel_rfl) (fun _ _ _ h => h) rfl (sC) ?_
              simp only [Act.put, List.setIfInBounds_toArray, List.set_cons_zero, List.set_cons_succ]
              refine held_takeW (i := 35) (v := .bool true) rfl (by kernel_rfl) (by kernel_rfl) (by kernel_rfl) (fun _ _ _ h => h) rfl (fun W1 hW1 => by go_simp) (sC) ?_
              simp only [Act.put, List.setIfInBounds_toArray, List.set_cons_zero, List.set_cons_succ]
              refine held_take (i := 36) (v := .bool true) rfl (by kernel_rfl) (by kernel_rfl) (by kernel_rfl) (fun _ _ _ h => h) rfl (fun W1 hW1 => by go_simp) (sC) ?_
              simp only [Act.put, List.setIfInBounds_toArray, List.set_cons_zero, List.set_cons_succ]
              refine held_take (i := 37) (v := .bool true) rfl (by kernel_rfl) (by kernel_rfl) (by kernel_rfl) (fun _ _ _ h => h) rfl (fun W1 hW1 => by go_simp) (sC) ?_
              simp only [Act.put, List.setIfInBounds_toArray, List.set_cons_zero, List.set_cons_succ]
              refine wpAnyH_done (by kernel_rfl) ?_ _
              have KF := hid (KR.out.trans kC)
              clear kB sB rA rB kC sC D3 D5
              go_wp2_with fail
              go_ret
              exact ⟨rfl, KF.out⟩
            · have hw := WN.out 2 (by simp) hcc
              subst hw
              go_wp2_with (first | (refine wpList_isW rfl _ _ (exec_load _ _ _ _ rfl rfl (loadVB B3.out)) ?_) | (refine wpList_isW rfl _ _ (exec_load _ _ _ _ rfl rfl (loadVB B4.out)) ?_) | (refine wpList_isW rfl _ _ (exec_load _ _ _ _ rfl rfl (loadVB B5.out)) ?_) | (refine wpList_isW rfl _ _ (exec_load _ _ _ _ rfl rfl (loadI3 (block_cells3 B3.out).1)) ?_) | (refine wpList_isW rfl _ _ (exec_load _ _ _ _ rfl rfl (loadI3 (block_cells3 B4.out).1)) ?_) | (refine wpList_isW rfl _ _ (exec_load _ _ _ _ rfl rfl (loadI3 (block_cells3 B3.out).2.1)) ?_) | (refine wpList_isW rfl _ _ (exec_load _ _ _ _ rfl rfl (loadI3 (block_cells3 B4.out).2.1)) ?_) | fail)
              refine wp_region_any (by kernel_rfl) (wpAny_of_held (S := KpS [] wr.heap.size wr.drew) _ _ _ _ ?_)
              change wpAnyH _ _ _ _ _ _ _ _ wr.drew
              have D3 : ∀ W1, KpS [] wr.heap.size wr.drew W1 → W1.heap[g3]? = some (.cells #[.int .i64 k, .int .i64 al, .int .i64 aq] 57 (0, 0)) := fun W1 h => (h.block _ (lt_of_block B3.out) (by simp)).trans B3.out
              have D5 : ∀ W1, KpS [] wr.heap.size wr.drew W1 → W1.heap[g5]? = some (.cells #[.int .i64 cc, .int .i64 cl, .int .i64 cs] 57 (0, 0)) := fun W1 h => (h.block _ (lt_of_block B5.out) (by simp)).trans B5.out
              refine held_take (i := 0) (v := .int .i64 2) rfl (by kernel_rfl) (by kernel_rfl) (by kernel_rfl) (fun _ _ _ h => h) rfl (fun W1 hW1 => rfl) (KpS.refl _ _ _) ?_
              simp only [Act.put, List.setIfInBounds_toArray, List.set_cons_zero, List.set_cons_succ]
              refine held_take (i := 1) (v := .bool true) rfl (by kernel_rfl) (by kernel_rfl) (by kernel_rfl) (fun _ _ _ h => h) rfl (fun W1 hW1 => by go_simp) (KpS.refl _ _ _) ?_
              simp only [Act.put, List.setIfInBounds_toArray, List.set_cons_zero, List.set_cons_succ]
              refine held_take (i := 2) (v := .bool true) rfl (by kernel_rfl) (by kernel_rfl) (by kernel_rfl) (fun _ _ _ h => h) rfl (fun W1 hW1 => by go_simp) (KpS.refl _ _ _) ?_
              simp only [Act.put, List.setIfInBounds_toArray, List.set_cons_zero, List.set_cons_succ]
              refine held_takeW (i := 3) (v := .slice ra1 0 rc1) rfl (by kernel_rfl) (by kernel_rfl) (by kernel_rfl) (fun _ _ _ h => h) rfl (fun W1 hW1 => rfl) (KpS.refl _ _ _) ?_
              simp only [Act.put, List.setIfInBounds_toArray, List.set_cons_zero, List.set_cons_succ]
              refine held_takeW (i := 4) (v := .int .i64 0) rfl (by kernel_rfl) (by kernel_rfl) (by kernel_rfl) (fun _ _ _ h => h) rfl (fun W1 hW1 => by go_simp) (KpS.refl _ _ _) ?_
              simp only [Act.put, List.setIfInBounds_toArray, List.set_cons_zero, List.set_cons_succ]
              refine held_takeW (i := 5) (v := .bool true) rfl (by kernel_rfl) (by kernel_rfl) (by kernel_rfl) (fun _ _ _ h => h) rfl (fun W1 hW1 => by go_simp) (KpS.refl _ _ _) ?_
              simp only [Act.put, List.setIfInBounds_toArray, List.set_cons_zero, List.set_cons_succ]
              refine held_take (i := 6) (v := .bool true) rfl (by kernel_rfl) (by kernel_rfl) (by kernel_rfl) (fun _ _ _ h => h) rfl (fun W1 hW1 => by go_simp) (KpS.refl _ _ _) ?_
              simp only [Act.put, List.setIfInBounds_toArray, List.set_cons_zero, List.set_cons_succ]
              refine held_take (i := 7) (v := .bool true) rfl (by kernel_rfl) (by kernel_rfl) (by kernel_rfl) (fun _ _ _ h => h) rfl (fun W1 hW1 => by go_simp) (KpS.refl _ _ _) ?_
              simp only [Act.put, List.setIfInBounds_toArray, List.set_cons_zero, List.set_cons_succ]
              refine held_takeW (i := 8) (v := .int .i64 1) rfl (by kernel_rfl) (by kernel_rfl) (by kernel_rfl) (fun _ _ _ h => h) rfl (fun W1 hW1 => rfl) (KpS.refl _ _ _) ?_
              simp only [Act.put, List.setIfInBounds_toArray, List.set_cons_zero, List.set_cons_succ]
              refine held_takeW (i := 9) (v := .bool true) rfl (by kernel_rfl) (by kernel_rfl) (by kernel_rfl) (fun _ _ _ h => h) rfl (fun W1 hW1 => by go_simp) (KpS.refl _ _ _) ?_
              simp only [Act.put, List.setIfInBounds_toArray, List.set_cons_zero, List.set_cons_succ]
              refine held_take (i := 10) (v := .bool true) rfl (by kernel_rfl) (by kernel_rfl) (by kernel_rfl) (fun _ _ _ h => h) rfl (fun W1 hW1 => by go_simp) (KpS.refl _ _ _) ?_
              simp only [Act.put, List.setIfInBounds_toArray, List.set_cons_zero, List.set_cons_succ]
              refine held_take (i := 11) (v := .bool true) rfl (by kernel_rfl) (by kernel_rfl) (by kernel_rfl) (fun _ _ _ h => h) rfl (fun W1 hW1 => by go_simp) (KpS.refl _ _ _) ?_
              simp only [Act.put, List.setIfInBounds_toArray, List.set_cons_zero, List.set_cons_succ]
              refine held_takeW (i := 12) (v := .slice ra2 1 rc2) rfl (by kernel_rfl) (by kernel_rfl) (by kernel_rfl) (fun _ _ _ h => h) rfl (fun W1 hW1 => rfl) (KpS.refl _ _ _) ?_
              simp only [Act.put, List.setIfInBounds_toArray, List.set_cons_zero, List.set_cons_succ]
              refine held_doW (i := 13) (by kernel_rfl) rfl rfl (wp_value (exec_oneB8 _ _ rfl rfl) ?_)
              refine ⟨(KpS.refl _ _ _).alloc (by simp) _, ?_⟩
              simp only [Act.put, List.setIfInBounds_toArray, List.set_cons_zero, List.set_cons_succ]
              have kB : Keeps [] wr (wr.drew.alloc (.cells #[.int .u8 2] 5)) := (Keeps.refl [] wr).drew.alloc _
              have sB : KpS [] wr.heap.size wr.drew (wr.drew.alloc (.cells #[.int .u8 2] 5)) := (KpS.refl _ _ _).alloc (by simp) _
              have rB := row_oneK (w := wr.drew) 2 5 (by decide)
              have rA := RQ.out.keep kB (by intro _ _ _ _ _; simp)
              generalize wr.drew.heap.size = gB at rB ⊢
              generalize wr.drew.alloc (.cells #[.int .u8 2] 5) = wB at kB sB rA rB ⊢
              refine held_doW (i := 14) (by kernel_rfl) rfl rfl (wp_enter (f := 15) (args := #[.slice ra2 1 rc2, .slice (some ⟨gB, 0, none⟩) 1 1]) (by go_simp) (same_any wB _ _ [2] [2] rA rB (by decide) (by decide)) ?_)
              rintro e w9 ⟨rfl, n9, rfl⟩
              have kC : Keeps [] wr (wB.drewN n9) := kB.drewN n9
              have sC : KpS [] wr.heap.size wr.drew (wB.drewN n9) := sB.keeps ((Keeps.refl [] wB).drewN n9) kB.size (by simp)
              refine ⟨_, rfl, sC, ?_⟩
              simp only [Act.put, List.setIfInBounds_toArray, List.set_cons_zero, List.set_cons_succ]
              generalize wB.drewN n9 = wC at kC sC ⊢
              refine held_take (i := 15) (v := .bool true) rfl (by kernel_rfl) (by kernel_rfl) (by kernel_rfl) (fun _ _ _ h => h) rfl (fun W1 hW1 => by go_simp) (sC) ?_
              simp only [Act.put, List.setIfInBounds_toArray, List.set_cons_zero, List.set_cons_succ]
              refine held_take (i := 16) (v := .bool true) rfl (by kernel_rfl) (by kernel_rfl) (by kernel_rfl) (fun _ _ _ h => h) rfl (fun W1 hW1 => by go_simp) (sC) ?_
              simp only [Act.put, List.setIfInBounds_toArray, List.set_cons_zero, List.set_cons_succ]
              refine held_takeW (i := 17) (v := .pointer (some ⟨p, 0, none⟩)) rfl (by kernel_rfl) (by kernel_rfl) (by kernel_rfl) (fun _ _ _ h => h) rfl (fun W1 hW1 => rfl) (sC) ?_
              simp only [Act.put, List.setIfInBounds_toArray, List.set_cons_zero, List.set_cons_succ]
              refine held_takeW (i := 18) (v := .pointer (some ⟨g3, 0, none⟩)) rfl (by kernel_rfl) (by kernel_rfl) (by kernel_rfl) (fun _ _ _ h => h) rfl (fun W1 hW1 => by go_simp) (sC) ?_
              simp only [Act.put, List.setIfInBounds_toArray, List.set_cons_zero, List.set_cons_succ]
              refine held_takeW (i := 19) (v := .int .i64 k) rfl (by kernel_rfl) (by kernel_rfl) (by kernel_rfl) (fun _ _ _ h => h) rfl (fun W1 hW1 => exec_load _ _ _ _ rfl rfl (run_loadCell W1 _ _ _ ((block_cells3 (D3 W1 hW1)).1) (agg_no _ (by kernel_rfl)))) (sC) ?_
              simp only [Act.put, List.setIfInBounds_toArray, List.set_cons_zero, List.set_cons_succ]
              refine held_takeW (i := 21) (v := .pointer (some ⟨g3, 1, none⟩)) rfl (by kernel_rfl) (by kernel_rfl) (by kernel_rfl) (fun _ _ _ h => h) rfl (fun W1 hW1 => by go_simp) (sC) ?_
              simp only [Act.put, List.setIfInBounds_toArray, List.set_cons_zero, List.set_cons_succ]
              refine held_takeW (i := 22) (v := .int .i64 al) rfl (by kernel_rfl) (by kernel_rfl) (by kernel_rfl) (fun _ _ _ h => h) rfl (fun W1 hW1 => exec_load _ _ _ _ rfl rfl (run_loadCell W1 _ _ _ ((block_cells3 (D3 W1 hW1)).2.1) (agg_no _ (by kernel_rfl)))) (sC) ?_
              simp only [Act.put, List.setIfInBounds_toArray, List.set_cons_zero, List.set_cons_succ]
              refine held_doW (i := 20) (by kernel_rfl) rfl rfl (wp_enter (f := 22) (args := #[.pointer (some ⟨p, 0, none⟩), .int .i64 k]) (by go_simp) (lifeF (HR.out.later kC) k) ?_)
              rintro e w10 ⟨rfl, rfl⟩
              refine ⟨_, rfl, sC, ?_⟩
              simp only [Act.put, List.setIfInBounds_toArray, List.set_cons_zero, List.set_cons_succ]
              rw [FL.out]
              refine held_takeW (i := 23) (v := .bool true) rfl (by kernel_rfl) (by kernel_rfl) (by kernel_rfl) (fun _ _ _ h => h) rfl (fun W1 hW1 => by go_simp) (sC) ?_
              simp only [Act.put, List.setIfInBounds_toArray, List.set_cons_zero, List.set_cons_succ]
              refine held_take (i := 24) (v := .bool true) rfl (by kernel_rfl) (by kernel_rfl) (by kernel_rfl) (fun _ _ _ h => h) rfl (fun W1 hW1 => by go_simp) (sC) ?_
              simp only [Act.put, List.setIfInBounds_toArray, List.set_cons_zero, List.set_cons_succ]
              refine held_take (i := 25) (v := .bool true) rfl (by kernel_rfl) (by kernel_rfl) (by kernel_rfl) (fun _ _ _ h => h) rfl (fun W1 hW1 => by go_simp) (sC) ?_
              simp only [Act.put, List.setIfInBounds_toArray, List.set_cons_zero, List.set_cons_succ]
              refine held_takeW (i := 26) (v := .pointer (some ⟨g5, 0, none⟩)) rfl (by kernel_rfl) (by kernel_rfl) (by kernel_rfl) (fun _ _ _ h => h) rfl (fun W1 hW1 => by go_simp) (sC) ?_
              simp only [Act.put, List.setIfInBounds_toArray, List.set_cons_zero, List.set_cons_succ]
              refine held_takeW (i := 27) (v := .int .i64 cc) rfl (by kernel_rfl) (by kernel_rfl) (by kernel_rfl) (fun _ _ _ h => h) rfl (fun W1 hW1 => exec_load _ _ _ _ rfl rfl (run_loadCell W1 _ _ _ ((block_cells3 (D5 W1 hW1)).1) (agg_no _ (by kernel_rfl)))) (sC) ?_
              simp only [Act.put, List.setIfInBounds_toArray, List.set_cons_zero, List.set_cons_succ]
              refine held_takeW (i := 28) (v := .pointer (some ⟨g3, 0, none⟩)) rfl (by kernel_rfl) (by kernel_rfl) (by kernel_rfl) (fun _ _ _ h => h) rfl (fun W1 hW1 => by go_simp) (sC) ?_
              simp only [Act.put, List.setIfInBounds_toArray, List.set_cons_zero, List.set_cons_succ]
              refine held_takeW (i := 29) (v := .int .i64 k) rfl (by kernel_rfl) (by kernel_rfl) (by kernel_rfl) (fun _ _ _ h => h) rfl (fun W1 hW1 => exec_load _ _ _ _ rfl rfl (run_loadCell W1 _ _ _ ((block_cells3 (D3 W1 hW1)).1) (agg_no _ (by kernel_rfl)))) (sC) ?_
              simp only [Act.put, List.setIfInBounds_toArray, List.set_cons_zero, List.set_cons_succ]
              refine held_takeW (i := 30) (v := .bool false) rfl (by kernel_rfl) (by kernel_rfl) (by kernel_rfl) (fun _ _ _ h => h) rfl (fun W1 hW1 => by go_simp) (sC) ?_
              simp only [Act.put, List.setIfInBounds_toArray, List.set_cons_zero, List.set_cons_succ]
              refine held_takeW (i := 31) (v := .bool false) rfl (by kernel_rfl) (by kernel_rfl) (by kernel_rfl) (fun _ _ _ h => h) rfl (fun W1 hW1 => by go_simp) (sC) ?_
              simp only [Act.put, List.setIfInBounds_toArray, List.set_cons_zero, List.set_cons_succ]
              refine held_takeW (i := 32) (v := .int .i64 2) rfl (by kernel_rfl) (by kernel_rfl) (by kernel_rfl) (fun _ _ _ h => h) rfl (fun W1 hW1 => by go_simp) (sC) ?_
              simp only [Act.put, List.setIfInBounds_toArray, List.set_cons_zero, List.set_cons_succ]
              refine held_takeW (i := 33) (v := .int .i64 2) rfl (by kernel_rfl) (by kernel_rfl) (by kernel_rfl) (fun _ _ _ h => h) rfl (fun W1 hW1 => by go_simp) (sC) ?_
              simp only [Act.put, List.setIfInBounds_toArray, List.set_cons_zero, List.set_cons_succ]
              refine held_takeW (i := 34) (v := .bool true) rfl (by kernel_rfl) (by kernel_rfl) (by kernel_rfl) (fun _ _ _ h => h) rfl (fun W1 hW1 => by go_simp) (sC) ?_
              simp only [Act.put, List.setIfInBounds_toArray, List.set_cons_zero, List.set_cons_succ]
              refine held_takeW (i := 35) (v := .bool true) rfl (by kernel_rfl) (by kernel_rfl) (by kernel_rfl) (fun _ _ _ h => h) rfl (fun W1 hW1 => by go_simp) (sC) ?_
              simp only [Act.put, List.setIfInBounds_toArray, List.set_cons_zero, List.set_cons_succ]
              refine held_take (i := 36) (v := .bool true) rfl (by kernel_rfl) (by kernel_rfl) (by kernel_rfl) (fun _ _ _ h => h) rfl (fun W1 hW1 => by go_simp) (sC) ?_
              simp only [Act.put, List.setIfInBounds_toArray, List.set_cons_zero, List.set_cons_succ]
              refine held_take (i := 37) (v := .bool true) rfl (by kernel_rfl) (by kernel_rfl) (by kernel_rfl) (fun _ _ _ h => h) rfl (fun W1 hW1 => by go_simp) (sC) ?_
              simp only [Act.put, List.setIfInBounds_toArray, List.set_cons_zero, List.set_cons_succ]
              refine wpAnyH_done (by kernel_rfl) ?_ _
              have KF := hid (KR.out.trans kC)
              clear kB sB rA rB kC sC D3 D5
              go_wp2_with fail
              go_ret
              exact ⟨rfl, KF.out⟩
        · subst he
          have hle : decide (al ≤ bl) = true := by simp; omega
          clear hlt
          go_wp2_with (first | (refine wpList_isW rfl _ _ (exec_load _ _ _ _ rfl rfl (loadVB B3.out)) ?_) | (refine wpList_isW rfl _ _ (exec_load _ _ _ _ rfl rfl (loadVB B4.out)) ?_) | (refine wpList_isW rfl _ _ (exec_load _ _ _ _ rfl rfl (loadVB B5.out)) ?_) | (refine wpList_isW rfl _ _ (exec_load _ _ _ _ rfl rfl (loadI3 (block_cells3 B3.out).1)) ?_) | (refine wpList_isW rfl _ _ (exec_load _ _ _ _ rfl rfl (loadI3 (block_cells3 B4.out).1)) ?_) | (refine wpList_isW rfl _ _ (exec_load _ _ _ _ rfl rfl (loadI3 (block_cells3 B3.out).2.1)) ?_) | (refine wpList_isW rfl _ _ (exec_load _ _ _ _ rfl rfl (loadI3 (block_cells3 B4.out).2.1)) ?_) | fail)
          refine (MA.out _).mono ?_
          rintro e w3 ⟨rfl, k3⟩
          have K3' := hid (K2.out.trans k3)
          replace B3 := hid ((k3.block _ (lt_of_block B3.out) (by simp)).trans B3.out)
          replace B4 := hid ((k3.block _ (lt_of_block B4.out) (by simp)).trans B4.out)
          replace B5 := hid ((k3.block _ (lt_of_block B5.out) (by simp)).trans B5.out)
          clear k3
          go_wp2_with (first | (refine wpList_isW rfl _ _ (exec_load _ _ _ _ rfl rfl (loadVB B3.out)) ?_) | (refine wpList_isW rfl _ _ (exec_load _ _ _ _ rfl rfl (loadVB B4.out)) ?_) | (refine wpList_isW rfl _ _ (exec_load _ _ _ _ rfl rfl (loadVB B5.out)) ?_) | (refine wpList_isW rfl _ _ (exec_load _ _ _ _ rfl rfl (loadI3 (block_cells3 B3.out).1)) ?_) | (refine wpList_isW rfl _ _ (exec_load _ _ _ _ rfl rfl (loadI3 (block_cells3 B4.out).1)) ?_) | (refine wpList_isW rfl _ _ (exec_load _ _ _ _ rfl rfl (loadI3 (block_cells3 B3.out).2.1)) ?_) | (refine wpList_isW rfl _ _ (exec_load _ _ _ _ rfl rfl (loadI3 (block_cells3 B4.out).2.1)) ?_) | fail)
          refine (MB.out _).mono ?_
          rintro e w4 ⟨rfl, k4⟩
          have K4 := hid (K3'.out.trans k4)
          replace B3 := hid ((k4.block _ (lt_of_block B3.out) (by simp)).trans B3.out)
          replace B4 := hid ((k4.block _ (lt_of_block B4.out) (by simp)).trans B4.out)
          replace B5 := hid ((k4.block _ (lt_of_block B5.out) (by simp)).trans B5.out)
          clear k4
          go_wp2_with (first | (refine wpList_isW rfl _ _ (exec_load _ _ _ _ rfl rfl (loadVB B3.out)) ?_) | (refine wpList_isW rfl _ _ (exec_load _ _ _ _ rfl rfl (loadVB B4.out)) ?_) | (refine wpList_isW rfl _ _ (exec_load _ _ _ _ rfl rfl (loadVB B5.out)) ?_) | (refine wpList_isW rfl _ _ (exec_load _ _ _ _ rfl rfl (loadI3 (block_cells3 B3.out).1)) ?_) | (refine wpList_isW rfl _ _ (exec_load _ _ _ _ rfl rfl (loadI3 (block_cells3 B4.out).1)) ?_) | (refine wpList_isW rfl _ _ (exec_load _ _ _ _ rfl rfl (loadI3 (block_cells3 B3.out).2.1)) ?_) | (refine wpList_isW rfl _ _ (exec_load _ _ _ _ rfl rfl (loadI3 (block_cells3 B4.out).2.1)) ?_) | fail)
          go_ret
          exact ⟨rfl, K4.out⟩
      · have hne : (ac != bc) = true := by simpa using he
        clear he
        go_wp2_with (first | (refine wpList_isW rfl _ _ (exec_load _ _ _ _ rfl rfl (loadVB B3.out)) ?_) | (refine wpList_isW rfl _ _ (exec_load _ _ _ _ rfl rfl (loadVB B4.out)) ?_) | (refine wpList_isW rfl _ _ (exec_load _ _ _ _ rfl rfl (loadVB B5.out)) ?_) | (refine wpList_isW rfl _ _ (exec_load _ _ _ _ rfl rfl (loadI3 (block_cells3 B3.out).1)) ?_) | (refine wpList_isW rfl _ _ (exec_load _ _ _ _ rfl rfl (loadI3 (block_cells3 B4.out).1)) ?_) | (refine wpList_isW rfl _ _ (exec_load _ _ _ _ rfl rfl (loadI3 (block_cells3 B3.out).2.1)) ?_) | (refine wpList_isW rfl _ _ (exec_load _ _ _ _ rfl rfl (loadI3 (block_cells3 B4.out).2.1)) ?_) | fail)
        refine (MA.out _).mono ?_
        rintro e w3 ⟨rfl, k3⟩
        have K3' := hid (K2.out.trans k3)
        replace B3 := hid ((k3.block _ (lt_of_block B3.out) (by simp)).trans B3.out)
        replace B4 := hid ((k3.block _ (lt_of_block B4.out) (by simp)).trans B4.out)
        replace B5 := hid ((k3.block _ (lt_of_block B5.out) (by simp)).trans B5.out)
        clear k3
        go_wp2_with (first | (refine wpList_isW rfl _ _ (exec_load _ _ _ _ rfl rfl (loadVB B3.out)) ?_) | (refine wpList_isW rfl _ _ (exec_load _ _ _ _ rfl rfl (loadVB B4.out)) ?_) | (refine wpList_isW rfl _ _ (exec_load _ _ _ _ rfl rfl (loadVB B5.out)) ?_) | (refine wpList_isW rfl _ _ (exec_load _ _ _ _ rfl rfl (loadI3 (block_cells3 B3.out).1)) ?_) | (refine wpList_isW rfl _ _ (exec_load _ _ _ _ rfl rfl (loadI3 (block_cells3 B4.out).1)) ?_) | (refine wpList_isW rfl _ _ (exec_load _ _ _ _ rfl rfl (loadI3 (block_cells3 B3.out).2.1)) ?_) | (refine wpList_isW rfl _ _ (exec_load _ _ _ _ rfl rfl (loadI3 (block_cells3 B4.out).2.1)) ?_) | fail)
        refine (MB.out _).mono ?_
        rintro e w4 ⟨rfl, k4⟩
        have K4 := hid (K3'.out.trans k4)
        replace B3 := hid ((k4.block _ (lt_of_block B3.out) (by simp)).trans B3.out)
        replace B4 := hid ((k4.block _ (lt_of_block B4.out) (by simp)).trans B4.out)
        replace B5 := hid ((k4.block _ (lt_of_block B5.out) (by simp)).trans B5.out)
        clear k4
        go_wp2_with (first | (refine wpList_isW rfl _ _ (exec_load _ _ _ _ rfl rfl (loadVB B3.out)) ?_) | (refine wpList_isW rfl _ _ (exec_load _ _ _ _ rfl rfl (loadVB B4.out)) ?_) | (refine wpList_isW rfl _ _ (exec_load _ _ _ _ rfl rfl (loadVB B5.out)) ?_) | (refine wpList_isW rfl _ _ (exec_load _ _ _ _ rfl rfl (loadI3 (block_cells3 B3.out).1)) ?_) | (refine wpList_isW rfl _ _ (exec_load _ _ _ _ rfl rfl (loadI3 (block_cells3 B4.out).1)) ?_) | (refine wpList_isW rfl _ _ (exec_load _ _ _ _ rfl rfl (loadI3 (block_cells3 B3.out).2.1)) ?_) | (refine wpList_isW rfl _ _ (exec_load _ _ _ _ rfl rfl (loadI3 (block_cells3 B4.out).2.1)) ?_) | fail)
        go_ret
        exact ⟨rfl, K4.out⟩
    · have hmb' : mayS bc bl bs = false := by simpa using hmb
      rw [hmb'] at MB
      go_wp2_with (first | (refine wpList_isW rfl _ _ (exec_load _ _ _ _ rfl rfl (loadVB B3.out)) ?_) | (refine wpList_isW rfl _ _ (exec_load _ _ _ _ rfl rfl (loadVB B4.out)) ?_) | (refine wpList_isW rfl _ _ (exec_load _ _ _ _ rfl rfl (loadVB B5.out)) ?_) | (refine wpList_isW rfl _ _ (exec_load _ _ _ _ rfl rfl (loadI3 (block_cells3 B3.out).1)) ?_) | (refine wpList_isW rfl _ _ (exec_load _ _ _ _ rfl rfl (loadI3 (block_cells3 B4.out).1)) ?_) | (refine wpList_isW rfl _ _ (exec_load _ _ _ _ rfl rfl (loadI3 (block_cells3 B3.out).2.1)) ?_) | (refine wpList_isW rfl _ _ (exec_load _ _ _ _ rfl rfl (loadI3 (block_cells3 B4.out).2.1)) ?_) | fail)
      refine (MA.out _).mono ?_
      rintro e w3 ⟨rfl, k3⟩
      have K3' := hid (K2.out.trans k3)
      replace B3 := hid ((k3.block _ (lt_of_block B3.out) (by simp)).trans B3.out)
      replace B4 := hid ((k3.block _ (lt_of_block B4.out) (by simp)).trans B4.out)
      replace B5 := hid ((k3.block _ (lt_of_block B5.out) (by simp)).trans B5.out)
      clear k3
      go_wp2_with (first | (refine wpList_isW rfl _ _ (exec_load _ _ _ _ rfl rfl (loadVB B3.out)) ?_) | (refine wpList_isW rfl _ _ (exec_load _ _ _ _ rfl rfl (loadVB B4.out)) ?_) | (refine wpList_isW rfl _ _ (exec_load _ _ _ _ rfl rfl (loadVB B5.out)) ?_) | (refine wpList_isW rfl _ _ (exec_load _ _ _ _ rfl rfl (loadI3 (block_cells3 B3.out).1)) ?_) | (refine wpList_isW rfl _ _ (exec_load _ _ _ _ rfl rfl (loadI3 (block_cells3 B4.out).1)) ?_) | (refine wpList_isW rfl _ _ (exec_load _ _ _ _ rfl rfl (loadI3 (block_cells3 B3.out).2.1)) ?_) | (refine wpList_isW rfl _ _ (exec_load _ _ _ _ rfl rfl (loadI3 (block_cells3 B4.out).2.1)) ?_) | fail)
      refine (MB.out _).mono ?_
      rintro e w4 ⟨rfl, k4⟩
      have K4 := hid (K3'.out.trans k4)
      replace B3 := hid ((k4.block _ (lt_of_block B3.out) (by simp)).trans B3.out)
      replace B4 := hid ((k4.block _ (lt_of_block B4.out) (by simp)).trans B4.out)
      replace B5 := hid ((k4.block _ (lt_of_block B5.out) (by simp)).trans B5.out)
      clear k4
      go_wp2_with (first | (refine wpList_isW rfl _ _ (exec_load _ _ _ _ rfl rfl (loadVB B3.out)) ?_) | (refine wpList_isW rfl _ _ (exec_load _ _ _ _ rfl rfl (loadVB B4.out)) ?_) | (refine wpList_isW rfl _ _ (exec_load _ _ _ _ rfl rfl (loadVB B5.out)) ?_) | (refine wpList_isW rfl _ _ (exec_load _ _ _ _ rfl rfl (loadI3 (block_cells3 B3.out).1)) ?_) | (refine wpList_isW rfl _ _ (exec_load _ _ _ _ rfl rfl (loadI3 (block_cells3 B4.out).1)) ?_) | (refine wpList_isW rfl _ _ (exec_load _ _ _ _ rfl rfl (loadI3 (block_cells3 B3.out).2.1)) ?_) | (refine wpList_isW rfl _ _ (exec_load _ _ _ _ rfl rfl (loadI3 (block_cells3 B4.out).2.1)) ?_) | fail)
      go_ret
      exact ⟨rfl, K4.out⟩
  · have hma' : mayS ac al aq = false := by simpa using hma
    rw [hma'] at MA
    go_wp2_with (first | (refine wpList_isW rfl _ _ (exec_load _ _ _ _ rfl rfl (loadVB B3.out)) ?_) | (refine wpList_isW rfl _ _ (exec_load _ _ _ _ rfl rfl (loadVB B4.out)) ?_) | (refine wpList_isW rfl _ _ (exec_load _ _ _ _ rfl rfl (loadVB B5.out)) ?_) | (refine wpList_isW rfl _ _ (exec_load _ _ _ _ rfl rfl (loadI3 (block_cells3 B3.out).1)) ?_) | (refine wpList_isW rfl _ _ (exec_load _ _ _ _ rfl rfl (loadI3 (block_cells3 B4.out).1)) ?_) | (refine wpList_isW rfl _ _ (exec_load _ _ _ _ rfl rfl (loadI3 (block_cells3 B3.out).2.1)) ?_) | (refine wpList_isW rfl _ _ (exec_load _ _ _ _ rfl rfl (loadI3 (block_cells3 B4.out).2.1)) ?_) | fail)
    refine (MA.out _).mono ?_
    rintro e w3 ⟨rfl, k3⟩
    have K3' := hid (K2.out.trans k3)
    replace B3 := hid ((k3.block _ (lt_of_block B3.out) (by simp)).trans B3.out)
    replace B4 := hid ((k3.block _ (lt_of_block B4.out) (by simp)).trans B4.out)
    replace B5 := hid ((k3.block _ (lt_of_block B5.out) (by simp)).trans B5.out)
    clear k3
    go_wp2_with (first | (refine wpList_isW rfl _ _ (exec_load _ _ _ _ rfl rfl (loadVB B3.out)) ?_) | (refine wpList_isW rfl _ _ (exec_load _ _ _ _ rfl rfl (loadVB B4.out)) ?_) | (refine wpList_isW rfl _ _ (exec_load _ _ _ _ rfl rfl (loadVB B5.out)) ?_) | (refine wpList_isW rfl _ _ (exec_load _ _ _ _ rfl rfl (loadI3 (block_cells3 B3.out).1)) ?_) | (refine wpList_isW rfl _ _ (exec_load _ _ _ _ rfl rfl (loadI3 (block_cells3 B4.out).1)) ?_) | (refine wpList_isW rfl _ _ (exec_load _ _ _ _ rfl rfl (loadI3 (block_cells3 B3.out).2.1)) ?_) | (refine wpList_isW rfl _ _ (exec_load _ _ _ _ rfl rfl (loadI3 (block_cells3 B4.out).2.1)) ?_) | fail)
    go_ret
    exact ⟨rfl, K3'.out⟩
end Go.Proofs.Ytkfebgbgnpdgpaa
