/- LyH, LyI, LyK. -/
import Derived.Test.YtcfmonlgpccndaaDoorPkG13
/- layout: Read: the reader under the closure that catches what it gives up with. -/
namespace Go.Proofs.YtcfmonlgpccndaaDoor
open Go.RowKit
set_option maxRecDepth 100000
set_option linter.unusedSimpArgs false
set_option linter.unusedVariables false

/-- What the caller of attempt has. -/
def AtF (w : World) (r : Hd13 × List Int × Int) (e : Ending) (w' : World) : Prop :=
  Keeps [] w w' ∧ ∃ a c, e = .returned (.tuple #[frV r.1 (.slice a r.2.1.length c), .int .i64 r.2.2]) ∧ RowAt w' (.slice a r.2.1.length c) r.2.1 ∧ ∀ ad, a = some ad → w.heap.size ≤ ad.block
theorem readL_no {zs : List Int} (h : (readL zs).2.2 ≠ 0) : (readL zs).1 = hZ13 ∧ (readL zs).2.1 = [] := by
  unfold readL at h ⊢
  split
  · exact ⟨rfl, rfl⟩
  · rename_i h1
    rw [if_neg h1] at h
    split
    · rename_i h2
      rw [if_pos h2] at h
      exact absurd rfl h
    · exact ⟨rfl, rfl⟩
theorem loadErr13 {w : World} {a : Addr} {v : Value} (h : w.cell? a = some v) : (loadVar 25 a).run Tryd.prog w = .ok v w := by
  simp [loadVar, agg_no 25 (by kernel_rfl), h, Result.andThen]
end Go.Proofs.YtcfmonlgpccndaaDoor


/- layout: Read, of the code. -/
namespace Go.Proofs.YtcfmonlgpccndaaDoor
open Go.RowKit
set_option maxRecDepth 100000
set_option linter.unusedSimpArgs false
set_option linter.unusedVariables false

theorem exec_storeHd {ρ : Operand → Value} {o : Oper} {w : World} (x y : Operand) (ho : o.op = .store 104 x y) (g : Nat) (cur : Array Value) (hb : w.heap[g]? = some (.cells cur 104 (0, 0))) (hsz : cur.size = 6) (hx : ρ x = .pointer (some ⟨g, 0, none⟩))
    (h : Hd13) (hy : ρ y = hdV13 h) : (execOp ρ o).run Tryd.prog w = .ok .skip (w.setRow g h.cells.toArray) := by
  have hst := run_storeCells_at Tryd.prog g 0 104 h.cells 0 cur w hb (by simp [Hd13.cells, hsz]) (fun v hv => by
    simp [Hd13.cells] at hv
    rcases hv with rfl | rfl | rfl | rfl | rfl | rfl <;> rfl)
  have e4 : h.cells.length = 6 := rfl
  have e6 : cur.toList.drop 6 = [] := List.drop_of_length_le (by simp [hsz])
  simp only [Nat.zero_add, e4, List.take_zero, List.nil_append, e6, List.append_nil] at hst
  have e3 : (hdV13 h).cells = h.cells.toArray := rfl
  have e5 : h.cells.toArray.size = 6 := rfl
  have hs : (sizeOf 104).run Tryd.prog w = .ok 6 w := by
    have := sHead
    cases hq : Tryd.prog.info? 104 with
    | none => simp [hq] at this
    | some i => simp [hq] at this; simp [sizeOf, typeInfo, hq, this]
  have hr : (Instr.storeAt 104 (.pointer (some ⟨g, 0, none⟩)) (hdV13 h)).run Tryd.prog w = .ok () (w.setRow g h.cells.toArray) := by
    simp only [Instr.storeAt, Instr.sureAddr, Sem.run_bind, Sem.run_pure, Result.andThen_ok, storeVar]
    simp [hs, e3, e4, e5, hst, Result.andThen]
  unfold execOp
  simp only [ho, hx, hy, hr, Sem.run_bind, Result.andThen_ok]
  rfl
theorem hd_one (h : Hd13) : (#[Value.int .i64 h.s.c, .int .i64 h.s.l, .int .i64 h.s.n, .int .i64 h.i, .int .i64 h.n, .int .i64 h.z] : Array Value).all (·.oneCell') = true := by simp [Value.oneCell']
theorem hd_ret {w : World} {b : Nat} {h : Hd13} (hx : w.rangeAt b 0 h.cells) : (loadVar 104 ⟨b, 0, none⟩).run Tryd.prog w = .ok (hdV13 h) w :=
  run_loadVar_mid w b 0 104 h.cells _ hx uHead rfl (by rw [sHead]; rfl)
theorem exec_asg {ρ : Operand → Value} {o : Oper} {w : World} {v : Value} (x : Operand) (ho : o.op = .assign x) (hx : ρ x = v) : (execOp ρ o).run Tryd.prog w = .ok (.value v) w := by
  simp [execOp, ho, hx]
theorem rd_ret {fn : Func} {p q s : Tmp} (hr : fn.results = #[.cell p 104, .tmp q, .tmp s]) {tmps : Array Value} {w : World} {b : Nat} {x y z : Value} (hp : tmps.getD p undef = .pointer (some ⟨b, 0, none⟩)) (hx : (loadVar 104 ⟨b, 0, none⟩).run Tryd.prog w = .ok x w)
    (hq : tmps.getD q undef = y) (hs : tmps.getD s undef = z) : (results fn tmps).run Tryd.prog w = .ok (.tuple #[x, y, z]) w := by
  have hp' : tmps[p]?.getD undef = .pointer (some ⟨b, 0, none⟩) := by simpa using hp
  have hq' : tmps[q]?.getD undef = y := by simpa using hq
  have hs' : tmps[s]?.getD undef = z := by simpa using hs
  simp [results, hr, hp', hq', hs', asAddr, hx]
/-- What Read answers. -/
def ReadPost13 (w : World) (r : Hd13 × List Int × Int) (e : Ending) (w' : World) : Prop :=
  Keeps [] w w' ∧ ∃ a c, e = .returned (.tuple #[hdV13 r.1, .slice a r.2.1.length c, .int .i64 r.2.2]) ∧ RowAt w' (.slice a r.2.1.length c) r.2.1 ∧ ∀ ad, a = some ad → w.heap.size ≤ ad.block
end Go.Proofs.YtcfmonlgpccndaaDoor


/- layout: rows are gathered by a closure. -/
namespace Go.Proofs.YtcfmonlgpccndaaDoor
open Go.RowKit Go.Shelf
set_option maxRecDepth 100000
set_option linter.unusedSimpArgs false
set_option linter.unusedVariables false

/-- What a closure leaves that is asked for its k-th row: the row, in none of the blocks that it writes into (F') nor in g; or it gave up. -/
def CPost (g : Nat) (I : Nat → List Nat → World → Prop) (rows : Nat → List Int) (bad : Nat → Prop) (k : Nat) (F : List Nat) (W : World) (e : Ending) (W' : World) : Prop :=
  (∃ v F', e = .returned v ∧ RowAt W' v (rows k) ∧ (rows k).length ≤ 140737488351232 ∧ Off (g :: F') v (rows k) ∧ Keeps F W W' ∧ I (k + 1) F' W' ∧ (∀ b ∈ F', b ∈ F ∨ W.heap.size ≤ b) ∧ ¬ bad k) ∨ (bad k ∧ e = gaveUp 4 ∧ Keeps F W W')
/-- Rows that lie in a block of their heads, in none of the blocks F. -/
structure HeadsAt (w : World) (g : Nat) (F : List Nat) (vs : List Value) (ls : List (List Int)) : Prop where
  len : vs.length = ls.length
  row : ∀ j (h : j < vs.length), RowAt w vs[j] (ls.getD j [])
  few : ∀ l ∈ ls, l.length ≤ 140737488351232
  off : ∀ j (h : j < vs.length), Off (g :: F) vs[j] (ls.getD j [])
def GPost (w : World) (F0 : List Nat) (I : Nat → List Nat → World → Prop) (rows : Nat → List Int) (bad : Nat → Prop) (n : Nat) (e : Ending) (w' : World) : Prop :=
  Keeps F0 w w' ∧ ((∃ F vs, e = .returned (.slice (some ⟨w.heap.size, 0, none⟩) n n) ∧ w'.heap[w.heap.size]? = some (.cells vs.toArray 31 (0, 0)) ∧ HeadsAt w' w.heap.size F vs ((List.range n).map rows) ∧ I n F w' ∧ (∀ b ∈ F, b ∈ F0 ∨ w.heap.size < b) ∧ ∀ k, k < n → ¬ bad k) ∨ ((∃ k, k < n ∧ bad k) ∧ e = gaveUp 4))
theorem rows_make (w : World) (n : Nat) (h1 : n ≤ 16) : (Instr.makeSlice 81 (.int .i64 (n : Int)) (.int .i64 (n : Int))).run Tryd.prog w = .ok (.slice (some ⟨w.heap.size, 0, none⟩) n n) (w.alloc (.cells (madeCells #[.slice none 0 0] n) 31)) :=
  run_make_row' (P := Tryd.prog) 81 31 (.slice none 0 0) 24 Tryd.underlying81 info25 rfl .i64 .i64 n (by omega) (by omega) w
theorem made_rows (n : Nat) : madeCells #[Value.slice none 0 0] n = (([] : List Value) ++ List.replicate (n - 0) (Value.slice none 0 0)).toArray := by
  apply Array.toList_inj.1
  rw [toList_madeCells_one]
  simp
theorem HeadsAt.keep {w w' : World} {g : Nat} {F F' M : List Nat} {vs : List Value} {ls : List (List Int)} (h : HeadsAt w g F vs ls) (k : Keeps M w w') (hM : ∀ b ∈ M, b ∈ g :: F) (hF : ∀ b ∈ F', b ∈ g :: F ∨ w.heap.size ≤ b) : HeadsAt w' g F' vs ls :=
  ⟨h.len, fun j hj => (h.row j hj).keep k (fun ad n c e hne hm => h.off j hj ad n c e hne (hM _ hm)), h.few, fun j hj ad n c e hne hm => by
    have h1 := h.off j hj ad n c e hne
    simp only [List.mem_cons] at hm
    rcases hm with hm | hm
    · exact h1 (by simp [hm])
    · rcases hF _ hm with hm | hm
      · exact h1 hm
      · have hpos : 0 < (ls.getD j []).length := List.length_pos_iff.2 hne
        obtain ⟨g2, off, cap, he, _, hc⟩ := (h.row j hj).open hpos
        rw [e] at he
        injection he with he _ _
        injection he with he
        have := World.block_lt_of_cell? _ _ (hc 0 hpos)
        rw [he] at hm
        simp at hm this
        omega⟩
theorem HeadsAt.snoc {w : World} {g : Nat} {F : List Nat} {vs : List Value} {ls : List (List Int)} {v : Value} {zs : List Int} (h : HeadsAt w g F vs ls) (hr : RowAt w v zs) (hl : zs.length ≤ 140737488351232) (ho : Off (g :: F) v zs) : HeadsAt w g F (vs ++ [v]) (ls ++ [zs]) := by
  have hlen := h.len
  refine ⟨by simp [hlen], fun j hj => ?_, fun l hl' => ?_, fun j hj => ?_⟩
  · rw [List.getElem_append]
    split
    · rename_i hj'
      rw [List.getD_eq_getElem?_getD, List.getElem?_append_left (by omega), ← List.getD_eq_getElem?_getD]
      exact h.row j hj'
    · rename_i hj'
      have : j = vs.length := by simp at hj; omega
      subst this
      rw [List.getD_eq_getElem?_getD, List.getElem?_append_right (by omega)]
      simpa [hlen] using hr
  · rcases List.mem_append.1 hl' with hl' | hl'
    · exact h.few l hl'
    · simp at hl'; subst hl'; exact hl
  · rw [List.getElem_append]
    split
    · rename_i hj'
      rw [List.getD_eq_getElem?_getD, List.getElem?_append_left (by omega), ← List.getD_eq_getElem?_getD]
      exact h.off j hj'
    · rename_i hj'
      have : j = vs.length := by simp at hj; omega
      subst this
      rw [List.getD_eq_getElem?_getD, List.getElem?_append_right (by omega)]
      simpa [hlen] using ho
set_option maxHeartbeats 6400000 in
theorem gather_any (gf : Nat) (lb : Array Value) (n : Nat) (w : World) (F0 : List Nat) (I : Nat → List Nat → World → Prop) (rows : Nat → List Int) (bad : Nat → Prop) (hgf : Enters Tryd.prog gf) (h1 : 1 ≤ n) (h16 : n ≤ 16)
    (hF : ∀ b ∈ F0, b < w.heap.size) (h0 : I 0 F0 w) (hI : ∀ k F W W', I k F W → Keeps [w.heap.size] W W' → I k F W')
    (hc : ∀ k F W, k < n → I k F W → w.heap.size < W.heap.size → (∀ b ∈ F, b ∈ F0 ∨ w.heap.size < b) → Calls Tryd.prog gf (#[.int .i64 (k : Int)] ++ lb) W (CPost w.heap.size I rows bad k F W)) :
    Calls Tryd.prog 55 #[.int .i64 (n : Int), .func (.func gf) #[] lb] w (GPost w F0 I rows bad n) := by
  have HC := hid hc
  have HI := hid hI
  have HF := hid hF
  have HMK := hid (rows_make w n h16)
  have ka : Keeps [] w (w.alloc (.cells (madeCells #[.slice none 0 0] n) 31)) := (Keeps.refl [] w).alloc _
  have KA := hid (ka.mono (S' := F0) (by simp))
  have I0 := hid (hI 0 F0 _ _ h0 (ka.mono (by simp)))
  have G0 : Hid ((w.alloc (.cells (madeCells #[.slice none 0 0] n) 31)).heap[w.heap.size]? = some (.cells ((([] : List Value) ++ List.replicate (n - 0) (Value.slice none 0 0)).toArray) 31 (0, 0))) := hid (by rw [← made_rows]; exact heap_alloc_new w _)
  have S0 := hid (show w.heap.size < (w.alloc (.cells (madeCells #[.slice none 0 0] n) 31)).heap.size by simp)
  clear hc hI hF h0 ka
  have mk := HMK.out
  go_enter Tryd.func55, Tryd.ntmps55
  go_wp2_with fail
  clear mk
  go_loopw [11] (fun iv wr => ∃ (k : Nat) (F : List Nat) (vs : List Value), k ≤ n ∧ iv = .int .i64 (k : Int) ∧ Hid (vs.length = k) ∧ Hid (wr.heap[w.heap.size]? = some (.cells (vs ++ List.replicate (n - k) (Value.slice none 0 0)).toArray 31 (0, 0))) ∧ Hid (HeadsAt wr w.heap.size F vs ((List.range k).map rows)) ∧ Hid (I k F wr) ∧ Hid (Keeps F0 w wr) ∧ Hid (∀ b ∈ F, b ∈ F0 ∨ w.heap.size < b) ∧ Hid (∀ j, j < k → ¬ bad j)) (fun iv _ => n - (intOf iv).toNat)
  case atStart => exact ⟨0, F0, [], by omega, rfl, hid rfl, G0, hid ⟨rfl, by simp, by simp, by simp⟩, I0, KA, hid (fun b hb => Or.inl hb), hid (fun j hj => absurd hj (Nat.not_lt_zero _))⟩
  case round =>
    obtain ⟨k, F, vs, hk, rfl, HL, HG, HH, HIk, HK, HFn, HNB⟩ := hrel
    by_cases hlt : k < n
    · have LG := hid (lt_of_block HG.out)
      have A := HC.out k F wr hlt HIk.out LG.out HFn.out
      have HGF := hid hgf
      go_wp2_with fail
      rw [HGF.out, Oper.upon_enter]
      refine A.mono ?_
      clear A
      rintro e w2 (⟨v, F', rfl, q1, q2, q3, q4, q5, q6, q7⟩ | ⟨q1, rfl, q4⟩)
      · obtain ⟨va, vn, vc, rfl⟩ : ∃ a n c, v = .slice a n c := by obtain ⟨a, c, e, _⟩ := q1; exact ⟨a, _, c, e⟩
        have Q1 := hid q1
        have Q2 := hid q2
        have Q3 := hid q3
        have Q4 := hid q4
        have Q5 := hid q5
        have Q6 := hid q6
        have Q7 := hid q7
        have gF : w.heap.size ∉ F := fun hm => by
          rcases HFn.out _ hm with h | h
          · exact absurd (HF.out _ h) (by omega)
          · omega
        have G2 := hid ((q4.block w.heap.size LG.out gF).trans HG.out)
        have L2 := hid (Nat.lt_of_lt_of_le LG.out q4.size)
        have hsz : (vs ++ List.replicate (n - k) (Value.slice none 0 0)).length = n := by rw [List.length_append, List.length_replicate, HL.out]; omega
        obtain ⟨cc, ff⟩ := five_cells G2.out k
        have cc2 : w2.cell? ⟨w.heap.size, k, none⟩ = some (.slice none 0 0) := by
          rw [cc]
          have hlen := HL.out
          simp only [List.getElem?_toArray]
          rw [List.getElem?_append_right (by omega), hlen, Nat.sub_self, List.getElem?_replicate, if_pos (by omega)]
        have jj := set_five (i := k) G2.out (.slice va vn vc)
        have hset : ((vs ++ List.replicate (n - k) (Value.slice none 0 0)).toArray.setIfInBounds k (.slice va vn vc)) = ((vs ++ [Value.slice va vn vc]) ++ List.replicate (n - (k + 1)) (Value.slice none 0 0)).toArray := by
          have hlen := HL.out
          rw [List.setIfInBounds_toArray, List.set_append_right _ _ (by omega), hlen, Nat.sub_self, show n - k = (n - (k + 1)) + 1 by omega, List.replicate_succ, List.set_cons_zero, List.append_assoc]
          rfl
        rw [hset] at jj
        have J := hid jj
        have sk : Keeps [w.heap.size] w2 (w2.setCell ⟨w.heap.size, k, none⟩ (.slice va vn vc)) := set_keep
        have SK := hid sk
        clear q1 q2 q3 q4 q5 q6 q7 cc jj hset sk hsz gF
        go_wp2_with fail
        go_roundw
        case rel =>
          have hK1 : Keeps F0 w (w2.setCell ⟨w.heap.size, k, none⟩ (.slice va vn vc)) := (HK.out.trans' Q4.out (fun i hi hm => by
            rcases HFn.out _ hm with h | h
            · exact h
            · omega)).trans' SK.out (fun i hi hm => by simp at hm; omega)
          have hHs : HeadsAt (w2.setCell ⟨w.heap.size, k, none⟩ (.slice va vn vc)) w.heap.size F' (vs ++ [Value.slice va vn vc]) ((List.range (k + 1)).map rows) := by
            rw [List.range_succ, List.map_append, List.map_cons, List.map_nil]
            have h2 := HH.out.keep (F' := F') Q4.out (fun b hb => by simp [hb]) (fun b hb => by
              rcases Q6.out b hb with h | h
              · exact .inl (by simp [h])
              · exact .inr h)
            exact (h2.snoc Q1.out Q2.out Q3.out).keep SK.out (fun b hb => by simp at hb; simp [hb]) (fun b hb => .inl (by simp [hb]))
          exact ⟨k + 1, F', vs ++ [Value.slice va vn vc], by omega, by go_num, hid (by simp [HL.out]), J, hid hHs, hid (HI.out _ _ _ _ Q5.out SK.out), hid hK1, hid (fun b hb => by
            rcases Q6.out b hb with h | h
            · exact HFn.out b h
            · exact .inr (by have := LG.out; omega)), hid (fun j hj => by
            rcases Nat.lt_or_ge j k with h | h
            · exact HNB.out j h
            · obtain rfl : j = k := by omega
              exact Q7.out)⟩
        case measure => simp [intOf]; omega
      · have Q1 := hid q1
        have Q4 := hid q4
        clear q1 q4
        unfold gaveUp
        go_wp2_with fail
        exact ⟨rfl, HK.out.trans' Q4.out (fun i hi hm => by
            rcases HFn.out _ hm with h | h
            · exact h
            · omega), .inr ⟨⟨k, hlt, Q1.out⟩, rfl⟩⟩
    · obtain rfl : k = n := by omega
      go_wp2_with fail
      go_ret
      refine ⟨HK.out, .inl ⟨F, vs, rfl, ?_, HH.out, HIk.out, HFn.out, HNB.out⟩⟩
      have := HG.out
      rw [Nat.sub_self, List.replicate_zero, List.append_nil] at this
      exact this
end Go.Proofs.YtcfmonlgpccndaaDoor
