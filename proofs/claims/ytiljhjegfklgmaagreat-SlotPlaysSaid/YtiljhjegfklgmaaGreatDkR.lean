/- Image, the function. -/
import Derived.Test.YtiljhjegfklgmaaGreatDkQ
import Derived.Deep.OwnRows
namespace Go.Proofs.YtiljhjegfklgmaaGreat
open Go.RowKit Go.Shelf
attribute [local go_sem] Oper.semAt_some

def byt (l : List Int) : List Value := l.map (Value.int .u8)
theorem byt_one (l : List Int) : ∀ v ∈ byt l, v.oneCell' = true := by
  intro v hv
  simp only [byt, List.mem_map] at hv
  obtain ⟨z, _, rfl⟩ := hv
  rfl

/-- A row that is filled: n bytes of C are there. -/
def FillAt (w : World) (g C : Nat) (l : List Int) : Prop := l.length ≤ C ∧ w.heap[g]? = some (.cells (byt l ++ List.replicate (C - l.length) (Value.int .u8 0)).toArray 5 (0, 0))

theorem FillAt.push {w : World} {g C : Nat} {l r : List Int} (h : FillAt w g C l) (hr : l.length + r.length ≤ C) (ad : Addr) (c : Nat) (ty : TypeId) (hn : ∀ j u, (byt r)[j]? = some u → w.cell? (ad.add j) = some u) :
    ∃ w', (Builtin.append_ #[38, 38] ty #[.slice (some ⟨g, 0, none⟩) l.length C, .slice (some ad) r.length c]).run Tryz.prog w = .ok (.slice (some ⟨g, 0, none⟩) (l.length + r.length) C) w' ∧ FillAt w' g C (l ++ r) ∧ Keeps [g] w w' := by
  obtain ⟨i0, hi, hz0, hz1, hz2⟩ := info_parts info5
  have hlen : (byt l).length = l.length := by simp [byt]
  have hrl : (byt r).length = r.length := by simp [byt]
  have hrun := run_append_room (P := Tryz.prog) w 38 ty 5 i0 Tryz.underlying38 hi g l.length C _ h.2 ad r.length c (byt r) (by rw [hrl, hz1]; omega) hn (byt_one r) hr (by rw [hz1]; simp [byt]; omega)
  refine ⟨_, hrun, ⟨by simp; omega, ?_⟩, ?_⟩
  · rw [setRow_heap w g _ _ 5 _ h.2, hz1]
    have e1 : ((byt l ++ List.replicate (C - l.length) (Value.int .u8 0)).toArray.toList.take (l.length * 1)) = byt l := by
      simp only [Nat.mul_one]
      rw [List.take_append_of_le_length (by omega), ← hlen, List.take_length]
    have e2 : ((byt l ++ List.replicate (C - l.length) (Value.int .u8 0)).toArray.toList.drop (l.length * 1 + (byt r).length)) = List.replicate (C - (l ++ r).length) (Value.int .u8 0) := by
      simp only [Nat.mul_one]
      rw [List.drop_append, List.drop_of_length_le (by omega), hlen, hrl]
      simp
      omega
    rw [e1, e2]
    simp [byt, List.append_assoc]
  · exact ⟨rfl, rfl, rfl, by simp, fun k _ hk => setRow_other w g k _ (by simpa using hk)⟩

theorem exec_append {ρ : Operand → Value} {o : Oper} {w w' : World} {v u z : Value} (x y : Operand) (ho : o.op = .call { callee := .builtin .append, args := #[x, y], argTypes := #[38, 38] }) (hx : ρ x = u) (hy : ρ y = z) (h : (Builtin.append_ #[38, 38] o.type #[u, z]).run Tryz.prog w = .ok v w') : (execOp ρ o).run Tryz.prog w = .ok (.value v) w' := by
  simp [execOp, ho, resolve, invoke, builtin, hx, hy, h, Result.andThen]

set_option maxRecDepth 100000 in
set_option maxHeartbeats 4000000 in
theorem image_in (n : Nat) (hn : 4 ≤ n) (w : World) (p m nn : Nat) (lv : Value) (s : DS) (H : DiskIn w p m lv nn s) (hc : 2 ≤ s.cnt) (hc2 : s.cnt ≤ 4160) :
    CallsIn Fence.wide n Tryz.prog 20 #[.pointer (some ⟨p, 0, none⟩)] w fun e w' => ∃ v, e = .returned v ∧ RowAt w' v (imageL s.now s.cnt) ∧ NewV w v ∧ Keeps [] w w' := by
  have h1 : 1 ≤ n := by omega
  have hp := H.lt
  have hm := H.map.lt
  have c0 := H.c0
  have HH := hid H
  clear H
  obtain ⟨i0, hi, hz0, hz1, hz2⟩ := info_parts info5
  have hmk : ∀ W : World, (Instr.makeSlice 38 (.int .i64 0) (.int .i64 ((s.cnt : Int) * 64))).run Tryz.prog W = .ok (.slice (some ⟨W.heap.size, 0, none⟩) 0 (s.cnt * 64)) (W.alloc (.cells (Array.replicate (s.cnt * 64) (Value.int .u8 0)) 5)) := fun W => by
    have := run_makeSlice (P := Tryz.prog) W 38 5 i0 (.int .u8 0) Tryz.underlying38 hi hz0 .i64 .i64 0 ((s.cnt : Int) * 64) (by omega) (by omega) (by rw [hz1]; omega) (by rw [hz2]; omega) (by omega)
    have ht : ((s.cnt : Int) * 64).toNat = s.cnt * 64 := by omega
    rw [this, hz1, ht, Nat.mul_one]
    have e : madeCells (Value.int .u8 0).cells (s.cnt * 64) = Array.replicate (s.cnt * 64) (Value.int .u8 0) := by
      apply Array.ext'
      rw [Array.toList_replicate]
      exact toList_madeCells_one (Value.int .u8 0) (s.cnt * 64)
    rw [e]
    rfl
  refine callsIn_of_wp_marks Tryz.func20 rfl trivial ?_ rfl
  simp only [Tryz.ntmps20, List.size_toArray, List.length_cons, List.length_nil, Nat.reduceAdd, Nat.reduceSub, Array.replicate_succ, Array.replicate_zero, List.push_toArray, List.append_toArray, List.nil_append, List.cons_append]
  gi_wp2
  refine ⟨trivial, (callsIn_wide.2 (made_any w p s.cnt (by omega) c0)).mono ?_⟩
  rintro e w' ⟨rfl, rfl⟩
  gi_wp2
  have kA : Keeps [] w ((w.alloc (.cells (Array.replicate (s.cnt * 64) (Value.int .u8 0)) 5)).alloc (.cells #[.slice (some ⟨w.heap.size, 0, none⟩) 0 (s.cnt * 64)] 38)) := ((Keeps.refl [] w).alloc _).alloc _
  have zA : ((w.alloc (.cells (Array.replicate (s.cnt * 64) (Value.int .u8 0)) 5)).alloc (.cells #[.slice (some ⟨w.heap.size, 0, none⟩) 0 (s.cnt * 64)] 38)).heap.size = w.heap.size + 2 := by simp
  have gA := heap_alloc2_old w (.cells (Array.replicate (s.cnt * 64) (Value.int .u8 0)) 5) (.cells #[.slice (some ⟨w.heap.size, 0, none⟩) 0 (s.cnt * 64)] 38)
  have bA := heap_alloc2_new w (.cells (Array.replicate (s.cnt * 64) (Value.int .u8 0)) 5) (.cells #[.slice (some ⟨w.heap.size, 0, none⟩) 0 (s.cnt * 64)] 38)
  generalize (w.alloc (.cells (Array.replicate (s.cnt * 64) (Value.int .u8 0)) 5)).alloc (.cells #[.slice (some ⟨w.heap.size, 0, none⟩) 0 (s.cnt * 64)] 38) = wA at kA zA gA bA ⊢
  refine ⟨trivial, (callsIn_wide.2 (rows_any wA p)).mono ?_⟩
  rintro e w3 ⟨rfl, rfl⟩
  rw [zA]
  gi_wp2
  have z3 : (wA.alloc (.cells #[.pointer (some ⟨p, 0, none⟩)] 25)).heap.size = w.heap.size + 3 := by simp; omega
  have k3 : Keeps [] w (wA.alloc (.cells #[.pointer (some ⟨p, 0, none⟩)] 25)) := kA.alloc _
  have g3 : (wA.alloc (.cells #[.pointer (some ⟨p, 0, none⟩)] 25)).heap[w.heap.size]? = _ := (Below.heap_alloc wA (.cells #[.pointer (some ⟨p, 0, none⟩)] 25) w.heap.size (by omega)).trans gA
  have b3 : (wA.alloc (.cells #[.pointer (some ⟨p, 0, none⟩)] 25)).heap[w.heap.size + 1]? = _ := (Below.heap_alloc wA (.cells #[.pointer (some ⟨p, 0, none⟩)] 25) (w.heap.size + 1) (by omega)).trans bA
  have q3 : (wA.alloc (.cells #[.pointer (some ⟨p, 0, none⟩)] 25)).cell? ⟨w.heap.size + 2, 0, none⟩ = some (.pointer (some ⟨p, 0, none⟩)) := by
    have := cell_of_row _ _ 0 _ _ (0, 0) (heap_alloc_new wA (.cells #[.pointer (some ⟨p, 0, none⟩)] 25))
    rw [zA] at this
    exact this
  generalize wA.alloc (.cells #[.pointer (some ⟨p, 0, none⟩)] 25) = w3 at z3 k3 g3 b3 q3 ⊢
  have D3 := HH.out.keep k3 (by simp)
  have HS := hid (rows_stops (n - 1) (by omega) (w.heap.size + 2) p m nn w3.heap.size s.cnt (fun i => (s.now i, s.las i)) hc2 [w.heap.size, w.heap.size + 1] w3 q3 D3.c0 D3.c1 D3.map (by refine ⟨by omega, by simp⟩) (by refine ⟨by omega, by simp; omega⟩) (by refine ⟨by omega, by simp; omega⟩))
  refine wpIn_rangeFunc_ownH rfl h1 (gf := 70) (lb := #[.pointer (some ⟨w.heap.size + 2, 0, none⟩)]) rfl trivial (fun _ _ => rfl) HS.out KpS.trans (KpS.putObj (Nat.le_refl _)) (Below.refl _ _) (fun _ => rfl)
    (fun pre W => KpS [w.heap.size, w.heap.size + 1] w3.heap.size w3 W ∧ pre.length ≤ s.cnt ∧ FillAt W w.heap.size (s.cnt * 64) (pre.flatMap (·.1)) ∧ W.heap[w.heap.size + 1]? = some (.cells #[.slice (some ⟨w.heap.size, 0, none⟩) (pre.flatMap (·.1)).length (s.cnt * 64)] 38 (0, 0)))
    (fun _ _ _ => False) ?own (fun _ _ _ _ _ hs _ _ => hs) ⟨KpS.refl _ _ _, by simp, ⟨by simp, by rw [g3]; simp [byt]⟩, by rw [b3]; simp⟩
    (fun x a' W => ∃ b, a' = { tmps := #[.pointer (some ⟨p, 0, none⟩), undef, .slice none 0 0, .pointer (some ⟨w.heap.size + 1, 0, none⟩), .pointer (some ⟨b, 0, none⟩), .pointer (some ⟨p, 0, none⟩), .bool true, .bool false, .pointer (some ⟨p, 0, none⟩), .pointer (some ⟨p, 0, none⟩), .pointer (some ⟨p, 0, none⟩), .int .i64 s.cnt, .int .i64 ((s.cnt : Int) * 64), .slice (some ⟨w.heap.size, 0, none⟩) 0 (s.cnt * 64), .pointer (some ⟨p, 0, none⟩), .func (.func 70) #[] #[.pointer (some ⟨w.heap.size + 2, 0, none⟩)], rowV x, undef, undef, undef, undef], defers := [] } ∧ w3.heap.size ≤ b ∧ W.heap[b]? = some (.cells x.cells.toArray 99 (0, 0)))
    (fun x a' => ownFrom_ex _ _ fun b => ?var) ?assign ?body ?done ?stop
  case own =>
    rintro pre A B' row ⟨h1, h2, ⟨h3, h3'⟩, h4⟩ hg hr
    have hlow : ∀ k, k < w3.heap.size → B'.heap[k]? = A.heap[k]? := fun k hk => hg.block k (by have := h1.size; omega) (fun e => by have := (hr k e.symm).1; omega)
    exact ⟨h1.trans ⟨hg.os, hg.tape, hg.output, hg.size, fun k hk _ => hlow k hk⟩, h2, ⟨h3, (hlow _ (by omega)).trans h3'⟩, (hlow _ (by omega)).trans h4⟩
  case var =>
    rintro _ A B' row ⟨hE, hb, hv⟩ hg hr
    exact ⟨hE, hb, (hg.block b (lt_of_block hv) (fun e => by
      obtain ⟨_, o, ho, hc⟩ := hr b e.symm
      rw [hv] at ho
      injection ho with ho
      subst ho
      cases hc)).trans hv⟩
  case assign =>
    rintro l pre x W K ⟨hK, hl, hF, hB⟩ hC
    refine round_plain (by kernel_rfl) noOut_then ?_
    simp only [List.zip_toArray, List.zip_cons_cons, List.zip_nil_right, List.foldl_toArray, List.foldl_cons, List.foldl_nil, List.setIfInBounds_toArray, List.set_cons_zero, List.set_cons_succ]
    refine wpList_allocRow rfl rfl ?_
    refine wpList_storeRowNew rfl _ _ rfl W _ x rfl _ rfl rfl rfl ?_
    refine wpList_nil ?_
    have hs := hK.size
    exact hC _ _ ⟨by simp, fun k o _ hk _ => (Below.heap_alloc _ _ _ (lt_of_block hk)).trans hk⟩ ((KpS.refl _ _ _).alloc (by omega) _) ⟨hK.alloc (by omega) _, hl, ⟨hF.1, (Below.heap_alloc _ _ _ (by omega)).trans hF.2⟩, (Below.heap_alloc _ _ _ (by omega)).trans hB⟩
      ⟨W.heap.size, rfl, by omega, heap_alloc_new W _⟩
  case body =>
    rintro l pre x a' W hl2 _ ⟨hK, hl, hF, hB⟩ ⟨b, rfl, hbb, hv⟩ hlen
    refine wpIn_block (round_region (by kernel_rfl) (by kernel_rfl) noOut_block ?_)
    have cB : W.drew.cell? ⟨w.heap.size + 1, 0, none⟩ = some (.slice (some ⟨w.heap.size, 0, none⟩) (pre.flatMap (·.1)).length (s.cnt * 64)) := by
      rw [World.cell?_drew]
      exact cell_of_row W _ 0 _ _ (0, 0) hB
    have hnews : ∀ j u, (byt x.1)[j]? = some u → W.drew.cell? ((⟨b, 0, none⟩ : Addr).add j) = some u := fun j u hu => by
      rw [Addr.add_mid, World.cell?_drew, Nat.zero_add, cell_of_row W b j _ _ (0, 0) hv]
      simpa [Row.cells, byt] using hu
    have hL : ∀ l : List Row, (l.flatMap (·.1)).length = l.length * 64 := fun l => by
      induction l with
      | nil => rfl
      | cons y l ih => simp only [List.flatMap_cons, List.length_append, List.length_cons, ih, y.2.1]; omega
    obtain ⟨PL, hPL⟩ : ∃ PL, (pre.flatMap (·.1)).length = PL := ⟨_, rfl⟩
    rw [hPL] at cB hB
    refine any_take (i := 1) (v := .slice (some ⟨b, 0, none⟩) 64 64) rfl (by kernel_rfl) (by kernel_rfl) (by kernel_rfl) (fun _ _ _ h => h) rfl (fun W1 => by go_simp) ?_
    simp only [Act.put, List.setIfInBounds_toArray, List.set_cons_zero, List.set_cons_succ]
    refine any_do (i := 0) (by kernel_rfl) rfl rfl (wp_value (exec_load _ _ _ _ rfl rfl (run_loadCell _ _ _ _ cB (agg_no _ (by kernel_rfl)))) ?_)
    simp only [Act.put, List.setIfInBounds_toArray, List.set_cons_zero, List.set_cons_succ]
    have hFd : FillAt W.drew w.heap.size (s.cnt * 64) (pre.flatMap (·.1)) := hF
    obtain ⟨w5, hrun, hF5, k5⟩ := hFd.push (r := x.1) (by rw [hL, x.2.1]; have : pre.length < s.cnt := hlen; omega) ⟨b, 0, none⟩ 64 38 hnews
    rw [x.2.1, hPL] at hrun
    refine any_do (i := 2) (by kernel_rfl) rfl rfl (wp_value (exec_append _ _ rfl rfl rfl hrun) ?_)
    simp only [Act.put, List.setIfInBounds_toArray, List.set_cons_zero, List.set_cons_succ]
    have b5 : w5.heap[w.heap.size + 1]? = some (.cells #[.slice (some ⟨w.heap.size, 0, none⟩) PL (s.cnt * 64)] 38 (0, 0)) := (k5.block _ (by have := hK.size; show w.heap.size + 1 < W.heap.size; omega) (by simp)).trans hB
    have c5 : w5.cell? ⟨w.heap.size + 1, 0, none⟩ = some (.slice (some ⟨w.heap.size, 0, none⟩) PL (s.cnt * 64)) := cell_of_row _ _ 0 _ _ (0, 0) b5
    have f5 : w5.frozen? ⟨w.heap.size + 1, 0, none⟩ = false := by simp [World.frozen?, b5]
    have HB5 := hid b5
    have HF5 := hid hF5
    have HK5 := hid k5
    have HKK := hid hK
    have Z3 := hid z3
    have HL := hid hL
    have HPL := hid hPL
    clear cB hnews hFd hrun hF5 b5 k5 hF hB z3 hL hPL
    refine any_do (i := 3) (by kernel_rfl) rfl rfl ?_
    go_simp
    refine wpAny_done (by kernel_rfl) ?_ _
    have z3 := Z3.out
    have kw : KpS [w.heap.size, w.heap.size + 1] w3.heap.size W (w5.setCell ⟨w.heap.size + 1, 0, none⟩ (.slice (some ⟨w.heap.size, 0, none⟩) (PL + 64) (s.cnt * 64))) := by
      have hs := hK.size
      have hs5 : W.heap.size ≤ w5.heap.size := HK5.out.size
      refine ⟨HK5.out.os, HK5.out.tape, HK5.out.output, by simpa [World.setCell] using hs5, fun k hk hs' => ?_⟩
      rw [Below.heap_setCell _ _ _ _ (by simp at hs' ⊢; omega)]
      exact HK5.out.block k (by show k < W.heap.size; omega) (by simp at hs' ⊢; omega)
    have hlen2 : pre.length < s.cnt := hlen
    refine ⟨⟨kw.size, fun k o hk h0 _ => ?_⟩, kw, hK.trans kw, by simp; omega, ⟨?_, ?_⟩, ?_⟩
    · rw [Below.heap_setCell _ _ _ _ (by simp; omega)]
      exact (HK5.out.block k (lt_of_block h0) (by simp; omega)).trans h0
    · have := HF5.out.1
      simpa using this
    · rw [Below.heap_setCell _ _ _ _ (by simp)]
      have := HF5.out.2
      simpa using this
    · rw [heap_setCell_same _ _ _ _ _ _ HB5.out]
      have e : ((pre ++ [x]).flatMap (·.1)).length = PL + 64 := by rw [List.flatMap_append, List.length_append, HPL.out]; simp [x.2.1]
      have e2 : (List.map (fun a : Row => a.1.length) (pre ++ [x])).sum = PL + 64 := by
        have h := List.length_flatMap (l := pre ++ [x]) (f := fun y : Row => y.1)
        exact h.symm.trans e
      exact congrArg (fun q => some (Obj.cells #[Value.slice (some ⟨w.heap.size, 0, none⟩) q (s.cnt * 64)] 38 (0, 0))) e2.symm
  case done =>
    rintro D ys W hD hys ⟨hK, hl, hF, hB⟩ hDD
    have cB : W.cell? ⟨w.heap.size + 1, 0, none⟩ = some (.slice (some ⟨w.heap.size, 0, none⟩) (ys.flatMap (·.1)).length (s.cnt * 64)) := cell_of_row W _ 0 _ _ (0, 0) hB
    have hy : ys.flatMap (·.1) = imageL s.now s.cnt := by
      rw [hys]
      simp only [imageL, List.flatMap_map]
    have HF := hid hF
    have HK := hid hK
    have HDD := hid hDD
    rw [hy] at cB HF
    clear hF hK hDD hB
    gi_wp2
    refine ⟨by simp, .inl ⟨_, _, rfl, run_takeDeferred HDD.out, ?_⟩⟩
    have kf : Keeps [] w (W.putObj D (.deferred none)) := by
      refine Keeps.putObj ⟨HK.out.os.trans k3.os, HK.out.tape.trans k3.tape, HK.out.output.trans k3.output, Nat.le_trans k3.size HK.out.size, fun k hk _ => ?_⟩ (by omega) _
      rw [HK.out.block k (by omega) (by simp; omega), k3.block k hk (by simp)]
    refine ⟨_, results_tmp rfl _ _ _, _, rfl, ⟨some ⟨w.heap.size, 0, none⟩, s.cnt * 64, rfl, by rw [imageL_len]; omega, by unfold maxLen; omega, by simp, imageL_byte _ _, ?_⟩, ?_, kf⟩
    · intro ad had j u hu
      injection had with had
      subst had
      rw [Addr.add_mid, Nat.zero_add, World.cell?_of_block (w := W) (World.putObj_heap_other (by simp; omega)), cell_of_row W _ j _ _ (0, 0) HF.out.2]
      simp only [List.getElem?_toArray]
      rw [List.getElem?_append_left (by simpa [byt] using (List.getElem?_eq_some_iff.1 hu).1)]
      exact hu
    · intro b hb
      injection hb with hb
      simp at hb
      omega
  case stop =>
    rintro D c pre W _ _ h _
    exact h.elim


/-- Image. -/
theorem imageAt_any (w : World) (p : Nat) (s : DS) (F : List Nat) (K : Nat) (H : DiskAt w p s F K) :
    Calls Tryz.prog 20 #[.pointer (some ⟨p, 0, none⟩)] w fun e w' => ∃ v, e = .returned v ∧ RowAt w' v (imageL s.now s.cnt) ∧ NewV w v ∧ Keeps [] w w' := by
  obtain ⟨ok, m, lv, n, hi, _, _⟩ := H
  exact callsIn_wide.1 (image_in 9 (by omega) w p m n lv s hi ok.lo ok.hi)

end Go.Proofs.YtiljhjegfklgmaaGreat
