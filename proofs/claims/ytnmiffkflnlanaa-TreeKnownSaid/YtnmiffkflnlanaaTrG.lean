/- The code's tree: spot. -/
import Derived.Test.YtnmiffkflnlanaaTrF
namespace Go.Proofs.Ytnmiffkflnlanaa
open Go.RowKit
set_option maxRecDepth 100000

theorem find_b10 (w : World) (q c : Nat) (T : TL) (G : Nat → Nat) (TI : TreeIn w q T G c) (b : List UInt8) (hs : b.length ≤ 140737488351232) :
    Calls Try.prog 32 #[.pointer (some ⟨q, 0, none⟩), bstr b] w fun e w' => e = .returned (.tuple #[numN (findR T b).1, .int .i64 (findR T b).2]) ∧ Keeps [] w w' := by
  have h := find_any10 w q c T G TI ⟨b.toArray⟩ (by show b.toArray.size ≤ _; simpa using hs)
  have e : (⟨b.toArray⟩ : ByteArray).data.toList = b := by simp
  rw [e] at h
  exact h
theorem res_cell_slotT {P : Program} {fn : Func} {p q : Tmp} {ty : TypeId} (h : fn.results = #[.cell p ty, .tmp q]) (tmps : Array Value) (w : World) (g : Nat) (t : TypeId) (cs : Array Value) (fr : Nat × Nat) (d : TypeDesc)
    (hp : tmps.getD p undef = .pointer (some ⟨g, 0, none⟩)) (hg : w.heap[g]? = some (.cells cs t fr))
    (hu : P.underlying ty = some d) (hd : (match d with | .struct _ | .array _ _ => true | _ => false) = true) (hi : (P.info? ty).map (·.size) = some cs.size) (v : Value) (hq : tmps.getD q undef = v) :
    (results fn tmps).run P w = .ok (.tuple #[.agg cs, v]) w := by
  have hp' : tmps[p]?.getD undef = .pointer (some ⟨g, 0, none⟩) := by simpa using hp
  have hq' : tmps[q]?.getD undef = v := by simpa using hq
  simp [results, h, hp', hq', asAddr, run_loadVar_row w g t ty cs fr d hg hu hd hi]

theorem spotT_none {T : TL} {p : List UInt8} (h : splitN p = none) : spotT T p = (0, [], 12) := by simp [spotT, placeT, h]
theorem spotT_root {T : TL} {p : List UInt8} (h : splitN p = some []) : spotT T p = (0, [], 7) := by simp [spotT, placeT, h]
theorem last_some {l : List (List UInt8)} (h0 : l ≠ []) : l.getLast? = some (l.getLastD []) := by
  rw [List.getLast?_eq_some_getLast h0, List.getLastD_eq_getLast?, List.getLast?_eq_some_getLast h0]
  rfl
theorem hangX_T {T : TL} (I : InvT T) {n : Nat} (s : List UInt8) (h : hasT T n = true) : hangX (xT T) (kidT T) n s = if isDirT T n = true then (if kidT T n s = 0 then 0 else 7) else 10 := by
  unfold hangX
  rw [hasX_T I, if_pos h]
  rfl
theorem spotT_some {T : TL} (I : InvT T) {p : List UInt8} {l : List (List UInt8)} (h : splitN p = some l) (h0 : l ≠ []) :
    spotT T p = if (walkT T 1 l.dropLast).2 = 0 then (if hangX (xT T) (kidT T) (walkT T 1 l.dropLast).1 (l.getLastD []) = 0 then ((walkT T 1 l.dropLast).1, l.getLastD [], 0) else (0, [], hangX (xT T) (kidT T) (walkT T 1 l.dropLast).1 (l.getLastD []))) else (0, [], (walkT T 1 l.dropLast).2) := by
  have e : placeT T p = if (walkT T 1 l.dropLast).2 = 0 then (if isDirT T (walkT T 1 l.dropLast).1 = true then ((walkT T 1 l.dropLast).1, l.getLastD [], 0) else (0, [], 10)) else (0, [], (walkT T 1 l.dropLast).2) := by
    simp only [placeT, h, last_some h0]
  unfold spotT
  rw [e]
  by_cases h1 : (walkT T 1 l.dropLast).2 = 0
  · have hh := walkT_has I l.dropLast 1 (one_has T) h1
    rw [if_pos h1, if_pos h1, hangX_T I _ hh]
    generalize l.getLastD [] = u
    by_cases h2 : isDirT T (walkT T 1 l.dropLast).1 = true
    · rw [if_pos h2, if_pos h2]
      by_cases h3 : kidT T (walkT T 1 l.dropLast).1 u = 0
      · rw [if_pos h3, if_pos rfl]
        simp [h3]
      · rw [if_neg h3]
        simp [h3]
    · rw [if_neg h2, if_neg h2]
      simp
  · rw [if_neg h1, if_neg h1]
    simp [h1]
theorem split_drop {p : List UInt8} {l : List (List UInt8)} (h : splitN p = some l) : splitN (joinN l.dropLast) = some l.dropLast := by
  obtain ⟨h1, h2, _⟩ := splitN_some h
  exact split_join (fun x hx => h1 x (List.dropLast_subset l hx)) (by rw [List.length_dropLast]; omega)
theorem findR_drop (T : TL) {p : List UInt8} {l : List (List UInt8)} (h : splitN p = some l) : findR T (joinN l.dropLast) = walkT T 1 l.dropLast := findR_some (split_drop h)
theorem joinN_len {p : List UInt8} {l : List (List UInt8)} (h : splitN p = some l) : (joinN l.dropLast).length ≤ 140737488351232 := by
  obtain ⟨h1, h2, _⟩ := splitN_some h
  unfold joinN
  split
  · simp
  · have := join_short (l := l.dropLast) (fun x hx => h1 x (List.dropLast_subset l hx)) (by rw [List.length_dropLast]; omega)
    omega

theorem rangeNewT (w : World) (l : List Value) (t : TypeId) : (w.alloc (.cells l.toArray t)).rangeAt w.heap.size 0 l := fun j v hv => by
  rw [Nat.zero_add, cell_of_row _ _ j l.toArray t (0, 0) (heap_alloc_new w _)]
  simpa using hv
def plZ : Array Value := (plC 0 []).toArray
theorem build_pl0 (w : World) : (Instr.build 62 #[]).run Try.prog w = .ok (plV 0 []) w := by kernel_rfl
theorem build_pl (d : Nat) (s : List UInt8) (w : World) : (Instr.build 62 #[(0, numN d), (1, bstr s)]).run Try.prog w = .ok (plV d s) w := by kernel_rfl
theorem wpList_buildPl {ops : Array Oper} {rest : List Oper} {o : Oper} {a : Act} {w : World} {Q : Exit → Act → World → Prop} (hgd : o.guard = none) (x y : Operand) (ho : o.op = .build 62 #[(0, x), (1, y)]) (d : Nat) (s : List UInt8) (hx : a.eval x = numN d) (hy : a.eval y = bstr s)
    (hk : wpList Try.prog ops Q rest (a.put o.dst (plV d s)) w) : wpList Try.prog ops Q (o :: rest) a w := by
  refine wpList_is hgd _ _ ?_ hk
  have := build_pl d s w
  simp only [execOp, ho, List.map_toArray, List.map_cons, List.map_nil, hx, hy, Sem.run_bind, this, Result.andThen_ok, Sem.run_pure]
theorem spPl (d : Nat) (s : List UInt8) : (Try.prog.info? 62).map (·.size) = some (plC d s).toArray.size := by rw [sPlace]; rfl

/-- What spot answers. -/
def SpotPost (T : TL) (p : List UInt8) (w : World) (e : Ending) (w' : World) : Prop :=
  e = .returned (.tuple #[plV (spotT T p).1 (spotT T p).2.1, .int .i64 (spotT T p).2.2]) ∧ Keeps [] w w'

set_option maxHeartbeats 6400000 in
theorem spot_any10 (w : World) (q c : Nat) (T : TL) (G : Nat → Nat) (TI : TreeIn w q T G c) (s : ByteArray) (hs : s.size ≤ 140737488351232) :
    Calls Try.prog 28 #[.pointer (some ⟨q, 0, none⟩), .string s] w (SpotPost T s.data.toList w) := by
  have HI := hid TI
  clear TI
  have kA : Keeps [] w (w.alloc (.cells plZ 62)) := (Keeps.refl [] w).alloc _
  have gA := heap_alloc_new w (.cells plZ 62)
  have zA : (w.alloc (.cells plZ 62)).heap.size = w.heap.size + 1 := by simp
  have B0 := build_pl0
  unfold SpotPost
  obtain ⟨r, hr⟩ : ∃ r, r = spotT T s.data.toList := ⟨_, rfl⟩
  rw [← hr]
  have HR := hid hr
  clear hr
  go_enter Try.func28, Try.ntmps28
  go_wp2_with (first | (refine wpList_is rfl _ _ (exec_alloc 62 plZ iPlace rfl) ?_) | fail)
  generalize w.alloc (.cells plZ 62) = wA at kA gA zA ⊢
  have KA := hid kA
  have GA := hid gA
  have lw : w.heap.size < wA.heap.size := by omega
  have LW := hid lw
  have HIA := hid (HI.out.keep0 kA)
  clear kA gA zA lw
  refine HIA.out.made.mono ?_
  rintro e w' ⟨rfl, rfl⟩
  go_wp2_with fail
  refine (parent_any s wA hs).mono ?_
  rintro e w1 ⟨rfl, k1⟩
  have K1 := hid (KA.out.trans k1)
  have G1 := hid ((k1.block _ LW.out (by simp)).trans GA.out)
  have HI1 := hid (HIA.out.keep0 k1)
  have LW1 := hid (Nat.lt_of_lt_of_le LW.out k1.size)
  clear k1
  cases hq : splitN s.data.toList with
  | none =>
    have HS := hid (spotT_none (T := T) hq)
    rw [parentN_none hq]
    clear hq
    go_wp2_with (first | (refine wpList_storeRowT rfl _ _ rfl w.heap.size rfl plZ (plC 0 []).toArray (spPl 0 []) rfl G1.out rfl (plC_one _ _) ?_; intro w9 s1 s2) | fail)
    refine bodyPost_ret (v := .tuple #[plV 0 [], .int .i64 12]) (res_cell_slotT rfl _ _ _ _ _ _ _ rfl s1.out uPlace rfl (spPl 0 []) _ rfl) rfl ?_
    refine ⟨?_, K1.out.trans' s2.out (fun i hi hm => by simp at hm; omega)⟩
    rw [HR.out, HS.out]
  | some l =>
    by_cases h0 : l = []
    · subst h0
      have HS := hid (spotT_root (T := T) hq)
      rw [parentN_root hq]
      clear hq
      go_wp2_with (first | (refine wpList_storeRowT rfl _ _ rfl w.heap.size rfl plZ (plC 0 []).toArray (spPl 0 []) rfl G1.out rfl (plC_one _ _) ?_; intro w9 s1 s2) | fail)
      refine bodyPost_ret (v := .tuple #[plV 0 [], .int .i64 7]) (res_cell_slotT rfl _ _ _ _ _ _ _ rfl s1.out uPlace rfl (spPl 0 []) _ rfl) rfl ?_
      refine ⟨?_, K1.out.trans' s2.out (fun i hi hm => by simp at hm; omega)⟩
      rw [HR.out, HS.out]
    · have HS := hid (spotT_some HI.out.1 hq h0)
      have FB := find_b10 w1 q c T G HI1.out (joinN l.dropLast) (joinN_len hq)
      rw [findR_drop T hq] at FB
      have hu : (l.getLastD []).length ≤ maxLen := by
        have h := (splitN_some hq).1 _ (List.getLast_mem h0)
        have h2 := (mayN_len h).2
        rw [List.getLastD_eq_getLast?, List.getLast?_eq_some_getLast h0]
        exact Nat.le_trans h2 (by decide)
      have HH : Hid ((walkT T 1 l.dropLast).2 = 0 → hasT T (walkT T 1 l.dropLast).1 = true) := hid fun h => walkT_has HI.out.1 _ 1 (one_has T) h
      rw [parentN_some hq h0]
      generalize l.getLastD [] = u at HS hu ⊢
      generalize walkT T 1 l.dropLast = nx at HS FB HH
      generalize joinN l.dropLast = pa at FB ⊢
      have HU := hid hu
      have FBH := hid FB
      clear hq h0 hu FB
      obtain ⟨n, x⟩ := nx
      go_wp2_with fail
      refine FBH.out.mono ?_
      rintro e w2 ⟨rfl, k2⟩
      have K2 := hid (K1.out.trans k2)
      have G2 := hid ((k2.block _ LW1.out (by simp)).trans G1.out)
      have HI2 := hid (HI1.out.keep0 k2)
      have LW2 := hid (Nat.lt_of_lt_of_le LW1.out k2.size)
      clear k2
      by_cases hx : x = 0
      · subst hx
        have HHas := hid (HH.out rfl)
        have k3 : Keeps [] w2 (w2.alloc (.cells (plC n u).toArray 62)) := (Keeps.refl [] w2).alloc _
        have g3 := heap_alloc_new w2 (.cells (plC n u).toArray 62)
        go_wp2_with (first | (refine wpList_is rfl _ _ (exec_alloc 62 plZ iPlace rfl) ?_) | (refine wpList_buildPl rfl _ _ rfl n u rfl rfl ?_) | (refine wpList_noval rfl _ (exec_storeNew 62 _ _ rfl w2 plZ (plC n u).toArray rfl rfl rfl iPlace rfl (plC_one _ _)) ?_) | (refine wpList_loadPl rfl _ rfl w2.heap.size 0 rfl n u (rangeNewT _ _ _) ?_) | fail)
        generalize w2.alloc (.cells (plC n u).toArray 62) = w3 at k3 g3 ⊢
        have HI3 := hid (HI2.out.keep0 k3)
        have K3 := hid (K2.out.trans k3)
        have G3 := hid ((k3.block _ LW2.out (by simp)).trans G2.out)
        have P3 := hid g3
        have LW3 := hid (Nat.lt_of_lt_of_le LW2.out k3.size)
        clear k3 g3
        refine (mayHang_mid w3 q c _ G _ HI3.out.2 (one_has T) n u HU.out).mono ?_
        rintro e w4 ⟨rfl, k4⟩
        have K4 := hid (K3.out.trans k4)
        have G4 := hid ((k4.block _ LW3.out (by simp)).trans G3.out)
        have P4 := hid ((k4.block _ (lt_of_block P3.out) (by simp)).trans P3.out)
        clear k4
        have hS := HS.out
        simp only [if_true] at hS
        generalize hangX (xT T) (kidT T) n u = y at hS ⊢
        have R4 := hid (show w4.rangeAt w2.heap.size 0 (plC n u) from fun j v hv => by rw [Nat.zero_add, cell_of_row _ _ j _ _ (0, 0) P4.out]; simpa using hv)
        by_cases hy : y = 0
        · subst hy
          simp only [if_true] at hS
          have HS4 := hid hS
          clear hS
          go_wp2_with (first | (refine wpList_loadPl rfl _ rfl w2.heap.size 0 rfl n u R4.out ?_) | (refine wpList_storeRowT rfl _ _ rfl w.heap.size rfl plZ (plC n u).toArray (spPl 0 []) rfl G4.out rfl (plC_one _ _) ?_; intro w9 s1 s2) | fail)
          refine bodyPost_ret (v := .tuple #[plV n u, .int .i64 0]) (res_cell_slotT rfl _ _ _ _ _ _ _ rfl s1.out uPlace rfl (spPl n u) _ rfl) rfl ?_
          refine ⟨?_, K4.out.trans' s2.out (fun i hi hm => by simp at hm; omega)⟩
          rw [HR.out, HS4.out]
        · have hy' : (y != 0) = true := by simpa using hy
          rw [if_neg hy] at hS
          have HS4 := hid hS
          clear hS hy
          go_wp2_with (first | (refine wpList_storeRowT rfl _ _ rfl w.heap.size rfl plZ (plC 0 []).toArray (spPl 0 []) rfl G4.out rfl (plC_one _ _) ?_; intro w9 s1 s2) | fail)
          refine bodyPost_ret (v := .tuple #[plV 0 [], .int .i64 y]) (res_cell_slotT rfl _ _ _ _ _ _ _ rfl s1.out uPlace rfl (spPl 0 []) _ rfl) rfl ?_
          refine ⟨?_, K4.out.trans' s2.out (fun i hi hm => by simp at hm; omega)⟩
          rw [HR.out, HS4.out]
      · have hx' : (x != 0) = true := by simpa using hx
        have HX := hid hx
        clear hx
        go_wp2_with (first | (refine wpList_storeRowT rfl _ _ rfl w.heap.size rfl plZ (plC 0 []).toArray (spPl 0 []) rfl G2.out rfl (plC_one _ _) ?_; intro w9 s1 s2) | fail)
        refine bodyPost_ret (v := .tuple #[plV 0 [], .int .i64 x]) (res_cell_slotT rfl _ _ _ _ _ _ _ rfl s1.out uPlace rfl (spPl 0 []) _ rfl) rfl ?_
        refine ⟨?_, K2.out.trans' s2.out (fun i hi hm => by simp at hm; omega)⟩
        rw [HR.out, HS.out, if_neg HX.out]
end Go.Proofs.Ytnmiffkflnlanaa
