/- note: texts and rows are read; a stripe with its size, an entry, a delta are read by the code. -/
import Derived.Test.YtoglcohdanpciaaNtE
import Derived.Test.YtoglcohdanpciaaJK
namespace Go.Proofs.Ytoglcohdanpciaa
open Go.RowKit Go.Shelf
set_option maxRecDepth 100000
set_option linter.unusedSimpArgs false
set_option linter.unusedVariables false

theorem rdCount_most {zs : List Int} (hb : Byt zs) : rdCount 65536 zs = rdCount 65535 zs := by
  unfold rdCount
  rw [if_neg (show ¬ ((65536 : Int) < 0) by decide), if_neg (show ¬ ((65535 : Int) < 0) by decide)]
  by_cases h2 : zs.length < 2
  · rw [if_pos h2, if_pos h2]
  · rw [if_neg h2, if_neg h2]
    have hv := (val_bound 2 (zs.take 2) (by rw [List.length_take]; omega) (hb.take 2)).2
    have hv2 : val (zs.take 2) < 65536 := hv
    rw [if_neg (show ¬ ((65536 : Int) < val (zs.take 2)) by omega), if_neg (show ¬ ((65535 : Int) < val (zs.take 2)) by omega)]
theorem rawE_ne {st : PSt} (h : (rawE st).2.1 ≠ []) : st.1 ≠ [] := by
  intro e
  apply h
  unfold rawE after rdCount
  rw [e]
  by_cases h1 : st.2 ≠ 0
  · rw [if_pos h1]
  · rw [if_neg h1]
    rfl
theorem EyL.text {w wr : World} {B p : Nat} {v : Value} {st : PSt} (h : EyL w wr B p v st) :
    Calls Try.prog 145 #[.pointer (some ⟨p, 0, none⟩), .int .i64 65536] wr fun e w' => e = .returned (.string (txE st).1) ∧ EyL w w' B p v (txE st).2 ∧ Keeps [p] wr w' := by
  obtain ⟨v2, he, hs, ho⟩ := h
  have hb : Byt st.1 := he.row.bytes
  exact (eyeText_any wr B p v2 st.1 st.2 65536 he).mono fun e w' ⟨⟨v3, h3, hs3⟩, k, m⟩ => by
    rw [rdCount_most hb] at h3 m
    refine ⟨?_, ⟨v3, h3, hs.trans hs3, ho.same hs3 rawE_ne⟩, k⟩
    unfold txE rawE
    cases hr : (after st.1 st.2 (rdCount 65535 st.1)).1 with
    | none => rw [hr] at m; exact m
    | some x => rw [hr] at m; exact m
/-- What a read of a row answers. -/
def RawPost (wr : World) (x : List Int) (e : Ending) (w' : World) : Prop := ∃ a c, e = .returned (.slice a x.length c) ∧ RowAt w' (.slice a x.length c) x ∧ ∀ ad, a = some ad → wr.heap.size ≤ ad.block
theorem EyL.raw {w wr : World} {B p : Nat} {v : Value} {st : PSt} (h : EyL w wr B p v st) :
    Calls Try.prog 133 #[.pointer (some ⟨p, 0, none⟩), .int .i64 65536] wr fun e w' => RawPost wr (rawE st).1 e w' ∧ EyL w w' B p v (rawE st).2 ∧ Keeps [p] wr w' := by
  obtain ⟨v2, he, hs, ho⟩ := h
  have hb : Byt st.1 := he.row.bytes
  exact (eyeRaw_any wr B p v2 st.1 st.2 65536 he).mono fun e w' ⟨⟨v3, h3, hs3⟩, k, m⟩ => by
    rw [rdCount_most hb] at h3 m
    refine ⟨?_, ⟨v3, h3, hs.trans hs3, ho.same hs3 rawE_ne⟩, k⟩
    unfold rawE
    cases hr : (after st.1 st.2 (rdCount 65535 st.1)).1 with
    | none => rw [hr] at m; exact ⟨none, 0, m, RowAt.nil _, by simp⟩
    | some x => rw [hr] at m; exact m
theorem REyL.raw {wr : World} {B p : Nat} {st : PSt} (h : REyL wr B p st) :
    Calls Try.prog 94 #[.pointer (some ⟨p, 0, none⟩), .int .i64 65535] wr fun e w' => RawPost wr (rawE st).1 e w' ∧ REyL w' B p (rawE st).2 ∧ Keeps [p] wr w' := by
  obtain ⟨v2, he⟩ := h
  exact (reraw_any wr B p v2 st.1 st.2 65535 he).mono fun e w' ⟨h1, k, m⟩ => by
    refine ⟨?_, h1, k⟩
    unfold rawE
    cases hr : (after st.1 st.2 (rdCount 65535 st.1)).1 with
    | none => rw [hr] at m; exact ⟨none, 0, m, RowAt.nil _, by simp⟩
    | some x => rw [hr] at m; exact m
/-- A struct is stored whole into a block that is there. -/
theorem exec_storeWhole {ρ : Operand → Value} {o : Oper} {w : World} (T : TypeId) (x y : Operand) (ho : o.op = .store T x y) (g : Nat) (cur : Array Value) (cs : List Value) (hb : w.heap[g]? = some (.cells cur T (0, 0))) (hsz : cur.size = cs.length)
    (hx : ρ x = .pointer (some ⟨g, 0, none⟩)) (hy : ρ y = .agg cs.toArray) (hs : (Try.prog.info? T).map (·.size) = some cs.length) (h1 : ∀ u ∈ cs, u.oneCell' = true) : (execOp ρ o).run Try.prog w = .ok .skip (w.setRow g cs.toArray) := by
  have hst := run_storeCells_at Try.prog g 0 T cs 0 cur w hb (by simp [hsz]) h1
  have e6 : cur.toList.drop cs.length = [] := List.drop_of_length_le (by simp [hsz])
  simp only [Nat.zero_add, List.take_zero, List.nil_append, e6, List.append_nil] at hst
  have e3 : (Value.agg cs.toArray).cells = cs.toArray := rfl
  have hs2 : (sizeOf T).run Try.prog w = .ok cs.length w := by
    cases hq : Try.prog.info? T with
    | none => simp [hq] at hs
    | some i => simp [hq] at hs; simp [sizeOf, typeInfo, hq, hs]
  have hr : (Instr.storeAt T (.pointer (some ⟨g, 0, none⟩)) (.agg cs.toArray)).run Try.prog w = .ok () (w.setRow g cs.toArray) := by
    simp only [Instr.storeAt, Instr.sureAddr, Sem.run_bind, Sem.run_pure, Result.andThen_ok, storeVar]
    simp [hs2, e3, hst, Result.andThen]
  unfold execOp
  simp only [ho, hx, hy, hr, Sem.run_bind, Result.andThen_ok]
  rfl
theorem setRow_keepsN {w : World} {b : Nat} {cur cs : Array Value} {T : TypeId} (h : w.heap[b]? = some (.cells cur T (0, 0))) : (w.setRow b cs).heap[b]? = some (.cells cs T (0, 0)) ∧ Keeps [b] w (w.setRow b cs) :=
  ⟨setRow_heap w b cur cs T (0, 0) h, ⟨rfl, rfl, rfl, by simp [World.setRow], fun k _ hm => setRow_other w b k cs (by simpa using hm)⟩⟩
theorem range_ofN {w : World} {b : Nat} {cs : List Value} {A : Array Value} {T : TypeId} (h : w.heap[b]? = some (.cells A T (0, 0))) (e : A = cs.toArray) : w.rangeAt b 0 cs := fun j u hu => by
  subst e
  rw [Nat.zero_add, cell_of_row _ _ _ _ _ _ h, ← Array.getElem?_toList]
  simpa using hu
theorem two_retT {α : Type} {K : Kn α} {T TS : TypeId} {BB : Nat} (R : K.Ty T TS BB) {fn : Func} {p s : Tmp} (hr : fn.results = #[.cell p T, .tmp s]) {tmps : Array Value} {w : World} {b : Nat} {x : α} {z : Value} (hp : tmps.getD p undef = .pointer (some ⟨b, 0, none⟩)) (hs : tmps.getD s undef = z) (hx : w.rangeAt b 0 (K.cells x)) : (results fn tmps).run Try.prog w = .ok (.tuple #[K.v x, z]) w := by
  have hp' : tmps[p]?.getD undef = .pointer (some ⟨b, 0, none⟩) := by simpa using hp
  have hs' : tmps[s]?.getD undef = z := by simpa using hs
  obtain ⟨d, hd, hrow⟩ := R.str
  have hv : (loadVar T ⟨b, 0, none⟩).run Try.prog w = .ok (K.v x) w := run_loadVar_mid w b 0 T (K.cells x) d hx hd hrow (by rw [R.size, R.len])
  simp [results, hr, hp', hs', asAddr, hv]
/-- What a reader of one thing answers. -/
def OnePost {α : Type} (K : Kn α) (g : PSt → α × PSt) (w0 w : World) (B p : Nat) (v : Value) (st : PSt) (e : Ending) (w' : World) : Prop :=
  ∃ x why, e = .returned (.tuple #[K.v x, .int .i64 why]) ∧ Keeps [p] w w' ∧ why = (g st).2.2 ∧ (why = 0 → x = (g st).1 ∧ EyL w0 w' B p v (g st).2)

set_option maxHeartbeats 12800000 in
theorem ntGet1S_any {w0 : World} (w : World) (B p : Nat) (v : Value) (st : PSt) (h : EyL w0 w B p v st) (hw0 : w0.heap.size ≤ w.heap.size) :
    Calls Try.prog 147 #[.pointer (some ⟨p, 0, none⟩)] w (OnePost KSz szC.g w0 w B p v st) := by
  have HW0 := hid hw0
  have hpw := h.lt
  have k1 : Keeps [] w (w.alloc (.cells (KSz.cells KSz.z).toArray 144)) := (Keeps.refl [] w).alloc _
  have k2 : Keeps [] w ((w.alloc (.cells (KSz.cells KSz.z).toArray 144)).alloc (.cells (KSz.cells KSz.z).toArray 144)) := k1.alloc _
  have E0 := hid (h.more k2)
  have D0 : Hid (((w.alloc (.cells (KSz.cells KSz.z).toArray 144)).alloc (.cells (KSz.cells KSz.z).toArray 144)).heap[w.heap.size]? = some (.cells (KSz.cells KSz.z).toArray 144 (0, 0))) := hid (((Keeps.refl [] (w.alloc (.cells (KSz.cells KSz.z).toArray 144))).alloc _).block _ (by simp) (by simp) |>.trans (heap_alloc_new w _))
  have b3 := heap_alloc_new (w.alloc (.cells (KSz.cells KSz.z).toArray 144)) (.cells (KSz.cells KSz.z).toArray 144)
  rw [World.size_alloc] at b3
  have J0 := hid b3
  have K0 := hid k2
  have HP := hid hpw
  have HS0 := hid (show w.heap.size + 1 < ((w.alloc (.cells (KSz.cells KSz.z).toArray 144)).alloc (.cells (KSz.cells KSz.z).toArray 144)).heap.size by simp)
  obtain ⟨x1, s1, e1⟩ : ∃ x s, numE 1 st = (x, s) := ⟨_, _, rfl⟩
  obtain ⟨x2, s2, e2⟩ : ∃ x s, numE 3 s1 = (x, s) := ⟨_, _, rfl⟩
  obtain ⟨x3, s3, e3⟩ : ∃ x s, numE 4 s2 = (x, s) := ⟨_, _, rfl⟩
  obtain ⟨x4, s4, e4⟩ : ∃ x s, numE 2 s3 = (x, s) := ⟨_, _, rfl⟩
  have EG : Hid (szC.g st = ((⟨x1, x2, x3, x4⟩ : Sz), s4)) := hid (by
    have f1 : szC.g st = (⟨(numE 1 st).1, (numE 3 (numE 1 st).2).1, (numE 4 (numE 3 (numE 1 st).2).2).1, (numE 2 (numE 4 (numE 3 (numE 1 st).2).2).2).1⟩, (numE 2 (numE 4 (numE 3 (numE 1 st).2).2).2).2) := rfl
    rw [f1]
    simp only [e1, e2, e3, e4])
  have N1 := hid e1
  have N2 := hid e2
  have N3 := hid e3
  have N4 := hid e4
  clear h hw0 k1 k2 b3 hpw e1 e2 e3 e4
  go_enter Try.func147, Try.ntmps147
  go_wp2_with (first | (refine wpList_allocT cSz rfl rfl ?_) | fail)
  have A0 := E0.out.num 1
  rw [N1.out] at A0
  refine A0.mono ?_
  rintro e u0 ⟨rfl, ey, kk⟩
  have F0 := hid ((kk.block (w.heap.size + 1) (by have := HS0.out; omega) (by have := HP.out; simp; omega)).trans J0.out)
  have G0 := hid ((kk.block w.heap.size (by have := HS0.out; omega) (by have := HP.out; simp; omega)).trans D0.out)
  have T0 := hid ey
  have KU0 := hid ((K0.out.mono (S' := [p]) (by simp)).trans kk)
  have HU0 := hid (show w.heap.size + 1 < u0.heap.size by have := HS0.out; have := kk.size; omega)
  obtain ⟨cc, ff⟩ := five_cells F0.out 0
  change u0.cell? ⟨w.heap.size + 1, 0, none⟩ = some (.int .i64 0) at cc
  clear A0 ey kk
  have J1 := hid (set_five (i := 0) F0.out (.int .i64 x1))
  have sk0 : Keeps [w.heap.size + 1] u0 (u0.setCell ⟨w.heap.size + 1, 0, none⟩ (.int .i64 x1)) := set_keep
  have D1 := hid ((sk0.block w.heap.size (by have := HU0.out; omega) (by simp)).trans G0.out)
  have E1 := hid (T0.out.later sk0 (by have := HW0.out; omega) (by have := HP.out; omega))
  have K1 := hid (KU0.out.trans' sk0 (fun i hi hm => by simp at hm; omega))
  have HS1 := hid (Nat.lt_of_lt_of_le HU0.out sk0.size)
  clear sk0
  go_wp2_with fail
  have A1 := E1.out.num 3
  rw [N2.out] at A1
  refine A1.mono ?_
  rintro e u1 ⟨rfl, ey, kk⟩
  have F1 := hid ((kk.block (w.heap.size + 1) (by have := HS1.out; omega) (by have := HP.out; simp; omega)).trans J1.out)
  have G1 := hid ((kk.block w.heap.size (by have := HS1.out; omega) (by have := HP.out; simp; omega)).trans D1.out)
  have T1 := hid ey
  have KU1 := hid ((K1.out.mono (S' := [p]) (by simp)).trans kk)
  have HU1 := hid (show w.heap.size + 1 < u1.heap.size by have := HS1.out; have := kk.size; omega)
  obtain ⟨cc, ff⟩ := five_cells F1.out 1
  change u1.cell? ⟨w.heap.size + 1, 1, none⟩ = some (.int .i64 0) at cc
  clear A1 ey kk
  have J2 := hid (set_five (i := 1) F1.out (.int .i64 x2))
  have sk1 : Keeps [w.heap.size + 1] u1 (u1.setCell ⟨w.heap.size + 1, 1, none⟩ (.int .i64 x2)) := set_keep
  have D2 := hid ((sk1.block w.heap.size (by have := HU1.out; omega) (by simp)).trans G1.out)
  have E2 := hid (T1.out.later sk1 (by have := HW0.out; omega) (by have := HP.out; omega))
  have K2 := hid (KU1.out.trans' sk1 (fun i hi hm => by simp at hm; omega))
  have HS2 := hid (Nat.lt_of_lt_of_le HU1.out sk1.size)
  clear sk1
  go_wp2_with fail
  have A2 := E2.out.num 4
  rw [N3.out] at A2
  refine A2.mono ?_
  rintro e u2 ⟨rfl, ey, kk⟩
  have F2 := hid ((kk.block (w.heap.size + 1) (by have := HS2.out; omega) (by have := HP.out; simp; omega)).trans J2.out)
  have G2 := hid ((kk.block w.heap.size (by have := HS2.out; omega) (by have := HP.out; simp; omega)).trans D2.out)
  have T2 := hid ey
  have KU2 := hid ((K2.out.mono (S' := [p]) (by simp)).trans kk)
  have HU2 := hid (show w.heap.size + 1 < u2.heap.size by have := HS2.out; have := kk.size; omega)
  obtain ⟨cc, ff⟩ := five_cells F2.out 2
  change u2.cell? ⟨w.heap.size + 1, 2, none⟩ = some (.int .i64 0) at cc
  clear A2 ey kk
  have J3 := hid (set_five (i := 2) F2.out (.int .i64 x3))
  have sk2 : Keeps [w.heap.size + 1] u2 (u2.setCell ⟨w.heap.size + 1, 2, none⟩ (.int .i64 x3)) := set_keep
  have D3 := hid ((sk2.block w.heap.size (by have := HU2.out; omega) (by simp)).trans G2.out)
  have E3 := hid (T2.out.later sk2 (by have := HW0.out; omega) (by have := HP.out; omega))
  have K3 := hid (KU2.out.trans' sk2 (fun i hi hm => by simp at hm; omega))
  have HS3 := hid (Nat.lt_of_lt_of_le HU2.out sk2.size)
  clear sk2
  go_wp2_with fail
  have A3 := E3.out.num 2
  rw [N4.out] at A3
  refine A3.mono ?_
  rintro e u3 ⟨rfl, ey, kk⟩
  have F3 := hid ((kk.block (w.heap.size + 1) (by have := HS3.out; omega) (by have := HP.out; simp; omega)).trans J3.out)
  have G3 := hid ((kk.block w.heap.size (by have := HS3.out; omega) (by have := HP.out; simp; omega)).trans D3.out)
  have T3 := hid ey
  have KU3 := hid ((K3.out.mono (S' := [p]) (by simp)).trans kk)
  have HU3 := hid (show w.heap.size + 1 < u3.heap.size by have := HS3.out; have := kk.size; omega)
  obtain ⟨cc, ff⟩ := five_cells F3.out 3
  change u3.cell? ⟨w.heap.size + 1, 3, none⟩ = some (.int .i64 0) at cc
  clear A3 ey kk
  have J4 := hid (set_five (i := 3) F3.out (.int .i64 x4))
  have sk3 : Keeps [w.heap.size + 1] u3 (u3.setCell ⟨w.heap.size + 1, 3, none⟩ (.int .i64 x4)) := set_keep
  have D4 := hid ((sk3.block w.heap.size (by have := HU3.out; omega) (by simp)).trans G3.out)
  have E4 := hid (T3.out.later sk3 (by have := HW0.out; omega) (by have := HP.out; omega))
  have K4 := hid (KU3.out.trans' sk3 (fun i hi hm => by simp at hm; omega))
  have HS4 := hid (Nat.lt_of_lt_of_le HU3.out sk3.size)
  clear sk3
  have R4 : Hid ((u3.setCell ⟨w.heap.size + 1, 3, none⟩ (.int .i64 x4)).rangeAt (w.heap.size + 1) 0 (KSz.cells ⟨x1, x2, x3, x4⟩)) := hid (range_ofN J4.out rfl)
  go_wp2_with fail
  obtain ⟨uz, huz⟩ : ∃ z, z = u3.setCell ⟨w.heap.size + 1, 3, none⟩ (.int .i64 x4) := ⟨_, rfl⟩
  rw [← huz] at R4 J4 D4 E4 K4 HS4 ⊢
  clear huz
  refine wp_region_any (by kernel_rfl) (wpAny_of_held (S := KpS [w.heap.size] uz.heap.size uz.drew) _ _ _ _ ?_)
  change wpAnyH _ _ _ _ _ _ _ _ uz.drew
  have s0 : KpS [w.heap.size] uz.heap.size uz.drew uz.drew := KpS.refl _ _ _
  have cR : ∀ W1, KpS [w.heap.size] uz.heap.size uz.drew W1 → W1.rangeAt (w.heap.size + 1) 0 (KSz.cells ⟨x1, x2, x3, x4⟩) := fun W1 h j u hu => h.cell (by rw [World.cell?_drew]; exact R4.out j u hu) HS4.out (by simp)
  refine held_take (i := 0) (v := KSz.v ⟨x1, x2, x3, x4⟩) rfl (by kernel_rfl) (by kernel_rfl) (by kernel_rfl) (fun _ _ _ h => h) rfl (fun W1 hW1 => exec_load _ _ _ _ rfl rfl (load_run cSz W1 (w.heap.size + 1) 0 ⟨x1, x2, x3, x4⟩ (cR W1 hW1))) (KpS.refl _ _ _) ?_
  simp only [Act.put, List.setIfInBounds_toArray, List.set_cons_zero, List.set_cons_succ]
  refine held_take (i := 1) (v := .pointer (some ⟨p, 0, none⟩)) rfl (by kernel_rfl) (by kernel_rfl) (by kernel_rfl) (fun _ _ _ h => h) rfl (fun W1 hW1 => rfl) (KpS.refl _ _ _) ?_
  simp only [Act.put, List.setIfInBounds_toArray, List.set_cons_zero, List.set_cons_succ]
  refine held_do (i := 2) (by kernel_rfl) rfl rfl (wp_enter (f := 110) (args := #[.pointer (some ⟨p, 0, none⟩)]) (by go_simp) (EyL.fail (E4.out.more (Keeps.refl [] uz).drew)) ?_)
  rintro e _ ⟨rfl, rfl⟩
  refine ⟨_, rfl, s0, ?_⟩
  simp only [Act.put, List.setIfInBounds_toArray, List.set_cons_zero, List.set_cons_succ]
  have hD : uz.drew.heap[w.heap.size]? = some (.cells (KSz.cells KSz.z).toArray 144 (0, 0)) := D4.out
  obtain ⟨q1, q2⟩ := setRow_keepsN (cs := (KSz.cells ⟨x1, x2, x3, x4⟩).toArray) hD
  refine held_do (i := 3) (by kernel_rfl) rfl rfl (wp_stored (exec_storeWhole 144 _ _ rfl w.heap.size (KSz.cells KSz.z).toArray (KSz.cells ⟨x1, x2, x3, x4⟩) hD rfl rfl rfl (by kernel_rfl) (oneSz _)) ⟨s0.keeps q2 (Nat.le_refl _) (fun i hi hlt => hi), ?_⟩)
  simp only [Act.put, List.setIfInBounds_toArray, List.set_cons_zero, List.set_cons_succ]
  refine held_take (i := 4) (v := .int .i64 s4.2) rfl (by kernel_rfl) (by kernel_rfl) (by kernel_rfl) (fun _ _ _ h => h) rfl (fun W1 hW1 => rfl) (s0.keeps q2 (Nat.le_refl _) (fun i hi hlt => hi)) ?_
  simp only [Act.put, List.setIfInBounds_toArray, List.set_cons_zero, List.set_cons_succ]
  refine wpAnyH_done (by kernel_rfl) ?_ _
  go_wp2_with fail
  refine bodyPost_ret (two_retT cSz (x := ⟨x1, x2, x3, x4⟩) rfl rfl rfl (range_ofN q1 rfl)) rfl ?_
  refine ⟨⟨x1, x2, x3, x4⟩, s4.2, rfl, (K4.out.drew).trans' q2 (fun i hi hm => by simp at hm; omega), by rw [EG.out], fun _ => ⟨by rw [EG.out], ?_⟩⟩
  rw [EG.out]
  exact (E4.out.more (Keeps.refl [] uz).drew).later q2 HW0.out (by have := HP.out; omega)
set_option maxHeartbeats 12800000 in
theorem ntGet1E_any {w0 : World} (w : World) (B p : Nat) (v : Value) (st : PSt) (h : EyL w0 w B p v st) (hw0 : w0.heap.size ≤ w.heap.size) :
    Calls Try.prog 132 #[.pointer (some ⟨p, 0, none⟩)] w (OnePost KEnt enC.g w0 w B p v st) := by
  have HW0 := hid hw0
  have hpw := h.lt
  have k1 : Keeps [] w (w.alloc (.cells (KEnt.cells KEnt.z).toArray 102)) := (Keeps.refl [] w).alloc _
  have k2 : Keeps [] w ((w.alloc (.cells (KEnt.cells KEnt.z).toArray 102)).alloc (.cells (KEnt.cells KEnt.z).toArray 102)) := k1.alloc _
  have E0 := hid (h.more k2)
  have D0 : Hid (((w.alloc (.cells (KEnt.cells KEnt.z).toArray 102)).alloc (.cells (KEnt.cells KEnt.z).toArray 102)).heap[w.heap.size]? = some (.cells (KEnt.cells KEnt.z).toArray 102 (0, 0))) := hid (((Keeps.refl [] (w.alloc (.cells (KEnt.cells KEnt.z).toArray 102))).alloc _).block _ (by simp) (by simp) |>.trans (heap_alloc_new w _))
  have b3 := heap_alloc_new (w.alloc (.cells (KEnt.cells KEnt.z).toArray 102)) (.cells (KEnt.cells KEnt.z).toArray 102)
  rw [World.size_alloc] at b3
  have J0 := hid b3
  have K0 := hid k2
  have HP := hid hpw
  have HS0 := hid (show w.heap.size + 1 < ((w.alloc (.cells (KEnt.cells KEnt.z).toArray 102)).alloc (.cells (KEnt.cells KEnt.z).toArray 102)).heap.size by simp)
  obtain ⟨x1, s1, e1⟩ : ∃ x s, txE st = (x, s) := ⟨_, _, rfl⟩
  obtain ⟨x2, s2, e2⟩ : ∃ x s, numE 2 s1 = (x, s) := ⟨_, _, rfl⟩
  obtain ⟨x3, s3, e3⟩ : ∃ x s, boolE s2 = (x, s) := ⟨_, _, rfl⟩
  have EG : Hid (enC.g st = ((⟨x1, x2, x3⟩ : Ent), s3)) := hid (by
    have f1 : enC.g st = (⟨(txE st).1, (numE 2 (txE st).2).1, (boolE (numE 2 (txE st).2).2).1⟩, (boolE (numE 2 (txE st).2).2).2) := rfl
    rw [f1]
    simp only [e1, e2, e3])
  have N1 := hid e1
  have N2 := hid e2
  have N3 := hid e3
  clear h hw0 k1 k2 b3 hpw e1 e2 e3
  go_enter Try.func132, Try.ntmps132
  go_wp2_with (first | (refine wpList_allocT cEnt rfl rfl ?_) | fail)
  have A0 := E0.out.text
  rw [N1.out] at A0
  refine A0.mono ?_
  rintro e u0 ⟨rfl, ey, kk⟩
  have F0 := hid ((kk.block (w.heap.size + 1) (by have := HS0.out; omega) (by have := HP.out; simp; omega)).trans J0.out)
  have G0 := hid ((kk.block w.heap.size (by have := HS0.out; omega) (by have := HP.out; simp; omega)).trans D0.out)
  have T0 := hid ey
  have KU0 := hid ((K0.out.mono (S' := [p]) (by simp)).trans kk)
  have HU0 := hid (show w.heap.size + 1 < u0.heap.size by have := HS0.out; have := kk.size; omega)
  obtain ⟨cc, ff⟩ := five_cells F0.out 0
  change u0.cell? ⟨w.heap.size + 1, 0, none⟩ = some (.string ⟨#[]⟩) at cc
  clear A0 ey kk
  have J1 := hid (set_five (i := 0) F0.out (.string x1))
  have sk0 : Keeps [w.heap.size + 1] u0 (u0.setCell ⟨w.heap.size + 1, 0, none⟩ (.string x1)) := set_keep
  have D1 := hid ((sk0.block w.heap.size (by have := HU0.out; omega) (by simp)).trans G0.out)
  have E1 := hid (T0.out.later sk0 (by have := HW0.out; omega) (by have := HP.out; omega))
  have K1 := hid (KU0.out.trans' sk0 (fun i hi hm => by simp at hm; omega))
  have HS1 := hid (Nat.lt_of_lt_of_le HU0.out sk0.size)
  clear sk0
  go_wp2_with fail
  have A1 := E1.out.num 2
  rw [N2.out] at A1
  refine A1.mono ?_
  rintro e u1 ⟨rfl, ey, kk⟩
  have F1 := hid ((kk.block (w.heap.size + 1) (by have := HS1.out; omega) (by have := HP.out; simp; omega)).trans J1.out)
  have G1 := hid ((kk.block w.heap.size (by have := HS1.out; omega) (by have := HP.out; simp; omega)).trans D1.out)
  have T1 := hid ey
  have KU1 := hid ((K1.out.mono (S' := [p]) (by simp)).trans kk)
  have HU1 := hid (show w.heap.size + 1 < u1.heap.size by have := HS1.out; have := kk.size; omega)
  obtain ⟨cc, ff⟩ := five_cells F1.out 1
  change u1.cell? ⟨w.heap.size + 1, 1, none⟩ = some (.int .i64 0) at cc
  clear A1 ey kk
  have J2 := hid (set_five (i := 1) F1.out (.int .i64 x2))
  have sk1 : Keeps [w.heap.size + 1] u1 (u1.setCell ⟨w.heap.size + 1, 1, none⟩ (.int .i64 x2)) := set_keep
  have D2 := hid ((sk1.block w.heap.size (by have := HU1.out; omega) (by simp)).trans G1.out)
  have E2 := hid (T1.out.later sk1 (by have := HW0.out; omega) (by have := HP.out; omega))
  have K2 := hid (KU1.out.trans' sk1 (fun i hi hm => by simp at hm; omega))
  have HS2 := hid (Nat.lt_of_lt_of_le HU1.out sk1.size)
  clear sk1
  go_wp2_with fail
  have A2 := E2.out.bool
  rw [N3.out] at A2
  refine A2.mono ?_
  rintro e u2 ⟨rfl, ey, kk⟩
  have F2 := hid ((kk.block (w.heap.size + 1) (by have := HS2.out; omega) (by have := HP.out; simp; omega)).trans J2.out)
  have G2 := hid ((kk.block w.heap.size (by have := HS2.out; omega) (by have := HP.out; simp; omega)).trans D2.out)
  have T2 := hid ey
  have KU2 := hid ((K2.out.mono (S' := [p]) (by simp)).trans kk)
  have HU2 := hid (show w.heap.size + 1 < u2.heap.size by have := HS2.out; have := kk.size; omega)
  obtain ⟨cc, ff⟩ := five_cells F2.out 2
  change u2.cell? ⟨w.heap.size + 1, 2, none⟩ = some (.bool false) at cc
  clear A2 ey kk
  have J3 := hid (set_five (i := 2) F2.out (.bool x3))
  have sk2 : Keeps [w.heap.size + 1] u2 (u2.setCell ⟨w.heap.size + 1, 2, none⟩ (.bool x3)) := set_keep
  have D3 := hid ((sk2.block w.heap.size (by have := HU2.out; omega) (by simp)).trans G2.out)
  have E3 := hid (T2.out.later sk2 (by have := HW0.out; omega) (by have := HP.out; omega))
  have K3 := hid (KU2.out.trans' sk2 (fun i hi hm => by simp at hm; omega))
  have HS3 := hid (Nat.lt_of_lt_of_le HU2.out sk2.size)
  clear sk2
  have R3 : Hid ((u2.setCell ⟨w.heap.size + 1, 2, none⟩ (.bool x3)).rangeAt (w.heap.size + 1) 0 (KEnt.cells ⟨x1, x2, x3⟩)) := hid (range_ofN J3.out rfl)
  go_wp2_with fail
  obtain ⟨uz, huz⟩ : ∃ z, z = u2.setCell ⟨w.heap.size + 1, 2, none⟩ (.bool x3) := ⟨_, rfl⟩
  rw [← huz] at R3 J3 D3 E3 K3 HS3 ⊢
  clear huz
  refine wp_region_any (by kernel_rfl) (wpAny_of_held (S := KpS [w.heap.size] uz.heap.size uz.drew) _ _ _ _ ?_)
  change wpAnyH _ _ _ _ _ _ _ _ uz.drew
  have s0 : KpS [w.heap.size] uz.heap.size uz.drew uz.drew := KpS.refl _ _ _
  have cR : ∀ W1, KpS [w.heap.size] uz.heap.size uz.drew W1 → W1.rangeAt (w.heap.size + 1) 0 (KEnt.cells ⟨x1, x2, x3⟩) := fun W1 h j u hu => h.cell (by rw [World.cell?_drew]; exact R3.out j u hu) HS3.out (by simp)
  refine held_take (i := 0) (v := KEnt.v ⟨x1, x2, x3⟩) rfl (by kernel_rfl) (by kernel_rfl) (by kernel_rfl) (fun _ _ _ h => h) rfl (fun W1 hW1 => exec_load _ _ _ _ rfl rfl (load_run cEnt W1 (w.heap.size + 1) 0 ⟨x1, x2, x3⟩ (cR W1 hW1))) (KpS.refl _ _ _) ?_
  simp only [Act.put, List.setIfInBounds_toArray, List.set_cons_zero, List.set_cons_succ]
  refine held_take (i := 1) (v := .pointer (some ⟨p, 0, none⟩)) rfl (by kernel_rfl) (by kernel_rfl) (by kernel_rfl) (fun _ _ _ h => h) rfl (fun W1 hW1 => rfl) (KpS.refl _ _ _) ?_
  simp only [Act.put, List.setIfInBounds_toArray, List.set_cons_zero, List.set_cons_succ]
  refine held_do (i := 2) (by kernel_rfl) rfl rfl (wp_enter (f := 110) (args := #[.pointer (some ⟨p, 0, none⟩)]) (by go_simp) (EyL.fail (E3.out.more (Keeps.refl [] uz).drew)) ?_)
  rintro e _ ⟨rfl, rfl⟩
  refine ⟨_, rfl, s0, ?_⟩
  simp only [Act.put, List.setIfInBounds_toArray, List.set_cons_zero, List.set_cons_succ]
  have hD : uz.drew.heap[w.heap.size]? = some (.cells (KEnt.cells KEnt.z).toArray 102 (0, 0)) := D3.out
  obtain ⟨q1, q2⟩ := setRow_keepsN (cs := (KEnt.cells ⟨x1, x2, x3⟩).toArray) hD
  refine held_do (i := 3) (by kernel_rfl) rfl rfl (wp_stored (exec_storeWhole 102 _ _ rfl w.heap.size (KEnt.cells KEnt.z).toArray (KEnt.cells ⟨x1, x2, x3⟩) hD rfl rfl rfl (by kernel_rfl) (oneEnt _)) ⟨s0.keeps q2 (Nat.le_refl _) (fun i hi hlt => hi), ?_⟩)
  simp only [Act.put, List.setIfInBounds_toArray, List.set_cons_zero, List.set_cons_succ]
  refine held_take (i := 4) (v := .int .i64 s3.2) rfl (by kernel_rfl) (by kernel_rfl) (by kernel_rfl) (fun _ _ _ h => h) rfl (fun W1 hW1 => rfl) (s0.keeps q2 (Nat.le_refl _) (fun i hi hlt => hi)) ?_
  simp only [Act.put, List.setIfInBounds_toArray, List.set_cons_zero, List.set_cons_succ]
  refine wpAnyH_done (by kernel_rfl) ?_ _
  go_wp2_with fail
  refine bodyPost_ret (two_retT cEnt (x := ⟨x1, x2, x3⟩) rfl rfl rfl (range_ofN q1 rfl)) rfl ?_
  refine ⟨⟨x1, x2, x3⟩, s3.2, rfl, (K3.out.drew).trans' q2 (fun i hi hm => by simp at hm; omega), by rw [EG.out], fun _ => ⟨by rw [EG.out], ?_⟩⟩
  rw [EG.out]
  exact (E3.out.more (Keeps.refl [] uz).drew).later q2 HW0.out (by have := HP.out; omega)
def KDl : Kn Dl := ⟨Dl.cells, 14, dZ⟩
theorem ntGet1D_any {w0 : World} (w : World) (B p : Nat) (v : Value) (st : PSt) (h : EyL w0 w B p v st) (hw0 : w0.heap.size ≤ w.heap.size) :
    Calls Try.prog 149 #[.pointer (some ⟨p, 0, none⟩)] w (OnePost KDl dlC.g w0 w B p v st) := by
  refine (dGet_any w B p v st h hw0).mono ?_
  rintro e w' ⟨rfl, h2, k2⟩
  obtain ⟨e1, e2⟩ := getC_is (st := st)
  refine ⟨(getO (getC st)).1, (getO (getC st)).2, rfl, k2, ?_, ?_⟩
  · show _ = (finD (getD st)).2
    by_cases hz : (getD st).2.2 = 0
    · rw [e2 hz]
      cases hm : mayL (getD st).1 with
      | true => rw [getO_good hz hm]; unfold finD; rw [hm]; show _ = (formW _ false).2; rw [formW_no, hz]
      | false => rw [getO_form hz hm]; unfold finD formW; rw [hm, if_pos ⟨rfl, hz⟩]
    · rw [getO_fail (by rw [e1]; exact hz), e1]
      unfold finD
      rw [formW_stay hz]
  · intro h0
    show (getO (getC st)).1 = (getD st).1 ∧ EyL w0 w' B p v (finD (getD st))
    by_cases hz : (getD st).2.2 = 0
    · rw [e2 hz] at h0 h2 ⊢
      cases hm : mayL (getD st).1 with
      | true =>
        rw [getO_good hz hm]
        refine ⟨rfl, ?_⟩
        unfold finD
        rw [hm]
        show EyL w0 w' B p v (formW _ false)
        rw [formW_no]
        exact h2
      | false => rw [getO_form hz hm] at h0; cases h0
    · rw [getO_fail (by rw [e1]; exact hz), e1] at h0
      exact absurd h0 hz
end Go.Proofs.Ytoglcohdanpciaa
