/- Slots: a head is read; what gives up is caught. -/
import Derived.Test.YtnhcfkiejldicaaGreatSlB
namespace Go.Proofs.YtnhcfkiejldicaaGreat
open Go.RowKit Go.Shelf

/-! A head is stored. -/
theorem setHd_block {w : World} {b o : Nat} {c : Array Value} {T : TypeId} (h : Hd) (hb : w.heap[b]? = some (.cells c T (0, 0))) :
    (w.setCells b o h.cells).heap[b]? = some (.cells (((c.setIfInBounds o (.bool h.used)).setIfInBounds (o + 1) (.int .i64 h.held)).setIfInBounds (o + 2) (.string (strOfNums h.key))) T (0, 0)) :=
  heap_setCell_same _ b (o + 1 + 1) _ _ _ (heap_setCell_same _ b (o + 1) _ _ _ (heap_setCell_same w b o _ _ _ hb))
theorem setHd_other (w : World) (b o : Nat) (h : Hd) {k : Nat} (hk : k ≠ b) : (w.setCells b o h.cells).heap[k]? = w.heap[k]? := by
  show (((w.setCell _ _).setCell _ _).setCell _ _).heap[k]? = _
  rw [Below.heap_setCell _ _ _ _ hk, Below.heap_setCell _ _ _ _ hk, Below.heap_setCell _ _ _ _ hk]
theorem setHd_keeps {S : List Nat} {w w' : World} (k : Keeps S w w') {b o : Nat} (h : Hd) (hb : b ∈ S ∨ w.heap.size ≤ b) : Keeps S w (w'.setCells b o h.cells) :=
  ((k.setCell hb _).setCell hb _).setCell hb _
theorem setHd_three {w : World} {b : Nat} {x y z : Value} {T : TypeId} (h : Hd) (hb : w.heap[b]? = some (.cells #[x, y, z] T (0, 0))) : (w.setCells b 0 h.cells).heap[b]? = some (.cells h.cells.toArray T (0, 0)) := by
  rw [setHd_block h hb]; rfl
theorem hdsC_set3 : ∀ (hs : List Hd) (i : Nat) (h : Hd), i < hs.length → (((hdsC hs).set (i * 3) (.bool h.used)).set (i * 3 + 1) (.int .i64 h.held)).set (i * 3 + 2) (.string (strOfNums h.key)) = hdsC (hs.set i h)
  | [], _, _, h => by simp at h
  | x :: l, 0, h, _ => rfl
  | x :: l, i + 1, h, hi => by
    have ih := hdsC_set3 l i h (by simpa using hi)
    have e : hdsC (x :: l) = .bool x.used :: .int .i64 x.held :: .string (strOfNums x.key) :: hdsC l := rfl
    have e2 : hdsC ((x :: l).set (i + 1) h) = .bool x.used :: .int .i64 x.held :: .string (strOfNums x.key) :: hdsC (l.set i h) := rfl
    have e3 : (i + 1) * 3 = i * 3 + 1 + 1 + 1 := by omega
    rw [e, e2, e3, ← ih]
    rfl
theorem setHd_hds {w : World} {b i : Nat} {hs : List Hd} {T : TypeId} (h : Hd) (hi : i < hs.length) (hb : w.heap[b]? = some (.cells (hdsC hs).toArray T (0, 0))) :
    (w.setCells b (i * 3) h.cells).heap[b]? = some (.cells (hdsC (hs.set i h)).toArray T (0, 0)) := by
  rw [setHd_block h hb, ← hdsC_set3 hs i h hi]
  simp

section
variable {ops : Array Oper} {rest : List Oper} {o : Oper} {a : Act} {w : World} {Q : Exit → Act → World → Prop}
theorem wpList_storeHd (hgd : o.guard = none) (x y : Operand) (ho : o.op = .store 100 x y) (b off : Nat) (h : Hd) (hx : a.eval x = .pointer (some ⟨b, off, none⟩)) (hy : a.eval y = hdV h) (ht : w.there b off 3)
    (hk : wpList Tryz.prog ops Q rest (a.put o.dst undef) (w.setCells b off h.cells)) : wpList Tryz.prog ops Q (o :: rest) a w :=
  wpList_store_mid hgd 100 x y ho b off h.cells.toArray hx hy ht (by rw [sHd]; rfl) h.one hk
end
theorem there_of {w : World} {b : Nat} {c : Array Value} {T : TypeId} (hb : w.heap[b]? = some (.cells c T (0, 0))) (off n : Nat) (hn : off + n ≤ c.size) : w.there b off n := fun j hj => by
  have hs : off + j < c.size := by omega
  exact ⟨by simp [World.cell?, hb, hs], by simp [World.frozen?, hb]⟩

/-- What a first sector says: no head (none), or a head. -/
def hdOf (zs : List Int) : Option Hd :=
  match rdBool zs with
  | .error _ => none
  | .ok (false, r) => if allZ r then some hd0 else none
  | .ok (true, r) => match rdHeld r with
    | .error _ => none
    | .ok (n, r) => match rdCount 40 r with
      | .error _ => none
      | .ok (k, r) => if allZ r then some ⟨true, n.toNat, k⟩ else none
def hdE (zs : List Int) : Int := if (hdOf zs).isSome then 0 else 4
def hdG (zs : List Int) : Hd := (hdOf zs).getD hd0

theorem run_buildHd0 (w : World) : (Instr.build 100 #[]).run Tryz.prog w = .ok (hdV hd0) w := by kernel_rfl

set_option maxHeartbeats 400000 in
theorem catchHd_panicking (hb eb : Nat) (x y z u : Value) (why : Int) (older : List PanicEntry) (w : World) (h1 : w.heap[hb]? = some (.cells #[x, y, z] 100 (0, 0))) (h2 : w.heap[eb]? = some (.cells #[u] 25 (0, 0))) (hne : hb ≠ eb) :
    CallsD Tryz.prog 92 #[.pointer (some ⟨hb, 0, none⟩), .pointer (some ⟨eb, 0, none⟩)] (.panicking ({ v := .iface 25 (.int .i64 why), recovered := false } :: older)) w fun e u' w' =>
      e = .returned (.tuple #[]) ∧ u' = .panicking ({ v := .iface 25 (.int .i64 why), recovered := true } :: older) ∧ w' = (w.setCells hb 0 hd0.cells).setCell ⟨eb, 0, none⟩ (.int .i64 4) := by
  refine callsD_of_wpS Tryz.func92 rfl fun c₀ cs hu => ?_
  simp only [Tryz.ntmps92, List.size_toArray, List.length_cons, List.length_nil, Nat.reduceAdd, Nat.reduceSub, Array.replicate_succ,
     Array.replicate_zero, List.push_toArray, List.append_toArray, List.nil_append, List.cons_append]
  have hrec : recoverD (c₀ :: cs) = some (.iface 25 (.int .i64 why), { c₀ with mode := .panicking ({ v := .iface 25 (.int .i64 why), recovered := true } :: older) } :: cs) := by
    simp only [recoverD, hu]
  have hth := there_of h1 0 3 (by simp)
  have f1 : (w.setCells hb 0 hd0.cells).frozen? ⟨eb, 0, none⟩ = false := by simp [World.frozen?, setHd_other w hb 0 hd0 (fun e => hne e.symm), h2]
  have c1 : (w.setCells hb 0 hd0.cells).cell? ⟨eb, 0, none⟩ = some u := by simp [World.cell?, setHd_other w hb 0 hd0 (fun e => hne e.symm), h2]
  refine wpS_recover_lit rfl rfl (Or.inl hrec) ?_
  simp only [Act.put]
  go_wp2_with (first | (refine wpList_storeHd rfl _ _ rfl hb 0 hd0 rfl rfl hth ?_) | fail)
  exact ⟨rfl, _, rfl, .tuple #[], results_none rfl _ _ _, rfl, rfl, rfl⟩

set_option maxHeartbeats 400000 in
theorem catchHd_idle (p q : Addr) (w : World) :
    CallsD Tryz.prog 92 #[.pointer (some p), .pointer (some q)] .returning w fun e u' w' => e = .returned (.tuple #[]) ∧ u' = .returning ∧ w' = w := by
  refine callsD_of_wpS Tryz.func92 rfl fun c₀ cs hu => ?_
  simp only [Tryz.ntmps92, List.size_toArray, List.length_cons, List.length_nil, Nat.reduceAdd, Nat.reduceSub, Array.replicate_succ,
     Array.replicate_zero, List.push_toArray, List.append_toArray, List.nil_append, List.cons_append]
  have hrec : recoverD (c₀ :: cs) = none := by simp only [recoverD, hu]
  refine wpS_recover_lit rfl rfl (Or.inr ⟨hrec, rfl, rfl⟩) ?_
  simp only [Act.put]
  go_wp2_with fail
  refine ⟨rfl, .returning, ?_, .tuple #[], results_none rfl _ _ _, rfl, rfl, rfl⟩
  rw [← hu]

theorem results_cells2 {fn : Func} {p q : Tmp} {t u : TypeId} (h : fn.results = #[.cell p t, .cell q u]) (tmps : Array Value) (w : World) (a b : Addr) (x y : Value) (hp : tmps.getD p undef = .pointer (some a)) (hq : tmps.getD q undef = .pointer (some b))
    (hx : (loadVar t a).run Tryz.prog w = .ok x w) (hy : (loadVar u b).run Tryz.prog w = .ok y w) : (results fn tmps).run Tryz.prog w = .ok (.tuple #[x, y]) w := by
  have hp' : tmps[p]?.getD undef = .pointer (some a) := by simpa using hp
  have hq' : tmps[q]?.getD undef = .pointer (some b) := by simpa using hq
  simp [results, h, hp', hq', asAddr, hx, hy, Result.andThen]
theorem loadHd_var {w : World} {b : Nat} {h : Hd} {T : TypeId} (hb : w.heap[b]? = some (.cells h.cells.toArray T (0, 0))) : (loadVar 100 ⟨b, 0, none⟩).run Tryz.prog w = .ok (hdV h) w :=
  run_loadVar_mid w b 0 100 h.cells _ (fun j u hu => by rw [Nat.zero_add, cell_of_row w b j _ _ (0, 0) hb]; simpa using hu) uHd rfl (by rw [sHd]; rfl)
theorem loadErr_var {w : World} {b : Nat} {x : Int} (hb : w.cell? ⟨b, 0, none⟩ = some (.int .i64 x)) : (loadVar 25 ⟨b, 0, none⟩).run Tryz.prog w = .ok (.int .i64 x) w := by
  simp [loadVar, agg_no 25 (by kernel_rfl), hb, Result.andThen]

/-- While a head is read: its three cells, the error, the eye. -/
structure RH (w : World) (q be : Nat) (x y z : Value) (v : Value) (rest : List Int) (W : World) : Prop where
  h : W.heap[w.heap.size]? = some (.cells #[x, y, z] 100 (0, 0))
  e : W.heap[w.heap.size + 1]? = some (.cells #[.int .i64 0] 25 (0, 0))
  c : W.cell? ⟨be, 0, none⟩ = some (.pointer (some ⟨q, 0, none⟩))
  eye : EyeAt W 0 q v rest 0
  low : ∀ ad n c, v = .slice (some ad) n c → w.heap.size + 2 ≤ ad.block
  k : Keeps [] w W
  at_ : w.heap.size + 2 ≤ q ∧ w.heap.size + 2 ≤ be ∧ be ≠ q

section
variable {w : World} {q be : Nat} {x y z v v2 : Value} {rest rest2 : List Int} {W W' : World}
theorem RH.read (H : RH w q be x y z v rest W) (k : Keeps [q] W W') (h : EyeAt W' 0 q v2 rest2 0) (sb : SameBlk v v2) : RH w q be x y z v2 rest2 W' := by
  obtain ⟨a1, a2, a3⟩ := H.at_
  refine ⟨(k.block _ (lt_of_block H.h) (by simp; omega)).trans H.h, (k.block _ (lt_of_block H.e) (by simp; omega)).trans H.e, k.cell H.c (by simp; omega), h, fun ad n c e => ?_, H.k.trans' k (fun i hi hm => by simp at hm; omega), H.at_⟩
  obtain ⟨ad', n', c', e', h'⟩ := sb ad n c e
  rw [← h']
  exact H.low ad' n' c' e'
theorem RH.put (H : RH w q be x y z v rest W) (j : Nat) (u x' y' z' : Value) (hu : (#[x, y, z] : Array Value).setIfInBounds j u = #[x', y', z']) : RH w q be x' y' z' v rest (W.setCell ⟨w.heap.size, j, none⟩ u) := by
  obtain ⟨a1, a2, a3⟩ := H.at_
  have k : Keeps [w.heap.size] W (W.setCell ⟨w.heap.size, j, none⟩ u) := (Keeps.refl _ _).setCell (Or.inl (by simp)) _
  refine ⟨by rw [heap_setCell_same _ _ _ _ _ _ H.h, hu], (Below.heap_setCell _ _ _ _ (show w.heap.size + 1 ≠ w.heap.size by omega)).trans H.e, k.cell H.c (by simp; omega), H.eye.keep k (by simp; omega) (fun ad n c e _ hm => ?_), H.low, H.k.setCell (Or.inr (Nat.le_refl _)) _, H.at_⟩
  have := H.low ad n c e
  simp at hm
  omega
theorem RH.fz (H : RH w q be x y z v rest W) (j : Nat) : W.frozen? ⟨w.heap.size, j, none⟩ = false := by simp [World.frozen?, H.h]
theorem RH.c0 (H : RH w q be x y z v rest W) : W.cell? ⟨w.heap.size, 0, none⟩ = some x := by simp [World.cell?, H.h]
theorem RH.c1 (H : RH w q be x y z v rest W) : W.cell? ⟨w.heap.size, 1, none⟩ = some y := by simp [World.cell?, H.h]
theorem RH.c2 (H : RH w q be x y z v rest W) : W.cell? ⟨w.heap.size, 2, none⟩ = some z := by simp [World.cell?, H.h]
theorem RH.e0 (H : RH w q be x y z v rest W) : W.cell? ⟨w.heap.size + 1, 0, none⟩ = some (.int .i64 0) := by simp [World.cell?, H.e]
theorem RH.fe (H : RH w q be x y z v rest W) : W.frozen? ⟨w.heap.size + 1, 0, none⟩ = false := by simp [World.frozen?, H.e]
end

theorem rdHeld_pos {zs r1 r2 : List Int} {b : Bool} {n : Int} (hb : ∀ z ∈ zs, 0 ≤ z ∧ z ≤ 255) (h1 : rdBool zs = .ok (b, r1)) (h2 : rdHeld r1 = .ok (n, r2)) : 0 ≤ n := by
  have e1 : r1 = zs.drop 1 := by
    unfold rdBool at h1
    split at h1
    · cases h1
    · split at h1
      · cases h1
      · injection h1 with h1; injection h1 with _ h1; exact h1.symm
  unfold rdHeld at h2
  split at h2
  · cases h2
  · rename_i m rr hm
    split at h2
    · cases h2
    · injection h2 with h2
      injection h2 with h2 _
      subst h2
      unfold rdNum at hm
      split at hm
      · cases hm
      · split at hm
        · cases hm
        · injection hm with hm
          injection hm with hm _
          rw [← hm]
          refine (val_bound _ _ rfl fun z hz => hb z ?_).1
          rw [e1] at hz
          exact List.mem_of_mem_drop (List.mem_of_mem_take hz)

set_option maxRecDepth 100000 in
set_option maxHeartbeats 6400000 in
theorem readHead_any (w : World) (v : Value) (zs : List Int) (h : RowAt w v zs) (hl : zs.length ≤ 64) :
    Calls Tryz.prog 77 #[v] w fun e w' => e = .returned (.tuple #[hdV (hdG zs), .int .i64 (hdE zs)]) ∧ Keeps [] w w' := by
  have HR := hid h
  have HB := hid h.bytes
  clear h
  go_enter_defers Tryz.func77, Tryz.ntmps77
  go_wp2_with fail
  have K1 := hid (((Keeps.refl [] w).alloc (.cells #[.bool false, .int .i64 0, .string ⟨#[]⟩] 100)).alloc (.cells #[.int .i64 0] 25))
  have g1 := heap_alloc2_old w (.cells #[.bool false, .int .i64 0, .string ⟨#[]⟩] 100) (.cells #[.int .i64 0] 25)
  have g2 := heap_alloc2_new w (.cells #[.bool false, .int .i64 0, .string ⟨#[]⟩] 100) (.cells #[.int .i64 0] 25)
  have z1 : ((w.alloc (.cells #[.bool false, .int .i64 0, .string ⟨#[]⟩] 100)).alloc (.cells #[.int .i64 0] 25)).heap.size = w.heap.size + 2 := by simp
  generalize (w.alloc (.cells #[.bool false, .int .i64 0, .string ⟨#[]⟩] 100)).alloc (.cells #[.int .i64 0] 25) = w1 at K1 g1 g2 z1 ⊢
  refine (newEye_any w1 0 v zs (HR.out.keep K1.out (by intro _ _ _ _ _; simp)) (Nat.zero_le _) (by omega)).mono ?_
  rintro e w2 ⟨q, ev, rfl, hq, he, k2, hlow⟩
  have z2 : w1.heap.size ≤ w2.heap.size := k2.size
  have a1 := (k2.block w.heap.size (by omega) (by simp)).trans g1
  have a2 := (k2.block (w.heap.size + 1) (by omega) (by simp)).trans g2
  have E2 := hid he
  have A1 := hid a1
  have A2 := hid a2
  have K2 := hid (K1.out.trans k2)
  have LW := hid hlow
  have hq2 := he.lt
  clear he a1 a2 k2 g1 g2 K1 hlow
  go_wp2_with fail
  have HA : RH w q w2.heap.size (.bool false) (.int .i64 0) (.string ⟨#[]⟩) ev zs (w2.alloc (.cells #[.pointer (some ⟨q, 0, none⟩)] 141)) :=
    ⟨(Below.heap_alloc w2 _ w.heap.size (by omega)).trans A1.out, (Below.heap_alloc w2 _ (w.heap.size + 1) (by omega)).trans A2.out, cell_of_one (heap_alloc_new w2 _),
      E2.out.keep ((Keeps.refl [] w2).alloc _) (by simp) (by intro _ _ _ _ _; simp), fun ad n c e => by have := LW.out ad n c e; omega, K2.out.alloc _, by omega, by omega, by omega⟩
  have hA := hid HA
  clear HA A1 A2 K2 E2 LW
  generalize w2.alloc (.cells #[.pointer (some ⟨q, 0, none⟩)] 141) = w3 at hA ⊢
  generalize w2.heap.size = be at hA ⊢
  clear hq2 z2 hq z1
  refine (eUsed_any w3 0 q ev zs hA.out.eye).mono ?_
  rintro e w4 ⟨k4, hm⟩
  have k4' := hid k4
  clear k4
  generalize hr : rdBool zs = r at hm
  have R1 := hid hr
  clear hr
  cases r with
  | error why =>
    obtain rfl := hm
    have h4 : RH w q be (.bool false) (.int .i64 0) (.string ⟨#[]⟩) ev zs w3 := hA.out
    have hh : w4.heap[w.heap.size]? = some (.cells #[.bool false, .int .i64 0, .string ⟨#[]⟩] 100 (0, 0)) := (k4'.out.block _ (lt_of_block h4.h) (by have := h4.at_; simp; omega)).trans h4.h
    have ee : w4.heap[w.heap.size + 1]? = some (.cells #[.int .i64 0] 25 (0, 0)) := (k4'.out.block _ (lt_of_block h4.e) (by have := h4.at_; simp; omega)).trans h4.e
    have KK : Keeps [] w w4 := h4.k.trans' k4'.out (fun i hi hm => by have := h4.at_; simp at hm; omega)
    have H4 : Hid (_ ∧ _ ∧ _) := hid ⟨hh, ee, KK⟩
    clear h4 hh ee KK k4' hA
    unfold gaveUp
    go_wp2_with fail
    refine leaves_cons (f := 92) (args := #[.pointer (some ⟨w.heap.size, 0, none⟩), .pointer (some ⟨w.heap.size + 1, 0, none⟩)]) (by simp) (by simp [go_sem]) ?_
    refine (catchHd_panicking w.heap.size (w.heap.size + 1) _ _ _ _ _ [] w4 H4.out.1 H4.out.2.1 (by omega)).mono ?_
    rintro e u' w9 ⟨rfl, rfl, rfl⟩
    have hn : hdOf zs = none := by unfold hdOf; rw [R1.out]
    refine ⟨_, results_cells2 rfl _ _ ⟨w.heap.size, 0, none⟩ ⟨w.heap.size + 1, 0, none⟩ _ _ rfl rfl (loadHd_var (h := hd0) ((Below.heap_setCell _ _ _ _ (by simp)).trans (setHd_three hd0 H4.out.1))) (loadErr_var (x := 4) (cell_of_one (heap_setCell_same _ _ _ _ _ _ ((setHd_other _ _ _ _ (by omega)).trans H4.out.2.1)))), ?_, (setHd_keeps H4.out.2.2 hd0 (Or.inr (Nat.le_refl _))).setCell (Or.inr (by simp)) _⟩
    simp [hdG, hdE, hn]
  | ok xr =>
    obtain ⟨x, r1⟩ := xr
    obtain ⟨rfl, v4, e4, sb4⟩ := hm
    have h4 := hA.out.read k4'.out e4 sb4
    have f0 := h4.fz 0
    have c0 := h4.c0
    cases x with
    | false =>
      have h5 := h4.put 0 (.bool false) (.bool false) (.int .i64 0) (.string ⟨#[]⟩) rfl
      have c5 := h5.c
      have H5 := hid h5
      clear h4 h5 e4 sb4 k4' hA
      go_wp2_with fail
      clear c0 f0 c5
      generalize w4.setCell ⟨w.heap.size, 0, none⟩ (.bool false) = w5 at H5 ⊢
      refine (eNou_any w5 0 q v4 r1 H5.out.eye).mono ?_
      rintro e w6 ⟨rfl, k6⟩
      have h5 := H5.out
      have hh : w6.heap[w.heap.size]? = some (.cells #[.bool false, .int .i64 0, .string ⟨#[]⟩] 100 (0, 0)) := (k6.block _ (lt_of_block h5.h) (by have := h5.at_; simp; omega)).trans h5.h
      have ee : w6.heap[w.heap.size + 1]? = some (.cells #[.int .i64 0] 25 (0, 0)) := (k6.block _ (lt_of_block h5.e) (by have := h5.at_; simp; omega)).trans h5.e
      have KK : Keeps [] w w6 := h5.k.trans' k6 (fun i hi hm => by have := h5.at_; simp at hm; omega)
      have H6 : Hid (_ ∧ _ ∧ _) := hid ⟨hh, ee, KK⟩
      clear h5 hh ee KK k6 H5
      unfold nouE
      by_cases hz : allZ r1 = true
      · rw [if_pos hz]
        have HZ := hid hz
        clear hz
        have hth := there_of H6.out.1 0 3 (by simp)
        have f9 : (w6.setCells w.heap.size 0 (hd0 : Hd).cells).frozen? ⟨w.heap.size + 1, 0, none⟩ = false := by simp [World.frozen?, setHd_other w6 w.heap.size 0 hd0 (show w.heap.size + 1 ≠ w.heap.size by omega), H6.out.2.1]
        have c9 : (w6.setCells w.heap.size 0 (hd0 : Hd).cells).cell? ⟨w.heap.size + 1, 0, none⟩ = some (.int .i64 0) := by simp [World.cell?, setHd_other w6 w.heap.size 0 hd0 (show w.heap.size + 1 ≠ w.heap.size by omega), H6.out.2.1]
        have l9 : w6.rangeAt w.heap.size 0 (hd0 : Hd).cells := fun j u hu => by rw [Nat.zero_add, cell_of_row w6 w.heap.size j _ _ (0, 0) H6.out.1]; show ((hd0 : Hd).cells.toArray)[j]? = some u; simpa using hu
        go_wp2_with (first | (refine wpList_loadHd rfl _ rfl w.heap.size 0 rfl hd0 l9 ?_) | (refine wpList_storeHd rfl _ _ rfl w.heap.size 0 hd0 rfl rfl hth ?_) | fail)
        refine leaves_cons (f := 92) (args := #[.pointer (some ⟨w.heap.size, 0, none⟩), .pointer (some ⟨w.heap.size + 1, 0, none⟩)]) (by simp) (by simp [go_sem]) ?_
        refine (catchHd_idle _ _ _).mono ?_
        rintro e u' w9 ⟨rfl, rfl, rfl⟩
        have hn : hdOf zs = some hd0 := by unfold hdOf; rw [R1.out]; simp only [HZ.out, if_true]
        refine ⟨_, results_cells2 rfl _ _ ⟨w.heap.size, 0, none⟩ ⟨w.heap.size + 1, 0, none⟩ _ _ rfl rfl (loadHd_var (h := hd0) ((Below.heap_setCell _ _ _ _ (by simp)).trans (setHd_three hd0 H6.out.1))) (loadErr_var (x := 0) (cell_of_one (heap_setCell_same _ _ _ _ _ _ ((setHd_other _ _ _ _ (by omega)).trans H6.out.2.1)))), ?_, (setHd_keeps H6.out.2.2 hd0 (Or.inr (Nat.le_refl _))).setCell (Or.inr (by simp)) _⟩
        simp [hdG, hdE, hn]
      · rw [if_neg hz]
        have HZ := hid hz
        clear hz
        unfold gaveUp
        go_wp2_with fail
        refine leaves_cons (f := 92) (args := #[.pointer (some ⟨w.heap.size, 0, none⟩), .pointer (some ⟨w.heap.size + 1, 0, none⟩)]) (by simp) (by simp [go_sem]) ?_
        refine (catchHd_panicking w.heap.size (w.heap.size + 1) _ _ _ _ _ [] w6 H6.out.1 H6.out.2.1 (by omega)).mono ?_
        rintro e u' w9 ⟨rfl, rfl, rfl⟩
        have hn : hdOf zs = none := by unfold hdOf; rw [R1.out]; simp only [if_neg HZ.out]
        refine ⟨_, results_cells2 rfl _ _ ⟨w.heap.size, 0, none⟩ ⟨w.heap.size + 1, 0, none⟩ _ _ rfl rfl (loadHd_var (h := hd0) ((Below.heap_setCell _ _ _ _ (by simp)).trans (setHd_three hd0 H6.out.1))) (loadErr_var (x := 4) (cell_of_one (heap_setCell_same _ _ _ _ _ _ ((setHd_other _ _ _ _ (by omega)).trans H6.out.2.1)))), ?_, (setHd_keeps H6.out.2.2 hd0 (Or.inr (Nat.le_refl _))).setCell (Or.inr (by simp)) _⟩
        simp [hdG, hdE, hn]
    | true =>
      have h5 := h4.put 0 (.bool true) (.bool true) (.int .i64 0) (.string ⟨#[]⟩) rfl
      have c5 := h5.c
      have H5 := hid h5
      clear h4 h5 e4 sb4 k4' hA
      go_wp2_with fail
      clear c0 f0 c5
      generalize w4.setCell ⟨w.heap.size, 0, none⟩ (.bool true) = w5 at H5 ⊢
      refine (eHeld_any w5 0 q v4 r1 H5.out.eye).mono ?_
      rintro e w6 ⟨k6, hm⟩
      generalize hr : rdHeld r1 = r at hm
      have R2 := hid hr
      clear hr
      cases r with
      | error why =>
        obtain rfl := hm
        have h5 := H5.out
        have hh : w6.heap[w.heap.size]? = some (.cells #[.bool true, .int .i64 0, .string ⟨#[]⟩] 100 (0, 0)) := (k6.block _ (lt_of_block h5.h) (by have := h5.at_; simp; omega)).trans h5.h
        have ee : w6.heap[w.heap.size + 1]? = some (.cells #[.int .i64 0] 25 (0, 0)) := (k6.block _ (lt_of_block h5.e) (by have := h5.at_; simp; omega)).trans h5.e
        have KK : Keeps [] w w6 := h5.k.trans' k6 (fun i hi hm => by have := h5.at_; simp at hm; omega)
        have H6 : Hid (_ ∧ _ ∧ _) := hid ⟨hh, ee, KK⟩
        clear h5 hh ee KK k6 H5
        unfold gaveUp
        go_wp2_with fail
        refine leaves_cons (f := 92) (args := #[.pointer (some ⟨w.heap.size, 0, none⟩), .pointer (some ⟨w.heap.size + 1, 0, none⟩)]) (by simp) (by simp [go_sem]) ?_
        refine (catchHd_panicking w.heap.size (w.heap.size + 1) _ _ _ _ _ [] w6 H6.out.1 H6.out.2.1 (by omega)).mono ?_
        rintro e u' w9 ⟨rfl, rfl, rfl⟩
        have hn : hdOf zs = none := by unfold hdOf; rw [R1.out]; simp only [R2.out]
        refine ⟨_, results_cells2 rfl _ _ ⟨w.heap.size, 0, none⟩ ⟨w.heap.size + 1, 0, none⟩ _ _ rfl rfl (loadHd_var (h := hd0) ((Below.heap_setCell _ _ _ _ (by simp)).trans (setHd_three hd0 H6.out.1))) (loadErr_var (x := 4) (cell_of_one (heap_setCell_same _ _ _ _ _ _ ((setHd_other _ _ _ _ (by omega)).trans H6.out.2.1)))), ?_, (setHd_keeps H6.out.2.2 hd0 (Or.inr (Nat.le_refl _))).setCell (Or.inr (by simp)) _⟩
        simp [hdG, hdE, hn]
      | ok xr =>
        obtain ⟨n, r2⟩ := xr
        obtain ⟨rfl, v6, e6, sb6⟩ := hm
        have h6 := H5.out.read k6 e6 sb6
        have f1 := h6.fz 1
        have c1 := h6.c1
        have h7 := h6.put 1 (.int .i64 n) (.bool true) (.int .i64 n) (.string ⟨#[]⟩) rfl
        have c7 := h7.c
        have H7 := hid h7
        clear h6 h7 e6 sb6 k6 H5
        go_wp2_with fail
        clear c1 f1 c7
        generalize w6.setCell ⟨w.heap.size, 1, none⟩ (.int .i64 n) = w7 at H7 ⊢
        refine (eKey_any w7 0 q v6 r2 H7.out.eye).mono ?_
        rintro e w8 ⟨k8, hm⟩
        generalize hr : rdCount 40 r2 = r at hm
        have R3 := hid hr
        clear hr
        cases r with
        | error why =>
          obtain rfl := hm
          have h5 := H7.out
          have hh : w8.heap[w.heap.size]? = some (.cells #[.bool true, .int .i64 n, .string ⟨#[]⟩] 100 (0, 0)) := (k8.block _ (lt_of_block h5.h) (by have := h5.at_; simp; omega)).trans h5.h
          have ee : w8.heap[w.heap.size + 1]? = some (.cells #[.int .i64 0] 25 (0, 0)) := (k8.block _ (lt_of_block h5.e) (by have := h5.at_; simp; omega)).trans h5.e
          have KK : Keeps [] w w8 := h5.k.trans' k8 (fun i hi hm => by have := h5.at_; simp at hm; omega)
          have H6 : Hid (_ ∧ _ ∧ _) := hid ⟨hh, ee, KK⟩
          clear h5 hh ee KK k8 H7
          unfold gaveUp
          go_wp2_with fail
          refine leaves_cons (f := 92) (args := #[.pointer (some ⟨w.heap.size, 0, none⟩), .pointer (some ⟨w.heap.size + 1, 0, none⟩)]) (by simp) (by simp [go_sem]) ?_
          refine (catchHd_panicking w.heap.size (w.heap.size + 1) _ _ _ _ _ [] w8 H6.out.1 H6.out.2.1 (by omega)).mono ?_
          rintro e u' w9 ⟨rfl, rfl, rfl⟩
          have hn : hdOf zs = none := by unfold hdOf; rw [R1.out]; simp only [R2.out, R3.out]
          refine ⟨_, results_cells2 rfl _ _ ⟨w.heap.size, 0, none⟩ ⟨w.heap.size + 1, 0, none⟩ _ _ rfl rfl (loadHd_var (h := hd0) ((Below.heap_setCell _ _ _ _ (by simp)).trans (setHd_three hd0 H6.out.1))) (loadErr_var (x := 4) (cell_of_one (heap_setCell_same _ _ _ _ _ _ ((setHd_other _ _ _ _ (by omega)).trans H6.out.2.1)))), ?_, (setHd_keeps H6.out.2.2 hd0 (Or.inr (Nat.le_refl _))).setCell (Or.inr (by simp)) _⟩
          simp [hdG, hdE, hn]
        | ok xr =>
          obtain ⟨ky, r3⟩ := xr
          obtain ⟨rfl, v8, e8, sb8⟩ := hm
          have h6 := H7.out.read k8 e8 sb8
          have f1 := h6.fz 2
          have c1 := h6.c2
          have h7 := h6.put 2 (.string (strOfNums ky)) (.bool true) (.int .i64 n) (.string (strOfNums ky)) rfl
          have c7 := h7.c
          have H9 := hid h7
          clear h6 h7 e8 sb8 k8 H7
          go_wp2_with fail
          clear c1 f1 c7
          generalize w8.setCell ⟨w.heap.size, 2, none⟩ (.string (strOfNums ky)) = wA at H9 ⊢
          refine (eNou_any wA 0 q v8 r3 H9.out.eye).mono ?_
          rintro e wB ⟨rfl, kB⟩
          have hn0 : 0 ≤ n := rdHeld_pos HB.out R1.out R2.out
          obtain ⟨nn, rfl⟩ := Int.eq_ofNat_of_zero_le hn0
          have h5 := H9.out
          have hh : wB.heap[w.heap.size]? = some (.cells #[.bool true, .int .i64 nn, .string (strOfNums ky)] 100 (0, 0)) := (kB.block _ (lt_of_block h5.h) (by have := h5.at_; simp; omega)).trans h5.h
          have ee : wB.heap[w.heap.size + 1]? = some (.cells #[.int .i64 0] 25 (0, 0)) := (kB.block _ (lt_of_block h5.e) (by have := h5.at_; simp; omega)).trans h5.e
          have KK : Keeps [] w wB := h5.k.trans' kB (fun i hi hm => by have := h5.at_; simp at hm; omega)
          have H6 : Hid (_ ∧ _ ∧ _) := hid ⟨hh, ee, KK⟩
          clear h5 hh ee KK kB H9
          unfold nouE
          by_cases hz : allZ r3 = true
          · rw [if_pos hz]
            have HZ := hid hz
            clear hz
            have hth := there_of H6.out.1 0 3 (by simp)
            have f9 : (wB.setCells w.heap.size 0 ((⟨true, nn, ky⟩ : Hd) : Hd).cells).frozen? ⟨w.heap.size + 1, 0, none⟩ = false := by simp [World.frozen?, setHd_other wB w.heap.size 0 (⟨true, nn, ky⟩ : Hd) (show w.heap.size + 1 ≠ w.heap.size by omega), H6.out.2.1]
            have c9 : (wB.setCells w.heap.size 0 ((⟨true, nn, ky⟩ : Hd) : Hd).cells).cell? ⟨w.heap.size + 1, 0, none⟩ = some (.int .i64 0) := by simp [World.cell?, setHd_other wB w.heap.size 0 (⟨true, nn, ky⟩ : Hd) (show w.heap.size + 1 ≠ w.heap.size by omega), H6.out.2.1]
            have l9 : wB.rangeAt w.heap.size 0 ((⟨true, nn, ky⟩ : Hd) : Hd).cells := fun j u hu => by rw [Nat.zero_add, cell_of_row wB w.heap.size j _ _ (0, 0) H6.out.1]; show (((⟨true, nn, ky⟩ : Hd) : Hd).cells.toArray)[j]? = some u; simpa using hu
            go_wp2_with (first | (refine wpList_loadHd rfl _ rfl w.heap.size 0 rfl (⟨true, nn, ky⟩ : Hd) l9 ?_) | (refine wpList_storeHd rfl _ _ rfl w.heap.size 0 (⟨true, nn, ky⟩ : Hd) rfl rfl hth ?_) | fail)
            refine leaves_cons (f := 92) (args := #[.pointer (some ⟨w.heap.size, 0, none⟩), .pointer (some ⟨w.heap.size + 1, 0, none⟩)]) (by simp) (by simp [go_sem]) ?_
            refine (catchHd_idle _ _ _).mono ?_
            rintro e u' w9 ⟨rfl, rfl, rfl⟩
            have hn : hdOf zs = some (⟨true, nn, ky⟩ : Hd) := by unfold hdOf; rw [R1.out]; simp only [R2.out, R3.out, HZ.out, if_true]; rfl
            refine ⟨_, results_cells2 rfl _ _ ⟨w.heap.size, 0, none⟩ ⟨w.heap.size + 1, 0, none⟩ _ _ rfl rfl (loadHd_var (h := (⟨true, nn, ky⟩ : Hd)) ((Below.heap_setCell _ _ _ _ (by simp)).trans (setHd_three (⟨true, nn, ky⟩ : Hd) H6.out.1))) (loadErr_var (x := 0) (cell_of_one (heap_setCell_same _ _ _ _ _ _ ((setHd_other _ _ _ _ (by omega)).trans H6.out.2.1)))), ?_, (setHd_keeps H6.out.2.2 (⟨true, nn, ky⟩ : Hd) (Or.inr (Nat.le_refl _))).setCell (Or.inr (by simp)) _⟩
            simp [hdG, hdE, hn]
          · rw [if_neg hz]
            have HZ := hid hz
            clear hz
            unfold gaveUp
            go_wp2_with fail
            refine leaves_cons (f := 92) (args := #[.pointer (some ⟨w.heap.size, 0, none⟩), .pointer (some ⟨w.heap.size + 1, 0, none⟩)]) (by simp) (by simp [go_sem]) ?_
            refine (catchHd_panicking w.heap.size (w.heap.size + 1) _ _ _ _ _ [] wB H6.out.1 H6.out.2.1 (by omega)).mono ?_
            rintro e u' w9 ⟨rfl, rfl, rfl⟩
            have hn : hdOf zs = none := by unfold hdOf; rw [R1.out]; simp only [R2.out, R3.out, if_neg HZ.out]
            refine ⟨_, results_cells2 rfl _ _ ⟨w.heap.size, 0, none⟩ ⟨w.heap.size + 1, 0, none⟩ _ _ rfl rfl (loadHd_var (h := hd0) ((Below.heap_setCell _ _ _ _ (by simp)).trans (setHd_three hd0 H6.out.1))) (loadErr_var (x := 4) (cell_of_one (heap_setCell_same _ _ _ _ _ _ ((setHd_other _ _ _ _ (by omega)).trans H6.out.2.1)))), ?_, (setHd_keeps H6.out.2.2 hd0 (Or.inr (Nat.le_refl _))).setCell (Or.inr (by simp)) _⟩
            simp [hdG, hdE, hn]
end Go.Proofs.YtnhcfkiejldicaaGreat
