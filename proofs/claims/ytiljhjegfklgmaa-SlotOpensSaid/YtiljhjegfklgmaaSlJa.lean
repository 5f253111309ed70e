/- SlA, SlB, SlC, SlD, SlE, SlF, SlG. -/
import Derived.Test.YtiljhjegfklgmaaDkB
import Derived.Test.YtiljhjegfklgmaaWrJa
import Derived.Test.YtiljhjegfklgmaaDkN
import Derived.Laws.CopyOwn
import Derived.Test.YtiljhjegfklgmaaDkT
/- Slots: what a head is, how the slots lie in memory; laws of the walk for heads. -/
namespace Go.Proofs.Ytiljhjegfklgmaa
open Go.RowKit

/-- What a slot's head says. -/
structure Hd where
  used : Bool
  held : Nat
  key : List Int
def hd0 : Hd := ⟨false, 0, []⟩
def Hd.cells (h : Hd) : List Value := [.bool h.used, .int .i64 h.held, .string (strOfNums h.key)]
def hdV (h : Hd) : Value := .agg h.cells.toArray
def hdsC (hs : List Hd) : List Value := hs.flatMap Hd.cells
theorem hdsC_len (hs : List Hd) : (hdsC hs).length = hs.length * 3 := by
  induction hs with
  | nil => rfl
  | cons x l ih =>
    have hx : x.cells.length = 3 := rfl
    unfold hdsC at ih ⊢
    rw [List.flatMap_cons, List.length_append, ih, hx, List.length_cons]
    omega

/-- A head that may be. -/
structure Hd.Ok (h : Hd) : Prop where
  key : h.key.length ≤ 40
  byte : ∀ z ∈ h.key, 0 ≤ z ∧ z ≤ 255
  held : h.held ≤ 448
  free : h.used = false → h = hd0

theorem uHd : Try.prog.underlying 72 = some (.struct (Try.prog.fieldsOf 72)) := by kernel_rfl
theorem sHd : (Try.prog.info? 72).map (·.size) = some 3 := by kernel_rfl
theorem iHd : (Try.prog.info? 72).map (fun i => (i.zero, i.size)) = some (some (hdV hd0), 3) := by kernel_rfl

theorem Hd.one (h : Hd) : h.cells.toArray.all (·.oneCell') = true := by simp [Hd.cells, Value.oneCell']

/-- The slots: the struct at q (the disk's at p), the heads at g. -/
structure SlotsAt (w : World) (q p g : Nat) (first : Nat) (hs : List Hd) : Prop where
  blk : w.heap[q]? = some (.cells #[.pointer (some ⟨p, 0, none⟩), .int .i64 first, .slice (some ⟨g, 0, none⟩) hs.length hs.length] 69 (0, 0))
  hds : w.heap[g]? = some (.cells (hdsC hs).toArray 72 (0, 0))
  ne : q ≠ g
  ok : ∀ h ∈ hs, h.Ok
  few : hs.length ≤ 520

section
variable {w w' : World} {q p g first : Nat} {hs : List Hd}
theorem SlotsAt.c0 (h : SlotsAt w q p g first hs) : w.cell? ⟨q, 0, none⟩ = some (.pointer (some ⟨p, 0, none⟩)) := by simp [World.cell?, h.blk]
theorem SlotsAt.c1 (h : SlotsAt w q p g first hs) : w.cell? ⟨q, 1, none⟩ = some (.int .i64 first) := by simp [World.cell?, h.blk]
theorem SlotsAt.c2 (h : SlotsAt w q p g first hs) : w.cell? ⟨q, 2, none⟩ = some (.slice (some ⟨g, 0, none⟩) hs.length hs.length) := by simp [World.cell?, h.blk]
theorem SlotsAt.keep {S : List Nat} (h : SlotsAt w q p g first hs) (k : Keeps S w w') (h1 : q ∉ S) (h2 : g ∉ S) : SlotsAt w' q p g first hs :=
  ⟨by rw [k.block q (lt_of_block h.blk) h1]; exact h.blk, by rw [k.block g (lt_of_block h.hds) h2]; exact h.hds, h.ne, h.ok, h.few⟩
theorem SlotsAt.ltq (h : SlotsAt w q p g first hs) : q < w.heap.size := lt_of_block h.blk
theorem SlotsAt.ltg (h : SlotsAt w q p g first hs) : g < w.heap.size := lt_of_block h.hds

theorem hdsC_at (hs : List Hd) (i : Nat) (h : i < hs.length) (j : Nat) (hj : j < 3) : (hdsC hs)[i * 3 + j]? = hs[i].cells[j]? := by
  induction hs generalizing i with
  | nil => simp at h
  | cons x l ih =>
    simp only [hdsC, List.flatMap_cons]
    have hx : x.cells.length = 3 := rfl
    cases i with
    | zero => rw [List.getElem?_append_left (by omega)]; simp
    | succ i =>
      rw [List.getElem?_append_right (by omega), hx]
      have : (i + 1) * 3 + j - 3 = i * 3 + j := by omega
      rw [this]
      have := ih i (by simpa using h)
      simpa [hdsC] using this

theorem SlotsAt.at_ (h : SlotsAt w q p g first hs) (i : Nat) (hi : i < hs.length) : w.rangeAt g (i * 3) hs[i].cells := fun j v hv => by
  have hj : j < 3 := (List.getElem?_eq_some_iff.1 hv).1
  rw [cell_of_row w g (i * 3 + j) _ _ (0, 0) h.hds]
  simpa [hdsC_at hs i hi j hj] using hv
theorem SlotsAt.u (h : SlotsAt w q p g first hs) (i : Nat) (hi : i < hs.length) : w.cell? ⟨g, i * 3, none⟩ = some (.bool hs[i].used) := h.at_ i hi 0 _ rfl
theorem SlotsAt.n (h : SlotsAt w q p g first hs) (i : Nat) (hi : i < hs.length) : w.cell? ⟨g, i * 3 + 1, none⟩ = some (.int .i64 hs[i].held) := h.at_ i hi 1 _ rfl
theorem SlotsAt.k (h : SlotsAt w q p g first hs) (i : Nat) (hi : i < hs.length) : w.cell? ⟨g, i * 3 + 2, none⟩ = some (.string (strOfNums hs[i].key)) := h.at_ i hi 2 _ rfl
end

theorem hdsC_set (hs : List Hd) (i : Nat) (h : Hd) (hi : i < hs.length) : hdsC (hs.set i h) = (hdsC hs).take (i * 3) ++ h.cells ++ (hdsC hs).drop (i * 3 + 3) := by
  induction hs generalizing i with
  | nil => simp at hi
  | cons x l ih =>
    have hx : x.cells.length = 3 := rfl
    cases i with
    | zero =>
      simp only [List.set_cons_zero, hdsC, List.flatMap_cons]
      simp [hx]
    | succ i =>
      have := ih i (by simpa using hi)
      simp only [List.set_cons_succ, hdsC, List.flatMap_cons] at this ⊢
      rw [this]
      have e1 : (i + 1) * 3 + 3 = x.cells.length + (i * 3 + 3) := by rw [hx]; omega
      have e2 : (i + 1) * 3 = x.cells.length + i * 3 := by rw [hx]; omega
      have d1 : x.cells.take (x.cells.length + i * 3) = x.cells := List.take_of_length_le (by omega)
      have d2 : x.cells.drop (x.cells.length + (i * 3 + 3)) = [] := List.drop_eq_nil_of_le (by omega)
      rw [e1, e2, List.take_append, List.drop_append, d1, d2]
      simp

section
variable {ops : Array Oper} {rest : List Oper} {o : Oper} {a : Act} {w : World} {Q : Exit → Act → World → Prop}
theorem wpList_loadHd (hgd : o.guard = none) (x : Operand) (ho : o.op = .load 72 x) (b off : Nat) (hx : a.eval x = .pointer (some ⟨b, off, none⟩)) (h : Hd) (hc : w.rangeAt b off h.cells)
    (hk : wpList Try.prog ops Q rest (a.put o.dst (hdV h)) w) : wpList Try.prog ops Q (o :: rest) a w :=
  wpList_load_mid hgd _ x ho b off hx h.cells _ hc uHd rfl (by rw [sHd]; rfl) hk
end

section
variable (w : World) (q p g first : Nat) (hs : List Hd)
theorem lMade_any (S : SlotsAt w q p g first hs) : Calls Try.prog 36 #[.pointer (some ⟨q, 0, none⟩)] w fun e w' => e = .returned (.bool true) ∧ w = w' := by
  have c0 := S.c0
  clear S
  go_enter Try.func36, Try.ntmps36
  go_wp2_with fail
  go_ret
  exact ⟨rfl, rfl⟩
theorem lCount_any (S : SlotsAt w q p g first hs) : Calls Try.prog 12 #[.pointer (some ⟨q, 0, none⟩)] w fun e w' => e = .returned (.int .i64 hs.length) ∧ w = w' := by
  have c2 := S.c2
  clear S
  go_enter Try.func12, Try.ntmps12
  go_wp2_with fail
  go_ret
  exact ⟨rfl, rfl⟩
theorem lBegin_any (S : SlotsAt w q p g first hs) (i : Nat) (hi : i ≤ 4160) (hf : first ≤ 4160) : Calls Try.prog 28 #[.pointer (some ⟨q, 0, none⟩), .int .i64 i] w fun e w' => e = .returned (.int .i64 ((first + i * 8 : Nat) : Int)) ∧ w = w' := by
  have c1 := S.c1
  clear S
  go_enter Try.func28, Try.ntmps28
  go_wp2_with fail
  go_ret
  refine ⟨by congr 2, rfl⟩
/-- Is there such a slot? -/
def hasS (hs : List Hd) (i : Int) : Bool := decide (0 ≤ i) && decide (i < hs.length)
theorem lHas_any (S : SlotsAt w q p g first hs) (i : Int) : Calls Try.prog 37 #[.pointer (some ⟨q, 0, none⟩), .int .i64 i] w fun e w' => e = .returned (.bool (hasS hs i)) ∧ w = w' := by
  unfold hasS
  by_cases h0 : 0 ≤ i
  · have t0 : (decide (0 ≤ i)) = true := by simpa using h0
    go_enter Try.func37, Try.ntmps37
    go_wp2_with (first | (go_at_call 12; refine (lCount_any w q p g first hs S).mono ?_; rintro e w' ⟨rfl, rfl⟩) | fail)
    go_ret
    exact ⟨by simp [t0], rfl⟩
  · have t0 : (decide (0 ≤ i)) = false := by simpa using h0
    go_enter Try.func37, Try.ntmps37
    go_wp2_with fail
    go_ret
    exact ⟨by simp, rfl⟩
end
end Go.Proofs.Ytiljhjegfklgmaa


/- Slots: the eye that reads a head gives up by a panic. -/
namespace Go.Proofs.Ytiljhjegfklgmaa
open Go.RowKit Go.Shelf

/-- The eye's value: a struct of one pointer. -/
def eyV (p : Nat) : Value := .agg #[.pointer (some ⟨p, 0, none⟩)]

theorem sureB_any (w : World) (B p : Nat) (v : Value) (zs : List Int) (bad : Int) (h : EyeAt w B p v zs bad) (x : Bool) :
    Calls Try.prog 61 #[eyV p, .bool x] w fun e w' => e = (if bad = 0 then .returned (.bool x) else gaveUp bad) ∧ Keeps [] w w' := by
  have H := hid (h.keep ((Keeps.refl [] w).alloc (.cells #[.pointer (some ⟨p, 0, none⟩)] 95)) (by simp) (by intro _ _ _ _ _; simp))
  have K := hid ((Keeps.refl [] w).alloc (.cells #[.pointer (some ⟨p, 0, none⟩)] 95))
  clear h
  unfold eyV
  by_cases hb : bad = 0
  · subst hb
    go_enter Try.func61, Try.ntmps61
    go_wp2_with fail
    refine (fail_any _ B p v zs 0 H.out).mono ?_
    rintro e w1 ⟨rfl, rfl⟩
    go_wp2_with fail
    go_ret
    exact ⟨rfl, K.out⟩
  · have hb1 : (bad != 0) = true := by simpa using hb
    rw [if_neg hb]
    unfold gaveUp
    clear hb
    go_enter Try.func61, Try.ntmps61
    go_wp2_with fail
    refine (fail_any _ B p v zs bad H.out).mono ?_
    rintro e w1 ⟨rfl, rfl⟩
    go_wp2_with fail
    exact ⟨rfl, rfl, K.out⟩

theorem sureI_any (w : World) (B p : Nat) (v : Value) (zs : List Int) (bad : Int) (h : EyeAt w B p v zs bad) (x : Int) :
    Calls Try.prog 63 #[eyV p, .int .i64 x] w fun e w' => e = (if bad = 0 then .returned (.int .i64 x) else gaveUp bad) ∧ Keeps [] w w' := by
  have H := hid (h.keep ((Keeps.refl [] w).alloc (.cells #[.pointer (some ⟨p, 0, none⟩)] 95)) (by simp) (by intro _ _ _ _ _; simp))
  have K := hid ((Keeps.refl [] w).alloc (.cells #[.pointer (some ⟨p, 0, none⟩)] 95))
  clear h
  unfold eyV
  by_cases hb : bad = 0
  · subst hb
    go_enter Try.func63, Try.ntmps63
    go_wp2_with fail
    refine (fail_any _ B p v zs 0 H.out).mono ?_
    rintro e w1 ⟨rfl, rfl⟩
    go_wp2_with fail
    go_ret
    exact ⟨rfl, K.out⟩
  · have hb1 : (bad != 0) = true := by simpa using hb
    rw [if_neg hb]
    unfold gaveUp
    clear hb
    go_enter Try.func63, Try.ntmps63
    go_wp2_with fail
    refine (fail_any _ B p v zs bad H.out).mono ?_
    rintro e w1 ⟨rfl, rfl⟩
    go_wp2_with fail
    exact ⟨rfl, rfl, K.out⟩

theorem sureR_any (w : World) (B p : Nat) (v : Value) (zs : List Int) (bad : Int) (h : EyeAt w B p v zs bad) (xa : Option Addr) (xn xc : Nat) :
    Calls Try.prog 65 #[eyV p, .slice xa xn xc] w fun e w' => e = (if bad = 0 then .returned (.slice xa xn xc) else gaveUp bad) ∧ Keeps [] w w' := by
  have H := hid (h.keep ((Keeps.refl [] w).alloc (.cells #[.pointer (some ⟨p, 0, none⟩)] 95)) (by simp) (by intro _ _ _ _ _; simp))
  have K := hid ((Keeps.refl [] w).alloc (.cells #[.pointer (some ⟨p, 0, none⟩)] 95))
  clear h
  unfold eyV
  by_cases hb : bad = 0
  · subst hb
    go_enter Try.func65, Try.ntmps65
    go_wp2_with fail
    refine (fail_any _ B p v zs 0 H.out).mono ?_
    rintro e w1 ⟨rfl, rfl⟩
    go_wp2_with fail
    go_ret
    exact ⟨rfl, K.out⟩
  · have hb1 : (bad != 0) = true := by simpa using hb
    rw [if_neg hb]
    unfold gaveUp
    clear hb
    go_enter Try.func65, Try.ntmps65
    go_wp2_with fail
    refine (fail_any _ B p v zs bad H.out).mono ?_
    rintro e w1 ⟨rfl, rfl⟩
    go_wp2_with fail
    exact ⟨rfl, rfl, K.out⟩

section
variable {P : Program} {ops : Array Oper} {Q : Exit → Act → World → Prop}
/-- A call of a Go function that may panic. -/
theorem wp_enter2 {o : Oper} {a : Act} {w : World} {K : Act → World → Prop} {f : FuncId} {args : Array Value} {R : Ending → World → Prop} (hrun : (execOp a.eval o).run P w = .ok (.enter f args) w) (hc : Calls P f args w R)
    (h : ∀ e w', R e w' → (∃ v, e = .returned v ∧ K (a.put o.dst v) w') ∨ ∃ ch, e = .panicked ch ∧ Q (.panic ch) a w') : o.wp P a w K Q := by
  unfold Oper.wp
  rw [hrun, Oper.upon_enter]
  refine hc.mono fun e w' hr => ?_
  rcases h e w' hr with ⟨v, rfl, hk⟩ | ⟨ch, rfl, hk⟩
  · exact hk
  · exact hk
end

/-- What a reader leaves: it gave up, or it read something, and the rest is still to be read. -/
def GivePost {α : Type} (w : World) (B p : Nat) (v : Value) (r : Except Int (α × List Int)) (ret : α → Ending → Prop) (e : Ending) (w' : World) : Prop :=
  Keeps [p] w w' ∧ match r with
    | .error why => e = gaveUp why
    | .ok (x, rest) => ret x e ∧ ∃ v2, EyeAt w' B p v2 rest 0 ∧ SameBlk v v2

theorem uSEy : Try.prog.underlying 95 = some (.struct (Try.prog.fieldsOf 95)) := by kernel_rfl
theorem sSEy : (Try.prog.info? 95).map (·.size) = some 1 := by kernel_rfl
theorem loadEy_run (W : World) (b p : Nat) (h : W.cell? ⟨b, 0, none⟩ = some (.pointer (some ⟨p, 0, none⟩))) : (Instr.loadAt 95 (.pointer (some ⟨b, 0, none⟩))).run Try.prog W = .ok (eyV p) W :=
  run_loadAt_mid W b 0 95 [.pointer (some ⟨p, 0, none⟩)] _ (fun j u hu => by
    have hj : j < 1 := (List.getElem?_eq_some_iff.1 hu).1
    obtain rfl : j = 0 := by omega
    have : u = .pointer (some ⟨p, 0, none⟩) := by simpa using hu.symm
    subst this
    exact h) uSEy rfl (by rw [sSEy]; rfl)

theorem after_err {α : Type} (zs : List Int) (why : Int) : after (α := α) zs 0 (.error why) = (none, zs, why) := by simp [after]
theorem after_ok {α : Type} (zs : List Int) (x : α) (rest : List Int) : after zs 0 (.ok (x, rest)) = (some x, rest, 0) := by simp [after]

theorem exec_convert {ρ : Operand → Value} {o : Oper} {w w' : World} {v u : Value} (s t : TypeId) (x : Operand) (ho : o.op = .convert s t x) (hx : ρ x = u) (h : (convert s t u).run Try.prog w = .ok v w') : (execOp ρ o).run Try.prog w = .ok (.value v) w' := by
  simp [execOp, ho, hx, h, Result.andThen]

theorem rdBool_why {zs : List Int} {why : Int} (h : rdBool zs = .error why) : why ≠ 0 := by
  unfold rdBool at h
  split at h
  · cases h; decide
  · split at h
    · cases h; decide
    · cases h
theorem rdNum_why {n : Int} {zs : List Int} {why : Int} (h : rdNum n zs = .error why) : why ≠ 0 := by
  unfold rdNum at h
  split at h
  · cases h; decide
  · split at h
    · cases h; decide
    · cases h
theorem rdCount_why {n : Int} {zs : List Int} {why : Int} (h : rdCount n zs = .error why) : why ≠ 0 := by
  unfold rdCount at h
  split at h
  · cases h; decide
  · split at h
    · cases h; decide
    · split at h
      · cases h; decide
      · split at h
        · cases h; decide
        · cases h

set_option maxRecDepth 100000 in
set_option maxHeartbeats 1600000 in
theorem eUsed_any (w : World) (B p : Nat) (v : Value) (zs : List Int) (h : EyeAt w B p v zs 0) :
    Calls Try.prog 48 #[eyV p] w (GivePost w B p v (rdBool zs) fun x e => e = .returned (.bool x)) := by
  unfold eyV
  have HW : Hid (∀ why, rdBool zs = .error why → why ≠ 0) := hid fun _ h => rdBool_why h
  have H := hid (h.keep ((Keeps.refl [] w).alloc (.cells #[.pointer (some ⟨p, 0, none⟩)] 95)) (by simp) (by intro _ _ _ _ _; simp))
  have K := hid ((Keeps.refl [] w).alloc (.cells #[.pointer (some ⟨p, 0, none⟩)] 95))
  have hp := h.lt
  have hc := cell_of_one (heap_alloc_new w (.cells #[.pointer (some ⟨p, 0, none⟩)] 95))
  have C := hid hc
  clear h hc
  go_enter Try.func48, Try.ntmps48
  go_wp2_with fail
  have hz : (w.alloc (.cells #[.pointer (some ⟨p, 0, none⟩)] 95)).heap.size = w.heap.size + 1 := by simp
  generalize w.alloc (.cells #[.pointer (some ⟨p, 0, none⟩)] 95) = w1 at H K C hz ⊢
  refine wp_region_any (by kernel_rfl) (wpAny_of_held (S := KpS [p] w1.heap.size w1.drew) _ _ _ _ ?_)
  change wpAnyH _ _ _ _ _ _ _ _ w1.drew
  have cE : ∀ W1, KpS [p] w1.heap.size w1.drew W1 → W1.cell? ⟨w.heap.size, 0, none⟩ = some (.pointer (some ⟨p, 0, none⟩)) := fun W1 h => h.cell (by rw [World.cell?_drew]; exact C.out) (by omega) (by simp; omega)
  refine held_take (i := 0) (v := eyV p) rfl (by kernel_rfl) (by kernel_rfl) (by kernel_rfl) (fun _ _ _ h => h) rfl (fun W1 hW1 => exec_load _ _ _ _ rfl rfl (loadEy_run W1 _ _ (cE W1 hW1))) (KpS.refl _ _ _) ?_
  simp only [Act.put, List.setIfInBounds_toArray, List.set_cons_zero, List.set_cons_succ]
  refine held_take (i := 1) (v := .pointer (some ⟨w.heap.size, 0, none⟩)) rfl (by kernel_rfl) (by kernel_rfl) (by kernel_rfl) (fun _ _ _ h => h) rfl (fun W1 hW1 => by go_simp) (KpS.refl _ _ _) ?_
  simp only [Act.put, List.setIfInBounds_toArray, List.set_cons_zero, List.set_cons_succ]
  refine held_take (i := 2) (v := .pointer (some ⟨p, 0, none⟩)) rfl (by kernel_rfl) (by kernel_rfl) (by kernel_rfl) (fun _ _ _ h => h) rfl (fun W1 hW1 => exec_load _ _ _ _ rfl rfl (run_loadCell W1 _ _ _ (cE W1 hW1) (agg_no _ (by kernel_rfl)))) (KpS.refl _ _ _) ?_
  simp only [Act.put, List.setIfInBounds_toArray, List.set_cons_zero, List.set_cons_succ]
  have HD : EyeAt w1.drew B p v zs 0 := H.out.keep (Keeps.refl [] w1).drew (by simp) (by intro _ _ _ _ _; simp)
  refine held_do (i := 3) (by kernel_rfl) rfl rfl (wp_enter (f := 62) (args := #[.pointer (some ⟨p, 0, none⟩)]) (by go_simp) (eyeBool_any w1.drew B p v zs 0 HD) ?_)
  rintro e W2 ⟨⟨v2, h2, sb⟩, k2, h3⟩
  have SB := hid sb
  clear sb
  have kk : KpS [p] w1.heap.size w1.drew W2 := (KpS.refl _ _ _).keeps k2 (Nat.le_refl _) (fun i hi _ => hi)
  have KW : Keeps [p] w W2 := (K.out.mono (by simp)).trans ⟨kk.os, kk.tape, kk.output, kk.size, kk.block⟩
  generalize hr : rdBool zs = r at h2 h3
  cases r with
  | error why =>
    have hw0 := HW.out _ hr
    rw [after_err] at h2 h3
    simp only at h2 h3
    subst h3
    refine ⟨_, rfl, kk, ?_⟩
    simp only [Act.put, List.setIfInBounds_toArray, List.set_cons_zero, List.set_cons_succ]
    refine held_do (i := 4) (by kernel_rfl) rfl rfl (wp_enter2 (f := 61) (args := #[eyV p, .bool false]) (by go_simp) (sureB_any W2 B p v2 zs why h2 false) ?_)
    rintro e W3 ⟨rfl, k3⟩
    right
    rw [if_neg hw0]
    refine ⟨_, rfl, ?_⟩
    refine ⟨rfl, KW.trans (k3.mono (by simp)), ?_⟩
    rw [hr]
    rfl
  | ok xr =>
    obtain ⟨x, rest⟩ := xr
    rw [after_ok] at h2 h3
    simp only at h2 h3
    obtain rfl := h3
    refine ⟨_, rfl, kk, ?_⟩
    simp only [Act.put, List.setIfInBounds_toArray, List.set_cons_zero, List.set_cons_succ]
    refine held_do (i := 4) (by kernel_rfl) rfl rfl (wp_enter2 (f := 61) (args := #[eyV p, .bool x]) (by go_simp) (sureB_any W2 B p v2 rest 0 h2 x) ?_)
    rintro e W3 ⟨rfl, k3⟩
    left
    rw [if_pos rfl]
    have kk3 : KpS [p] w1.heap.size w1.drew W3 := kk.keeps k3 kk.size (by simp)
    refine ⟨_, rfl, kk3, ?_⟩
    simp only [Act.put, List.setIfInBounds_toArray, List.set_cons_zero, List.set_cons_succ]
    refine held_take (i := 5) (v := .bool x) rfl (by kernel_rfl) (by kernel_rfl) (by kernel_rfl) (fun _ _ _ h => h) rfl (fun W1 hW1 => rfl) (kk3) ?_
    simp only [Act.put, List.setIfInBounds_toArray, List.set_cons_zero, List.set_cons_succ]
    refine wpAnyH_done (by kernel_rfl) ?_ _
    have H4 := hid (h2.keep k3 (by simp) (by intro _ _ _ _ _; simp))
    have K4 := hid (KW.trans (k3.mono (by simp)))
    clear h2 k3 kk kk3 KW cE HD
    go_wp2_with fail
    go_ret
    exact ⟨K4.out, by rw [hr]; exact ⟨rfl, _, H4.out, SB.out⟩⟩

def rdHeld (zs : List Int) : Except Int (Int × List Int) := match rdNum 2 zs with | .error why => .error why | .ok (n, rest) => if 448 < n then .error 3 else .ok (n, rest)

set_option maxRecDepth 100000 in
set_option maxHeartbeats 1600000 in
theorem eHeld_any (w : World) (B p : Nat) (v : Value) (zs : List Int) (h : EyeAt w B p v zs 0) :
    Calls Try.prog 49 #[eyV p] w (GivePost w B p v (rdHeld zs) fun x e => e = .returned (.int .i64 x)) := by
  unfold eyV
  have HW : Hid (∀ why, rdNum 2 zs = .error why → why ≠ 0) := hid fun _ h => rdNum_why h
  have H := hid (h.keep ((Keeps.refl [] w).alloc (.cells #[.pointer (some ⟨p, 0, none⟩)] 95)) (by simp) (by intro _ _ _ _ _; simp))
  have K := hid ((Keeps.refl [] w).alloc (.cells #[.pointer (some ⟨p, 0, none⟩)] 95))
  have hp := h.lt
  have hc := cell_of_one (heap_alloc_new w (.cells #[.pointer (some ⟨p, 0, none⟩)] 95))
  have C := hid hc
  clear h hc
  go_enter Try.func49, Try.ntmps49
  go_wp2_with fail
  have hz : (w.alloc (.cells #[.pointer (some ⟨p, 0, none⟩)] 95)).heap.size = w.heap.size + 1 := by simp
  generalize w.alloc (.cells #[.pointer (some ⟨p, 0, none⟩)] 95) = w1 at H K C hz ⊢
  refine wp_region_any (by kernel_rfl) (wpAny_of_held (S := KpS [p] w1.heap.size w1.drew) _ _ _ _ ?_)
  change wpAnyH _ _ _ _ _ _ _ _ w1.drew
  have cE : ∀ W1, KpS [p] w1.heap.size w1.drew W1 → W1.cell? ⟨w.heap.size, 0, none⟩ = some (.pointer (some ⟨p, 0, none⟩)) := fun W1 h => h.cell (by rw [World.cell?_drew]; exact C.out) (by omega) (by simp; omega)
  refine held_take (i := 0) (v := eyV p) rfl (by kernel_rfl) (by kernel_rfl) (by kernel_rfl) (fun _ _ _ h => h) rfl (fun W1 hW1 => exec_load _ _ _ _ rfl rfl (loadEy_run W1 _ _ (cE W1 hW1))) (KpS.refl _ _ _) ?_
  simp only [Act.put, List.setIfInBounds_toArray, List.set_cons_zero, List.set_cons_succ]
  refine held_take (i := 1) (v := .pointer (some ⟨w.heap.size, 0, none⟩)) rfl (by kernel_rfl) (by kernel_rfl) (by kernel_rfl) (fun _ _ _ h => h) rfl (fun W1 hW1 => by go_simp) (KpS.refl _ _ _) ?_
  simp only [Act.put, List.setIfInBounds_toArray, List.set_cons_zero, List.set_cons_succ]
  refine held_take (i := 2) (v := .pointer (some ⟨p, 0, none⟩)) rfl (by kernel_rfl) (by kernel_rfl) (by kernel_rfl) (fun _ _ _ h => h) rfl (fun W1 hW1 => exec_load _ _ _ _ rfl rfl (run_loadCell W1 _ _ _ (cE W1 hW1) (agg_no _ (by kernel_rfl)))) (KpS.refl _ _ _) ?_
  simp only [Act.put, List.setIfInBounds_toArray, List.set_cons_zero, List.set_cons_succ]
  have HD : EyeAt w1.drew B p v zs 0 := H.out.keep (Keeps.refl [] w1).drew (by simp) (by intro _ _ _ _ _; simp)
  refine held_do (i := 3) (by kernel_rfl) rfl rfl (wp_enter (f := 64) (args := #[.pointer (some ⟨p, 0, none⟩), .int .i64 2]) (by go_simp) (eyeNum_any w1.drew B p v zs 0 2 HD) ?_)
  rintro e W2 ⟨⟨v2, h2, sb⟩, k2, h3⟩
  have SB := hid sb
  clear sb
  have kk : KpS [p] w1.heap.size w1.drew W2 := (KpS.refl _ _ _).keeps k2 (Nat.le_refl _) (fun i hi _ => hi)
  have KW : Keeps [p] w W2 := (K.out.mono (by simp)).trans ⟨kk.os, kk.tape, kk.output, kk.size, kk.block⟩
  generalize hr : rdNum 2 zs = r at h2 h3
  cases r with
  | error why =>
    have hw0 := HW.out _ hr
    rw [after_err] at h2 h3
    simp only at h2 h3
    subst h3
    refine ⟨_, rfl, kk, ?_⟩
    simp only [Act.put, List.setIfInBounds_toArray, List.set_cons_zero, List.set_cons_succ]
    refine held_do (i := 4) (by kernel_rfl) rfl rfl (wp_enter2 (f := 63) (args := #[eyV p, .int .i64 0]) (by go_simp) (sureI_any W2 B p v2 zs why h2 0) ?_)
    rintro e W3 ⟨rfl, k3⟩
    right
    rw [if_neg hw0]
    refine ⟨_, rfl, ?_⟩
    refine ⟨rfl, KW.trans (k3.mono (by simp)), ?_⟩
    unfold rdHeld
    rw [hr]
    rfl
  | ok xr =>
    obtain ⟨x, rest⟩ := xr
    rw [after_ok] at h2 h3
    simp only at h2 h3
    obtain rfl := h3
    refine ⟨_, rfl, kk, ?_⟩
    simp only [Act.put, List.setIfInBounds_toArray, List.set_cons_zero, List.set_cons_succ]
    refine held_do (i := 4) (by kernel_rfl) rfl rfl (wp_enter2 (f := 63) (args := #[eyV p, .int .i64 x]) (by go_simp) (sureI_any W2 B p v2 rest 0 h2 x) ?_)
    rintro e W3 ⟨rfl, k3⟩
    left
    rw [if_pos rfl]
    have kk3 : KpS [p] w1.heap.size w1.drew W3 := kk.keeps k3 kk.size (by simp)
    refine ⟨_, rfl, kk3, ?_⟩
    simp only [Act.put, List.setIfInBounds_toArray, List.set_cons_zero, List.set_cons_succ]
    refine held_take (i := 5) (v := .int .i64 x) rfl (by kernel_rfl) (by kernel_rfl) (by kernel_rfl) (fun _ _ _ h => h) rfl (fun W1 hW1 => rfl) (kk3) ?_
    simp only [Act.put, List.setIfInBounds_toArray, List.set_cons_zero, List.set_cons_succ]
    refine wpAnyH_done (by kernel_rfl) ?_ _
    have H4 := hid (h2.keep k3 (by simp) (by intro _ _ _ _ _; simp))
    have K4 := hid (KW.trans (k3.mono (by simp)))
    have HR := hid hr
    clear h2 k3 kk kk3 KW cE HD hr
    by_cases hx : 448 < x
    · go_wp2_with fail
      refine ⟨rfl, K4.out, ?_⟩
      unfold rdHeld
      rw [HR.out]
      simp only [if_pos hx]
      rfl
    · go_wp2_with fail
      go_ret
      refine ⟨K4.out, ?_⟩
      unfold rdHeld
      rw [HR.out]
      simp only [if_neg (show ¬ 448 < x by omega)]
      exact ⟨rfl, _, H4.out, SB.out⟩

set_option maxRecDepth 100000 in
set_option maxHeartbeats 1600000 in
theorem eKey_any (w : World) (B p : Nat) (v : Value) (zs : List Int) (h : EyeAt w B p v zs 0) :
    Calls Try.prog 50 #[eyV p] w (GivePost w B p v (rdCount 40 zs) fun x e => e = .returned (.string (strOfNums x))) := by
  unfold eyV
  have HW : Hid (∀ why, rdCount 40 zs = .error why → why ≠ 0) := hid fun _ h => rdCount_why h
  have H := hid (h.keep ((Keeps.refl [] w).alloc (.cells #[.pointer (some ⟨p, 0, none⟩)] 95)) (by simp) (by intro _ _ _ _ _; simp))
  have K := hid ((Keeps.refl [] w).alloc (.cells #[.pointer (some ⟨p, 0, none⟩)] 95))
  have hp := h.lt
  have hc := cell_of_one (heap_alloc_new w (.cells #[.pointer (some ⟨p, 0, none⟩)] 95))
  have C := hid hc
  clear h hc
  go_enter Try.func50, Try.ntmps50
  go_wp2_with fail
  have hz : (w.alloc (.cells #[.pointer (some ⟨p, 0, none⟩)] 95)).heap.size = w.heap.size + 1 := by simp
  generalize w.alloc (.cells #[.pointer (some ⟨p, 0, none⟩)] 95) = w1 at H K C hz ⊢
  refine wp_region_any (by kernel_rfl) (wpAny_of_held (S := KpS [p] w1.heap.size w1.drew) _ _ _ _ ?_)
  change wpAnyH _ _ _ _ _ _ _ _ w1.drew
  have cE : ∀ W1, KpS [p] w1.heap.size w1.drew W1 → W1.cell? ⟨w.heap.size, 0, none⟩ = some (.pointer (some ⟨p, 0, none⟩)) := fun W1 h => h.cell (by rw [World.cell?_drew]; exact C.out) (by omega) (by simp; omega)
  refine held_take (i := 0) (v := eyV p) rfl (by kernel_rfl) (by kernel_rfl) (by kernel_rfl) (fun _ _ _ h => h) rfl (fun W1 hW1 => exec_load _ _ _ _ rfl rfl (loadEy_run W1 _ _ (cE W1 hW1))) (KpS.refl _ _ _) ?_
  simp only [Act.put, List.setIfInBounds_toArray, List.set_cons_zero, List.set_cons_succ]
  refine held_take (i := 1) (v := .pointer (some ⟨w.heap.size, 0, none⟩)) rfl (by kernel_rfl) (by kernel_rfl) (by kernel_rfl) (fun _ _ _ h => h) rfl (fun W1 hW1 => by go_simp) (KpS.refl _ _ _) ?_
  simp only [Act.put, List.setIfInBounds_toArray, List.set_cons_zero, List.set_cons_succ]
  refine held_take (i := 2) (v := .pointer (some ⟨p, 0, none⟩)) rfl (by kernel_rfl) (by kernel_rfl) (by kernel_rfl) (fun _ _ _ h => h) rfl (fun W1 hW1 => exec_load _ _ _ _ rfl rfl (run_loadCell W1 _ _ _ (cE W1 hW1) (agg_no _ (by kernel_rfl)))) (KpS.refl _ _ _) ?_
  simp only [Act.put, List.setIfInBounds_toArray, List.set_cons_zero, List.set_cons_succ]
  have HD : EyeAt w1.drew B p v zs 0 := H.out.keep (Keeps.refl [] w1).drew (by simp) (by intro _ _ _ _ _; simp)
  refine held_do (i := 3) (by kernel_rfl) rfl rfl (wp_enter (f := 66) (args := #[.pointer (some ⟨p, 0, none⟩), .int .i64 40]) (by go_simp) (eyeRaw_any w1.drew B p v zs 0 40 HD) ?_)
  rintro e W2 ⟨⟨v2, h2, sb⟩, k2, h3⟩
  have SB := hid sb
  clear sb
  have kk : KpS [p] w1.heap.size w1.drew W2 := (KpS.refl _ _ _).keeps k2 (Nat.le_refl _) (fun i hi _ => hi)
  have KW : Keeps [p] w W2 := (K.out.mono (by simp)).trans ⟨kk.os, kk.tape, kk.output, kk.size, kk.block⟩
  generalize hr : rdCount 40 zs = r at h2 h3
  cases r with
  | error why =>
    have hw0 := HW.out _ hr
    rw [after_err] at h2 h3
    simp only at h2 h3
    subst h3
    refine ⟨_, rfl, kk, ?_⟩
    simp only [Act.put, List.setIfInBounds_toArray, List.set_cons_zero, List.set_cons_succ]
    refine held_do (i := 4) (by kernel_rfl) rfl rfl (wp_enter2 (f := 65) (args := #[eyV p, .slice none 0 0]) (by go_simp) (sureR_any W2 B p v2 zs why h2 none 0 0) ?_)
    rintro e W3 ⟨rfl, k3⟩
    right
    rw [if_neg hw0]
    refine ⟨_, rfl, ?_⟩
    refine ⟨rfl, KW.trans (k3.mono (by simp)), ?_⟩
    rw [hr]
    rfl
  | ok xr =>
    obtain ⟨x, rest⟩ := xr
    rw [after_ok] at h2 h3
    simp only at h2 h3
    obtain ⟨xa, xc, rfl, hx, -⟩ := h3
    refine ⟨_, rfl, kk, ?_⟩
    simp only [Act.put, List.setIfInBounds_toArray, List.set_cons_zero, List.set_cons_succ]
    refine held_do (i := 4) (by kernel_rfl) rfl rfl (wp_enter2 (f := 65) (args := #[eyV p, .slice xa x.length xc]) (by go_simp) (sureR_any W2 B p v2 rest 0 h2 xa x.length xc) ?_)
    rintro e W3 ⟨rfl, k3⟩
    left
    rw [if_pos rfl]
    have kk3 : KpS [p] w1.heap.size w1.drew W3 := kk.keeps k3 kk.size (by simp)
    refine ⟨_, rfl, kk3, ?_⟩
    simp only [Act.put, List.setIfInBounds_toArray, List.set_cons_zero, List.set_cons_succ]
    have hx3 := hx.keep k3 (by intro _ _ _ _ _; simp)
    refine held_do (i := 5) (by kernel_rfl) rfl rfl (wp_value (exec_convert 31 9 _ rfl rfl (conv_row hx3)) ⟨kk3, ?_⟩)
    simp only [Act.put, List.setIfInBounds_toArray, List.set_cons_zero, List.set_cons_succ]
    refine held_take (i := 6) (v := .string (strOfNums x)) rfl (by kernel_rfl) (by kernel_rfl) (by kernel_rfl) (fun _ _ _ h => h) rfl (fun W1 hW1 => rfl) (kk3) ?_
    simp only [Act.put, List.setIfInBounds_toArray, List.set_cons_zero, List.set_cons_succ]
    refine wpAnyH_done (by kernel_rfl) ?_ _
    have H4 := hid (h2.keep k3 (by simp) (by intro _ _ _ _ _; simp))
    have K4 := hid (KW.trans (k3.mono (by simp)))
    clear h2 k3 kk kk3 KW cE HD
    go_wp2_with fail
    go_ret
    exact ⟨K4.out, by rw [hr]; exact ⟨rfl, _, H4.out, SB.out⟩⟩

def allZ (zs : List Int) : Bool := zs.all (· == 0)
def nouE (zs : List Int) : Ending := if allZ zs then .returned (.tuple #[]) else gaveUp 4
theorem rdNum1 (z : Int) (rest : List Int) : rdNum 1 (z :: rest) = .ok (z, rest) := by simp [rdNum, val]

set_option maxRecDepth 100000 in
set_option maxHeartbeats 3200000 in
theorem eNou_any (w : World) (B p : Nat) (v : Value) (zs : List Int) (h : EyeAt w B p v zs 0) :
    Calls Try.prog 51 #[eyV p] w fun e w' => e = nouE zs ∧ Keeps [p] w w' := by
  unfold eyV
  have H := hid (h.keep ((Keeps.refl [] w).alloc (.cells #[.pointer (some ⟨p, 0, none⟩)] 95)) (by simp) (by intro _ _ _ _ _; simp))
  have K := hid ((Keeps.refl [] w).alloc (.cells #[.pointer (some ⟨p, 0, none⟩)] 95))
  have hp := h.lt
  have hfit := h.fits
  have hc := cell_of_one (heap_alloc_new w (.cells #[.pointer (some ⟨p, 0, none⟩)] 95))
  have C := hid hc
  clear h
  go_enter Try.func51, Try.ntmps51
  go_wp2_with fail
  have hz : (w.alloc (.cells #[.pointer (some ⟨p, 0, none⟩)] 95)).heap.size = w.heap.size + 1 := by simp
  clear hc
  generalize w.alloc (.cells #[.pointer (some ⟨p, 0, none⟩)] 95) = w1 at H K C hz ⊢
  refine (left_any _ B p v zs 0 H.out).mono ?_
  rintro e _ ⟨rfl, rfl⟩
  go_wp2_with fail
  go_loopw [5] (fun i wr => ∃ (k : Nat) (v2 : Value), k ≤ zs.length ∧ i = .int .i64 k ∧ EyeAt wr B p v2 (zs.drop k) 0 ∧ Keeps [p] w1 wr ∧ allZ (zs.take k) = true) (fun i _ => zs.length - (intOf i).toNat)
  case atStart => exact ⟨0, v, by omega, rfl, H.out, Keeps.refl _ _, rfl⟩
  case round =>
    obtain ⟨k, v2, hk, rfl, q1, q2, q3⟩ := hrel
    have Q1 := hid q1
    have Q2 := hid q2
    have Q3 := hid q3
    have hw : w1.heap.size ≤ wr.heap.size := q2.size
    clear q1 q2 q3
    by_cases hlt : k < zs.length
    · obtain ⟨z, rest, hzr⟩ : ∃ z rest, zs.drop k = z :: rest := ⟨_, _, List.drop_eq_getElem_cons hlt⟩
      have hz1 : zs[k] = z := by have := List.drop_eq_getElem_cons hlt; rw [this] at hzr; injection hzr
      have hz2 : zs.drop (k + 1) = rest := by have := List.drop_eq_getElem_cons hlt; rw [this] at hzr; injection hzr
      have ZR := hid hzr
      have Z1 := hid hz1
      have Z2 := hid hz2
      clear hzr hz1 hz2
      go_wp2_with fail
      refine wp_region_any (by kernel_rfl) (wpAny_of_held (S := KpS [p] wr.heap.size wr.drew) _ _ _ _ ?_)
      change wpAnyH _ _ _ _ _ _ _ _ wr.drew
      have cE : ∀ W1, KpS [p] wr.heap.size wr.drew W1 → W1.cell? ⟨w.heap.size, 0, none⟩ = some (.pointer (some ⟨p, 0, none⟩)) := fun W1 h => h.cell (by rw [World.cell?_drew]; exact Q2.out.cell C.out (by simp; omega)) (by omega) (by simp; omega)
      refine held_take (i := 0) (v := eyV p) rfl (by kernel_rfl) (by kernel_rfl) (by kernel_rfl) (fun _ _ _ h => h) rfl (fun W1 hW1 => exec_load _ _ _ _ rfl rfl (loadEy_run W1 _ _ (cE W1 hW1))) (KpS.refl _ _ _) ?_
      simp only [Act.put, List.setIfInBounds_toArray, List.set_cons_zero, List.set_cons_succ]
      refine held_take (i := 1) (v := .pointer (some ⟨w.heap.size, 0, none⟩)) rfl (by kernel_rfl) (by kernel_rfl) (by kernel_rfl) (fun _ _ _ h => h) rfl (fun W1 hW1 => by go_simp) (KpS.refl _ _ _) ?_
      simp only [Act.put, List.setIfInBounds_toArray, List.set_cons_zero, List.set_cons_succ]
      refine held_take (i := 2) (v := .pointer (some ⟨p, 0, none⟩)) rfl (by kernel_rfl) (by kernel_rfl) (by kernel_rfl) (fun _ _ _ h => h) rfl (fun W1 hW1 => exec_load _ _ _ _ rfl rfl (run_loadCell W1 _ _ _ (cE W1 hW1) (agg_no _ (by kernel_rfl)))) (KpS.refl _ _ _) ?_
      simp only [Act.put, List.setIfInBounds_toArray, List.set_cons_zero, List.set_cons_succ]
      have HD : EyeAt wr.drew B p v2 (z :: rest) 0 := by rw [← ZR.out]; exact Q1.out.keep (Keeps.refl [] wr).drew (by simp) (by intro _ _ _ _ _; simp)
      refine held_do (i := 3) (by kernel_rfl) rfl rfl (wp_enter (f := 64) (args := #[.pointer (some ⟨p, 0, none⟩), .int .i64 1]) (by go_simp) (eyeNum_any wr.drew B p v2 (z :: rest) 0 1 HD) ?_)
      rintro e W2 ⟨⟨v3, h2, -⟩, k2, h3⟩
      have kk : KpS [p] wr.heap.size wr.drew W2 := (KpS.refl _ _ _).keeps k2 (Nat.le_refl _) (fun i hi _ => hi)
      rw [rdNum1, after_ok] at h2 h3
      simp only at h2 h3
      obtain rfl := h3
      refine ⟨_, rfl, kk, ?_⟩
      simp only [Act.put, List.setIfInBounds_toArray, List.set_cons_zero, List.set_cons_succ]
      refine held_do (i := 4) (by kernel_rfl) rfl rfl (wp_enter2 (f := 63) (args := #[eyV p, .int .i64 z]) (by go_simp) (sureI_any W2 B p v3 rest 0 h2 z) ?_)
      rintro e W3 ⟨rfl, k3⟩
      left
      rw [if_pos rfl]
      have kk3 : KpS [p] wr.heap.size wr.drew W3 := kk.keeps k3 kk.size (by simp)
      refine ⟨_, rfl, kk3, ?_⟩
      simp only [Act.put, List.setIfInBounds_toArray, List.set_cons_zero, List.set_cons_succ]
      refine held_take (i := 5) (v := .bool (z != 0)) rfl (by kernel_rfl) (by kernel_rfl) (by kernel_rfl) (fun _ _ _ h => h) rfl (fun W1 hW1 => by go_simp) (kk3) ?_
      simp only [Act.put, List.setIfInBounds_toArray, List.set_cons_zero, List.set_cons_succ]
      refine wpAnyH_done (by kernel_rfl) ?_ _
      have H4 := hid (h2.keep k3 (by simp) (by intro _ _ _ _ _; simp))
      have K4 : Hid (Keeps [p] wr W3) := hid ⟨kk3.os, kk3.tape, kk3.output, kk3.size, kk3.block⟩
      clear h2 k2 k3 kk kk3 cE HD
      by_cases hz0 : z = 0
      · have t0 : (z != 0) = false := by simp [hz0]
        have Z0 := hid hz0
        clear hz0
        go_wp2_with fail
        go_roundw
        case rel =>
          refine ⟨k + 1, v3, by omega, by go_num, by rw [Z2.out]; exact H4.out, Q2.out.trans K4.out, ?_⟩
          have e : zs.take (k + 1) = zs.take k ++ [z] := by rw [← Z1.out]; simp
          have q3 := Q3.out
          unfold allZ at q3 ⊢
          rw [e, List.all_append, q3, Z0.out]
          rfl
        case measure => simp [intOf]; omega
      · have t0 : (z != 0) = true := by simp [hz0]
        have Z0 := hid hz0
        clear hz0
        go_wp2_with fail
        refine ⟨rfl, ?_, (K.out.mono (by simp)).trans (Q2.out.trans K4.out)⟩
        have : allZ zs = false := by
          unfold allZ
          rw [List.all_eq_false]
          exact ⟨zs[k], List.getElem_mem hlt, by rw [Z1.out]; simp [Z0.out]⟩
        unfold nouE
        rw [this]
        rfl
    · have : k = zs.length := by omega
      subst this
      have q3 := Q3.out
      rw [List.take_length] at q3
      have Q4 := hid q3
      clear q3
      go_wp2_with fail
      go_end0
      refine ⟨?_, (K.out.mono (by simp)).trans Q2.out⟩
      unfold nouE
      rw [Q4.out]
      rfl
end Go.Proofs.Ytiljhjegfklgmaa


/- Slots: a head is read; what gives up is caught. -/
namespace Go.Proofs.Ytiljhjegfklgmaa
open Go.RowKit Go.Shelf

/-! A head is stored. -/
theorem setHd_block {w : World} {b o : Nat} {c : Array Value} {T : TypeId} (h : Hd) (hb : w.heap[b]? = some (.cells c T (0, 0))) :
    (w.setCells b o h.cells).heap[b]? = some (.cells (((c.setIfInBounds o (.bool h.used)).setIfInBounds (o + 1) (.int .i64 h.held)).setIfInBounds (o + 2) (.string (strOfNums h.key))) T (0, 0)) :=
  heap_setCell_same _ b (o + 1 + 1) _ _ _ (heap_setCell_same _ b (o + 1) _ _ _ (heap_setCell_same w b o _ _ _ hb))
theorem setHd_other (w : World) (b o : Nat) (h : Hd) {k : Nat} (hk : k ≠ b) : (w.setCells b o h.cells).heap[k]? = w.heap[k]? := by
  show (((w.setCell _ _).setCell _ _).setCell _ _).heap[k]? = _
  rw [Below.heap_setCell _ _ _ _ hk, Below.heap_setCell _ _ _ _ hk, Below.heap_setCell _ _ _ _ hk]
theorem setHd_keeps {S : List Nat} {w w' : World} (k : Keeps S w w') {b o : Nat} (h : Hd) (hb : b ∈ S ∨ w.heap.size ≤ b) : Keeps S w (w'.setCells b o h.cells) :=
  ((k.setCell hb _).setCell hb _).setCell hb _
theorem setHd_three {w : World} {b : Nat} {x y z : Value} {T : TypeId} (h : Hd) (hb : w.heap[b]? = some (.cells #[x, y, z] T (0, 0))) : (w.setCells b 0 h.cells).heap[b]? = some (.cells h.cells.toArray T (0, 0)) := by
  rw [setHd_block h hb]; rfl
theorem hdsC_set3 : ∀ (hs : List Hd) (i : Nat) (h : Hd), i < hs.length → (((hdsC hs).set (i * 3) (.bool h.used)).set (i * 3 + 1) (.int .i64 h.held)).set (i * 3 + 2) (.string (strOfNums h.key)) = hdsC (hs.set i h)
  | [], _, _, h => by simp at h
  | x :: l, 0, h, _ => rfl
  | x :: l, i + 1, h, hi => by
    have ih := hdsC_set3 l i h (by simpa using hi)
    have e : hdsC (x :: l) = .bool x.used :: .int .i64 x.held :: .string (strOfNums x.key) :: hdsC l := rfl
    have e2 : hdsC ((x :: l).set (i + 1) h) = .bool x.used :: .int .i64 x.held :: .string (strOfNums x.key) :: hdsC (l.set i h) := rfl
    have e3 : (i + 1) * 3 = i * 3 + 1 + 1 + 1 := by omega
    rw [e, e2, e3, ← ih]
    rfl
theorem setHd_hds {w : World} {b i : Nat} {hs : List Hd} {T : TypeId} (h : Hd) (hi : i < hs.length) (hb : w.heap[b]? = some (.cells (hdsC hs).toArray T (0, 0))) :
    (w.setCells b (i * 3) h.cells).heap[b]? = some (.cells (hdsC (hs.set i h)).toArray T (0, 0)) := by
  rw [setHd_block h hb, ← hdsC_set3 hs i h hi]
  simp

section
variable {ops : Array Oper} {rest : List Oper} {o : Oper} {a : Act} {w : World} {Q : Exit → Act → World → Prop}
theorem wpList_storeHd (hgd : o.guard = none) (x y : Operand) (ho : o.op = .store 72 x y) (b off : Nat) (h : Hd) (hx : a.eval x = .pointer (some ⟨b, off, none⟩)) (hy : a.eval y = hdV h) (ht : w.there b off 3)
    (hk : wpList Try.prog ops Q rest (a.put o.dst undef) (w.setCells b off h.cells)) : wpList Try.prog ops Q (o :: rest) a w :=
  wpList_store_mid hgd 72 x y ho b off h.cells.toArray hx hy ht (by rw [sHd]; rfl) h.one hk
end
theorem there_of {w : World} {b : Nat} {c : Array Value} {T : TypeId} (hb : w.heap[b]? = some (.cells c T (0, 0))) (off n : Nat) (hn : off + n ≤ c.size) : w.there b off n := fun j hj => by
  have hs : off + j < c.size := by omega
  exact ⟨by simp [World.cell?, hb, hs], by simp [World.frozen?, hb]⟩

/-- What a first sector says: no head (none), or a head. -/
def hdOf (zs : List Int) : Option Hd :=
  match rdBool zs with
  | .error _ => none
  | .ok (false, r) => if allZ r then some hd0 else none
  | .ok (true, r) => match rdHeld r with
    | .error _ => none
    | .ok (n, r) => match rdCount 40 r with
      | .error _ => none
      | .ok (k, r) => if allZ r then some ⟨true, n.toNat, k⟩ else none
def hdE (zs : List Int) : Int := if (hdOf zs).isSome then 0 else 4
def hdG (zs : List Int) : Hd := (hdOf zs).getD hd0

theorem run_buildHd0 (w : World) : (Instr.build 72 #[]).run Try.prog w = .ok (hdV hd0) w := by kernel_rfl

set_option maxHeartbeats 400000 in
theorem catchHd_panicking (hb eb : Nat) (x y z u : Value) (why : Int) (older : List PanicEntry) (w : World) (h1 : w.heap[hb]? = some (.cells #[x, y, z] 72 (0, 0))) (h2 : w.heap[eb]? = some (.cells #[u] 25 (0, 0))) (hne : hb ≠ eb) :
    CallsD Try.prog 46 #[.pointer (some ⟨hb, 0, none⟩), .pointer (some ⟨eb, 0, none⟩)] (.panicking ({ v := .iface 25 (.int .i64 why), recovered := false } :: older)) w fun e u' w' =>
      e = .returned (.tuple #[]) ∧ u' = .panicking ({ v := .iface 25 (.int .i64 why), recovered := true } :: older) ∧ w' = (w.setCells hb 0 hd0.cells).setCell ⟨eb, 0, none⟩ (.int .i64 4) := by
  refine callsD_of_wpS Try.func46 rfl fun c₀ cs hu => ?_
  simp only [Try.ntmps46, List.size_toArray, List.length_cons, List.length_nil, Nat.reduceAdd, Nat.reduceSub, Array.replicate_succ,
     Array.replicate_zero, List.push_toArray, List.append_toArray, List.nil_append, List.cons_append]
  have hrec : recoverD (c₀ :: cs) = some (.iface 25 (.int .i64 why), { c₀ with mode := .panicking ({ v := .iface 25 (.int .i64 why), recovered := true } :: older) } :: cs) := by
    simp only [recoverD, hu]
  have hth := there_of h1 0 3 (by simp)
  have f1 : (w.setCells hb 0 hd0.cells).frozen? ⟨eb, 0, none⟩ = false := by simp [World.frozen?, setHd_other w hb 0 hd0 (fun e => hne e.symm), h2]
  have c1 : (w.setCells hb 0 hd0.cells).cell? ⟨eb, 0, none⟩ = some u := by simp [World.cell?, setHd_other w hb 0 hd0 (fun e => hne e.symm), h2]
  refine wpS_recover_lit rfl rfl (Or.inl hrec) ?_
  simp only [Act.put]
  go_wp2_with (first | (refine wpList_storeHd rfl _ _ rfl hb 0 hd0 rfl rfl hth ?_) | fail)
  exact ⟨rfl, _, rfl, .tuple #[], results_none rfl _ _ _, rfl, rfl, rfl⟩

set_option maxHeartbeats 400000 in
theorem catchHd_idle (p q : Addr) (w : World) :
    CallsD Try.prog 46 #[.pointer (some p), .pointer (some q)] .returning w fun e u' w' => e = .returned (.tuple #[]) ∧ u' = .returning ∧ w' = w := by
  refine callsD_of_wpS Try.func46 rfl fun c₀ cs hu => ?_
  simp only [Try.ntmps46, List.size_toArray, List.length_cons, List.length_nil, Nat.reduceAdd, Nat.reduceSub, Array.replicate_succ,
     Array.replicate_zero, List.push_toArray, List.append_toArray, List.nil_append, List.cons_append]
  have hrec : recoverD (c₀ :: cs) = none := by simp only [recoverD, hu]
  refine wpS_recover_lit rfl rfl (Or.inr ⟨hrec, rfl, rfl⟩) ?_
  simp only [Act.put]
  go_wp2_with fail
  refine ⟨rfl, .returning, ?_, .tuple #[], results_none rfl _ _ _, rfl, rfl, rfl⟩
  rw [← hu]

theorem results_cells2 {fn : Func} {p q : Tmp} {t u : TypeId} (h : fn.results = #[.cell p t, .cell q u]) (tmps : Array Value) (w : World) (a b : Addr) (x y : Value) (hp : tmps.getD p undef = .pointer (some a)) (hq : tmps.getD q undef = .pointer (some b))
    (hx : (loadVar t a).run Try.prog w = .ok x w) (hy : (loadVar u b).run Try.prog w = .ok y w) : (results fn tmps).run Try.prog w = .ok (.tuple #[x, y]) w := by
  have hp' : tmps[p]?.getD undef = .pointer (some a) := by simpa using hp
  have hq' : tmps[q]?.getD undef = .pointer (some b) := by simpa using hq
  simp [results, h, hp', hq', asAddr, hx, hy, Result.andThen]
theorem loadHd_var {w : World} {b : Nat} {h : Hd} {T : TypeId} (hb : w.heap[b]? = some (.cells h.cells.toArray T (0, 0))) : (loadVar 72 ⟨b, 0, none⟩).run Try.prog w = .ok (hdV h) w :=
  run_loadVar_mid w b 0 72 h.cells _ (fun j u hu => by rw [Nat.zero_add, cell_of_row w b j _ _ (0, 0) hb]; simpa using hu) uHd rfl (by rw [sHd]; rfl)
theorem loadErr_var {w : World} {b : Nat} {x : Int} (hb : w.cell? ⟨b, 0, none⟩ = some (.int .i64 x)) : (loadVar 25 ⟨b, 0, none⟩).run Try.prog w = .ok (.int .i64 x) w := by
  simp [loadVar, agg_no 25 (by kernel_rfl), hb, Result.andThen]

/-- While a head is read: its three cells, the error, the eye. -/
structure RH (w : World) (q be : Nat) (x y z : Value) (v : Value) (rest : List Int) (W : World) : Prop where
  h : W.heap[w.heap.size]? = some (.cells #[x, y, z] 72 (0, 0))
  e : W.heap[w.heap.size + 1]? = some (.cells #[.int .i64 0] 25 (0, 0))
  c : W.cell? ⟨be, 0, none⟩ = some (.pointer (some ⟨q, 0, none⟩))
  eye : EyeAt W 0 q v rest 0
  low : ∀ ad n c, v = .slice (some ad) n c → w.heap.size + 2 ≤ ad.block
  k : Keeps [] w W
  at_ : w.heap.size + 2 ≤ q ∧ w.heap.size + 2 ≤ be ∧ be ≠ q

section
variable {w : World} {q be : Nat} {x y z v v2 : Value} {rest rest2 : List Int} {W W' : World}
theorem RH.read (H : RH w q be x y z v rest W) (k : Keeps [q] W W') (h : EyeAt W' 0 q v2 rest2 0) (sb : SameBlk v v2) : RH w q be x y z v2 rest2 W' := by
  obtain ⟨a1, a2, a3⟩ := H.at_
  refine ⟨(k.block _ (lt_of_block H.h) (by simp; omega)).trans H.h, (k.block _ (lt_of_block H.e) (by simp; omega)).trans H.e, k.cell H.c (by simp; omega), h, fun ad n c e => ?_, H.k.trans' k (fun i hi hm => by simp at hm; omega), H.at_⟩
  obtain ⟨ad', n', c', e', h'⟩ := sb ad n c e
  rw [← h']
  exact H.low ad' n' c' e'
theorem RH.put (H : RH w q be x y z v rest W) (j : Nat) (u x' y' z' : Value) (hu : (#[x, y, z] : Array Value).setIfInBounds j u = #[x', y', z']) : RH w q be x' y' z' v rest (W.setCell ⟨w.heap.size, j, none⟩ u) := by
  obtain ⟨a1, a2, a3⟩ := H.at_
  have k : Keeps [w.heap.size] W (W.setCell ⟨w.heap.size, j, none⟩ u) := (Keeps.refl _ _).setCell (Or.inl (by simp)) _
  refine ⟨by rw [heap_setCell_same _ _ _ _ _ _ H.h, hu], (Below.heap_setCell _ _ _ _ (show w.heap.size + 1 ≠ w.heap.size by omega)).trans H.e, k.cell H.c (by simp; omega), H.eye.keep k (by simp; omega) (fun ad n c e _ hm => ?_), H.low, H.k.setCell (Or.inr (Nat.le_refl _)) _, H.at_⟩
  have := H.low ad n c e
  simp at hm
  omega
theorem RH.fz (H : RH w q be x y z v rest W) (j : Nat) : W.frozen? ⟨w.heap.size, j, none⟩ = false := by simp [World.frozen?, H.h]
theorem RH.c0 (H : RH w q be x y z v rest W) : W.cell? ⟨w.heap.size, 0, none⟩ = some x := by simp [World.cell?, H.h]
theorem RH.c1 (H : RH w q be x y z v rest W) : W.cell? ⟨w.heap.size, 1, none⟩ = some y := by simp [World.cell?, H.h]
theorem RH.c2 (H : RH w q be x y z v rest W) : W.cell? ⟨w.heap.size, 2, none⟩ = some z := by simp [World.cell?, H.h]
theorem RH.e0 (H : RH w q be x y z v rest W) : W.cell? ⟨w.heap.size + 1, 0, none⟩ = some (.int .i64 0) := by simp [World.cell?, H.e]
theorem RH.fe (H : RH w q be x y z v rest W) : W.frozen? ⟨w.heap.size + 1, 0, none⟩ = false := by simp [World.frozen?, H.e]
end

theorem rdHeld_pos {zs r1 r2 : List Int} {b : Bool} {n : Int} (hb : ∀ z ∈ zs, 0 ≤ z ∧ z ≤ 255) (h1 : rdBool zs = .ok (b, r1)) (h2 : rdHeld r1 = .ok (n, r2)) : 0 ≤ n := by
  have e1 : r1 = zs.drop 1 := by
    unfold rdBool at h1
    split at h1
    · cases h1
    · split at h1
      · cases h1
      · injection h1 with h1; injection h1 with _ h1; exact h1.symm
  unfold rdHeld at h2
  split at h2
  · cases h2
  · rename_i m rr hm
    split at h2
    · cases h2
    · injection h2 with h2
      injection h2 with h2 _
      subst h2
      unfold rdNum at hm
      split at hm
      · cases hm
      · split at hm
        · cases hm
        · injection hm with hm
          injection hm with hm _
          rw [← hm]
          refine (val_bound _ _ rfl fun z hz => hb z ?_).1
          rw [e1] at hz
          exact List.mem_of_mem_drop (List.mem_of_mem_take hz)

set_option maxRecDepth 100000 in
set_option maxHeartbeats 6400000 in
theorem readHead_any (w : World) (v : Value) (zs : List Int) (h : RowAt w v zs) (hl : zs.length ≤ 64) :
    Calls Try.prog 29 #[v] w fun e w' => e = .returned (.tuple #[hdV (hdG zs), .int .i64 (hdE zs)]) ∧ Keeps [] w w' := by
  have HR := hid h
  have HB := hid h.bytes
  clear h
  go_enter_defers Try.func29, Try.ntmps29
  go_wp2_with fail
  have K1 := hid (((Keeps.refl [] w).alloc (.cells #[.bool false, .int .i64 0, .string ⟨#[]⟩] 72)).alloc (.cells #[.int .i64 0] 25))
  have g1 := heap_alloc2_old w (.cells #[.bool false, .int .i64 0, .string ⟨#[]⟩] 72) (.cells #[.int .i64 0] 25)
  have g2 := heap_alloc2_new w (.cells #[.bool false, .int .i64 0, .string ⟨#[]⟩] 72) (.cells #[.int .i64 0] 25)
  have z1 : ((w.alloc (.cells #[.bool false, .int .i64 0, .string ⟨#[]⟩] 72)).alloc (.cells #[.int .i64 0] 25)).heap.size = w.heap.size + 2 := by simp
  generalize (w.alloc (.cells #[.bool false, .int .i64 0, .string ⟨#[]⟩] 72)).alloc (.cells #[.int .i64 0] 25) = w1 at K1 g1 g2 z1 ⊢
  refine (newEye_any w1 0 v zs (HR.out.keep K1.out (by intro _ _ _ _ _; simp)) (Nat.zero_le _) (by omega)).mono ?_
  rintro e w2 ⟨q, ev, rfl, hq, he, k2, hlow⟩
  have z2 : w1.heap.size ≤ w2.heap.size := k2.size
  have a1 := (k2.block w.heap.size (by omega) (by simp)).trans g1
  have a2 := (k2.block (w.heap.size + 1) (by omega) (by simp)).trans g2
  have E2 := hid he
  have A1 := hid a1
  have A2 := hid a2
  have K2 := hid (K1.out.trans k2)
  have LW := hid hlow
  have hq2 := he.lt
  clear he a1 a2 k2 g1 g2 K1 hlow
  go_wp2_with fail
  have HA : RH w q w2.heap.size (.bool false) (.int .i64 0) (.string ⟨#[]⟩) ev zs (w2.alloc (.cells #[.pointer (some ⟨q, 0, none⟩)] 95)) :=
    ⟨(Below.heap_alloc w2 _ w.heap.size (by omega)).trans A1.out, (Below.heap_alloc w2 _ (w.heap.size + 1) (by omega)).trans A2.out, cell_of_one (heap_alloc_new w2 _),
      E2.out.keep ((Keeps.refl [] w2).alloc _) (by simp) (by intro _ _ _ _ _; simp), fun ad n c e => by have := LW.out ad n c e; omega, K2.out.alloc _, by omega, by omega, by omega⟩
  have hA := hid HA
  clear HA A1 A2 K2 E2 LW
  generalize w2.alloc (.cells #[.pointer (some ⟨q, 0, none⟩)] 95) = w3 at hA ⊢
  generalize w2.heap.size = be at hA ⊢
  clear hq2 z2 hq z1
  refine (eUsed_any w3 0 q ev zs hA.out.eye).mono ?_
  rintro e w4 ⟨k4, hm⟩
  have k4' := hid k4
  clear k4
  generalize hr : rdBool zs = r at hm
  have R1 := hid hr
  clear hr
  cases r with
  | error why =>
    obtain rfl := hm
    have h4 : RH w q be (.bool false) (.int .i64 0) (.string ⟨#[]⟩) ev zs w3 := hA.out
    have hh : w4.heap[w.heap.size]? = some (.cells #[.bool false, .int .i64 0, .string ⟨#[]⟩] 72 (0, 0)) := (k4'.out.block _ (lt_of_block h4.h) (by have := h4.at_; simp; omega)).trans h4.h
    have ee : w4.heap[w.heap.size + 1]? = some (.cells #[.int .i64 0] 25 (0, 0)) := (k4'.out.block _ (lt_of_block h4.e) (by have := h4.at_; simp; omega)).trans h4.e
    have KK : Keeps [] w w4 := h4.k.trans' k4'.out (fun i hi hm => by have := h4.at_; simp at hm; omega)
    have H4 : Hid (_ ∧ _ ∧ _) := hid ⟨hh, ee, KK⟩
    clear h4 hh ee KK k4' hA
    unfold gaveUp
    go_wp2_with fail
    refine leaves_cons (f := 46) (args := #[.pointer (some ⟨w.heap.size, 0, none⟩), .pointer (some ⟨w.heap.size + 1, 0, none⟩)]) (by simp) (by simp [go_sem]) ?_
    refine (catchHd_panicking w.heap.size (w.heap.size + 1) _ _ _ _ _ [] w4 H4.out.1 H4.out.2.1 (by omega)).mono ?_
    rintro e u' w9 ⟨rfl, rfl, rfl⟩
    have hn : hdOf zs = none := by unfold hdOf; rw [R1.out]
    refine ⟨_, results_cells2 rfl _ _ ⟨w.heap.size, 0, none⟩ ⟨w.heap.size + 1, 0, none⟩ _ _ rfl rfl (loadHd_var (h := hd0) ((Below.heap_setCell _ _ _ _ (by simp)).trans (setHd_three hd0 H4.out.1))) (loadErr_var (x := 4) (cell_of_one (heap_setCell_same _ _ _ _ _ _ ((setHd_other _ _ _ _ (by omega)).trans H4.out.2.1)))), ?_, (setHd_keeps H4.out.2.2 hd0 (Or.inr (Nat.le_refl _))).setCell (Or.inr (by simp)) _⟩
    simp [hdG, hdE, hn]
  | ok xr =>
    obtain ⟨x, r1⟩ := xr
    obtain ⟨rfl, v4, e4, sb4⟩ := hm
    have h4 := hA.out.read k4'.out e4 sb4
    have f0 := h4.fz 0
    have c0 := h4.c0
    cases x with
    | false =>
      have h5 := h4.put 0 (.bool false) (.bool false) (.int .i64 0) (.string ⟨#[]⟩) rfl
      have c5 := h5.c
      have H5 := hid h5
      clear h4 h5 e4 sb4 k4' hA
      go_wp2_with fail
      clear c0 f0 c5
      generalize w4.setCell ⟨w.heap.size, 0, none⟩ (.bool false) = w5 at H5 ⊢
      refine (eNou_any w5 0 q v4 r1 H5.out.eye).mono ?_
      rintro e w6 ⟨rfl, k6⟩
      have h5 := H5.out
      have hh : w6.heap[w.heap.size]? = some (.cells #[.bool false, .int .i64 0, .string ⟨#[]⟩] 72 (0, 0)) := (k6.block _ (lt_of_block h5.h) (by have := h5.at_; simp; omega)).trans h5.h
      have ee : w6.heap[w.heap.size + 1]? = some (.cells #[.int .i64 0] 25 (0, 0)) := (k6.block _ (lt_of_block h5.e) (by have := h5.at_; simp; omega)).trans h5.e
      have KK : Keeps [] w w6 := h5.k.trans' k6 (fun i hi hm => by have := h5.at_; simp at hm; omega)
      have H6 : Hid (_ ∧ _ ∧ _) := hid ⟨hh, ee, KK⟩
      clear h5 hh ee KK k6 H5
      unfold nouE
      by_cases hz : allZ r1 = true
      · rw [if_pos hz]
        have HZ := hid hz
        clear hz
        have hth := there_of H6.out.1 0 3 (by simp)
        have f9 : (w6.setCells w.heap.size 0 (hd0 : Hd).cells).frozen? ⟨w.heap.size + 1, 0, none⟩ = false := by simp [World.frozen?, setHd_other w6 w.heap.size 0 hd0 (show w.heap.size + 1 ≠ w.heap.size by omega), H6.out.2.1]
        have c9 : (w6.setCells w.heap.size 0 (hd0 : Hd).cells).cell? ⟨w.heap.size + 1, 0, none⟩ = some (.int .i64 0) := by simp [World.cell?, setHd_other w6 w.heap.size 0 hd0 (show w.heap.size + 1 ≠ w.heap.size by omega), H6.out.2.1]
        have l9 : w6.rangeAt w.heap.size 0 (hd0 : Hd).cells := fun j u hu => by rw [Nat.zero_add, cell_of_row w6 w.heap.size j _ _ (0, 0) H6.out.1]; show ((hd0 : Hd).cells.toArray)[j]? = some u; simpa using hu
        go_wp2_with (first | (refine wpList_loadHd rfl _ rfl w.heap.size 0 rfl hd0 l9 ?_) | (refine wpList_storeHd rfl _ _ rfl w.heap.size 0 hd0 rfl rfl hth ?_) | fail)
        refine leaves_cons (f := 46) (args := #[.pointer (some ⟨w.heap.size, 0, none⟩), .pointer (some ⟨w.heap.size + 1, 0, none⟩)]) (by simp) (by simp [go_sem]) ?_
        refine (catchHd_idle _ _ _).mono ?_
        rintro e u' w9 ⟨rfl, rfl, rfl⟩
        have hn : hdOf zs = some hd0 := by unfold hdOf; rw [R1.out]; simp only [HZ.out, if_true]
        refine ⟨_, results_cells2 rfl _ _ ⟨w.heap.size, 0, none⟩ ⟨w.heap.size + 1, 0, none⟩ _ _ rfl rfl (loadHd_var (h := hd0) ((Below.heap_setCell _ _ _ _ (by simp)).trans (setHd_three hd0 H6.out.1))) (loadErr_var (x := 0) (cell_of_one (heap_setCell_same _ _ _ _ _ _ ((setHd_other _ _ _ _ (by omega)).trans H6.out.2.1)))), ?_, (setHd_keeps H6.out.2.2 hd0 (Or.inr (Nat.le_refl _))).setCell (Or.inr (by simp)) _⟩
        simp [hdG, hdE, hn]
      · rw [if_neg hz]
        have HZ := hid hz
        clear hz
        unfold gaveUp
        go_wp2_with fail
        refine leaves_cons (f := 46) (args := #[.pointer (some ⟨w.heap.size, 0, none⟩), .pointer (some ⟨w.heap.size + 1, 0, none⟩)]) (by simp) (by simp [go_sem]) ?_
        refine (catchHd_panicking w.heap.size (w.heap.size + 1) _ _ _ _ _ [] w6 H6.out.1 H6.out.2.1 (by omega)).mono ?_
        rintro e u' w9 ⟨rfl, rfl, rfl⟩
        have hn : hdOf zs = none := by unfold hdOf; rw [R1.out]; simp only [if_neg HZ.out]
        refine ⟨_, results_cells2 rfl _ _ ⟨w.heap.size, 0, none⟩ ⟨w.heap.size + 1, 0, none⟩ _ _ rfl rfl (loadHd_var (h := hd0) ((Below.heap_setCell _ _ _ _ (by simp)).trans (setHd_three hd0 H6.out.1))) (loadErr_var (x := 4) (cell_of_one (heap_setCell_same _ _ _ _ _ _ ((setHd_other _ _ _ _ (by omega)).trans H6.out.2.1)))), ?_, (setHd_keeps H6.out.2.2 hd0 (Or.inr (Nat.le_refl _))).setCell (Or.inr (by simp)) _⟩
        simp [hdG, hdE, hn]
    | true =>
      have h5 := h4.put 0 (.bool true) (.bool true) (.int .i64 0) (.string ⟨#[]⟩) rfl
      have c5 := h5.c
      have H5 := hid h5
      clear h4 h5 e4 sb4 k4' hA
      go_wp2_with fail
      clear c0 f0 c5
      generalize w4.setCell ⟨w.heap.size, 0, none⟩ (.bool true) = w5 at H5 ⊢
      refine (eHeld_any w5 0 q v4 r1 H5.out.eye).mono ?_
      rintro e w6 ⟨k6, hm⟩
      generalize hr : rdHeld r1 = r at hm
      have R2 := hid hr
      clear hr
      cases r with
      | error why =>
        obtain rfl := hm
        have h5 := H5.out
        have hh : w6.heap[w.heap.size]? = some (.cells #[.bool true, .int .i64 0, .string ⟨#[]⟩] 72 (0, 0)) := (k6.block _ (lt_of_block h5.h) (by have := h5.at_; simp; omega)).trans h5.h
        have ee : w6.heap[w.heap.size + 1]? = some (.cells #[.int .i64 0] 25 (0, 0)) := (k6.block _ (lt_of_block h5.e) (by have := h5.at_; simp; omega)).trans h5.e
        have KK : Keeps [] w w6 := h5.k.trans' k6 (fun i hi hm => by have := h5.at_; simp at hm; omega)
        have H6 : Hid (_ ∧ _ ∧ _) := hid ⟨hh, ee, KK⟩
        clear h5 hh ee KK k6 H5
        unfold gaveUp
        go_wp2_with fail
        refine leaves_cons (f := 46) (args := #[.pointer (some ⟨w.heap.size, 0, none⟩), .pointer (some ⟨w.heap.size + 1, 0, none⟩)]) (by simp) (by simp [go_sem]) ?_
        refine (catchHd_panicking w.heap.size (w.heap.size + 1) _ _ _ _ _ [] w6 H6.out.1 H6.out.2.1 (by omega)).mono ?_
        rintro e u' w9 ⟨rfl, rfl, rfl⟩
        have hn : hdOf zs = none := by unfold hdOf; rw [R1.out]; simp only [R2.out]
        refine ⟨_, results_cells2 rfl _ _ ⟨w.heap.size, 0, none⟩ ⟨w.heap.size + 1, 0, none⟩ _ _ rfl rfl (loadHd_var (h := hd0) ((Below.heap_setCell _ _ _ _ (by simp)).trans (setHd_three hd0 H6.out.1))) (loadErr_var (x := 4) (cell_of_one (heap_setCell_same _ _ _ _ _ _ ((setHd_other _ _ _ _ (by omega)).trans H6.out.2.1)))), ?_, (setHd_keeps H6.out.2.2 hd0 (Or.inr (Nat.le_refl _))).setCell (Or.inr (by simp)) _⟩
        simp [hdG, hdE, hn]
      | ok xr =>
        obtain ⟨n, r2⟩ := xr
        obtain ⟨rfl, v6, e6, sb6⟩ := hm
        have h6 := H5.out.read k6 e6 sb6
        have f1 := h6.fz 1
        have c1 := h6.c1
        have h7 := h6.put 1 (.int .i64 n) (.bool true) (.int .i64 n) (.string ⟨#[]⟩) rfl
        have c7 := h7.c
        have H7 := hid h7
        clear h6 h7 e6 sb6 k6 H5
        go_wp2_with fail
        clear c1 f1 c7
        generalize w6.setCell ⟨w.heap.size, 1, none⟩ (.int .i64 n) = w7 at H7 ⊢
        refine (eKey_any w7 0 q v6 r2 H7.out.eye).mono ?_
        rintro e w8 ⟨k8, hm⟩
        generalize hr : rdCount 40 r2 = r at hm
        have R3 := hid hr
        clear hr
        cases r with
        | error why =>
          obtain rfl := hm
          have h5 := H7.out
          have hh : w8.heap[w.heap.size]? = some (.cells #[.bool true, .int .i64 n, .string ⟨#[]⟩] 72 (0, 0)) := (k8.block _ (lt_of_block h5.h) (by have := h5.at_; simp; omega)).trans h5.h
          have ee : w8.heap[w.heap.size + 1]? = some (.cells #[.int .i64 0] 25 (0, 0)) := (k8.block _ (lt_of_block h5.e) (by have := h5.at_; simp; omega)).trans h5.e
          have KK : Keeps [] w w8 := h5.k.trans' k8 (fun i hi hm => by have := h5.at_; simp at hm; omega)
          have H6 : Hid (_ ∧ _ ∧ _) := hid ⟨hh, ee, KK⟩
          clear h5 hh ee KK k8 H7
          unfold gaveUp
          go_wp2_with fail
          refine leaves_cons (f := 46) (args := #[.pointer (some ⟨w.heap.size, 0, none⟩), .pointer (some ⟨w.heap.size + 1, 0, none⟩)]) (by simp) (by simp [go_sem]) ?_
          refine (catchHd_panicking w.heap.size (w.heap.size + 1) _ _ _ _ _ [] w8 H6.out.1 H6.out.2.1 (by omega)).mono ?_
          rintro e u' w9 ⟨rfl, rfl, rfl⟩
          have hn : hdOf zs = none := by unfold hdOf; rw [R1.out]; simp only [R2.out, R3.out]
          refine ⟨_, results_cells2 rfl _ _ ⟨w.heap.size, 0, none⟩ ⟨w.heap.size + 1, 0, none⟩ _ _ rfl rfl (loadHd_var (h := hd0) ((Below.heap_setCell _ _ _ _ (by simp)).trans (setHd_three hd0 H6.out.1))) (loadErr_var (x := 4) (cell_of_one (heap_setCell_same _ _ _ _ _ _ ((setHd_other _ _ _ _ (by omega)).trans H6.out.2.1)))), ?_, (setHd_keeps H6.out.2.2 hd0 (Or.inr (Nat.le_refl _))).setCell (Or.inr (by simp)) _⟩
          simp [hdG, hdE, hn]
        | ok xr =>
          obtain ⟨ky, r3⟩ := xr
          obtain ⟨rfl, v8, e8, sb8⟩ := hm
          have h6 := H7.out.read k8 e8 sb8
          have f1 := h6.fz 2
          have c1 := h6.c2
          have h7 := h6.put 2 (.string (strOfNums ky)) (.bool true) (.int .i64 n) (.string (strOfNums ky)) rfl
          have c7 := h7.c
          have H9 := hid h7
          clear h6 h7 e8 sb8 k8 H7
          go_wp2_with fail
          clear c1 f1 c7
          generalize w8.setCell ⟨w.heap.size, 2, none⟩ (.string (strOfNums ky)) = wA at H9 ⊢
          refine (eNou_any wA 0 q v8 r3 H9.out.eye).mono ?_
          rintro e wB ⟨rfl, kB⟩
          have hn0 : 0 ≤ n := rdHeld_pos HB.out R1.out R2.out
          obtain ⟨nn, rfl⟩ := Int.eq_ofNat_of_zero_le hn0
          have h5 := H9.out
          have hh : wB.heap[w.heap.size]? = some (.cells #[.bool true, .int .i64 nn, .string (strOfNums ky)] 72 (0, 0)) := (kB.block _ (lt_of_block h5.h) (by have := h5.at_; simp; omega)).trans h5.h
          have ee : wB.heap[w.heap.size + 1]? = some (.cells #[.int .i64 0] 25 (0, 0)) := (kB.block _ (lt_of_block h5.e) (by have := h5.at_; simp; omega)).trans h5.e
          have KK : Keeps [] w wB := h5.k.trans' kB (fun i hi hm => by have := h5.at_; simp at hm; omega)
          have H6 : Hid (_ ∧ _ ∧ _) := hid ⟨hh, ee, KK⟩
          clear h5 hh ee KK kB H9
          unfold nouE
          by_cases hz : allZ r3 = true
          · rw [if_pos hz]
            have HZ := hid hz
            clear hz
            have hth := there_of H6.out.1 0 3 (by simp)
            have f9 : (wB.setCells w.heap.size 0 ((⟨true, nn, ky⟩ : Hd) : Hd).cells).frozen? ⟨w.heap.size + 1, 0, none⟩ = false := by simp [World.frozen?, setHd_other wB w.heap.size 0 (⟨true, nn, ky⟩ : Hd) (show w.heap.size + 1 ≠ w.heap.size by omega), H6.out.2.1]
            have c9 : (wB.setCells w.heap.size 0 ((⟨true, nn, ky⟩ : Hd) : Hd).cells).cell? ⟨w.heap.size + 1, 0, none⟩ = some (.int .i64 0) := by simp [World.cell?, setHd_other wB w.heap.size 0 (⟨true, nn, ky⟩ : Hd) (show w.heap.size + 1 ≠ w.heap.size by omega), H6.out.2.1]
            have l9 : wB.rangeAt w.heap.size 0 ((⟨true, nn, ky⟩ : Hd) : Hd).cells := fun j u hu => by rw [Nat.zero_add, cell_of_row wB w.heap.size j _ _ (0, 0) H6.out.1]; show (((⟨true, nn, ky⟩ : Hd) : Hd).cells.toArray)[j]? = some u; simpa using hu
            go_wp2_with (first | (refine wpList_loadHd rfl _ rfl w.heap.size 0 rfl (⟨true, nn, ky⟩ : Hd) l9 ?_) | (refine wpList_storeHd rfl _ _ rfl w.heap.size 0 (⟨true, nn, ky⟩ : Hd) rfl rfl hth ?_) | fail)
            refine leaves_cons (f := 46) (args := #[.pointer (some ⟨w.heap.size, 0, none⟩), .pointer (some ⟨w.heap.size + 1, 0, none⟩)]) (by simp) (by simp [go_sem]) ?_
            refine (catchHd_idle _ _ _).mono ?_
            rintro e u' w9 ⟨rfl, rfl, rfl⟩
            have hn : hdOf zs = some (⟨true, nn, ky⟩ : Hd) := by unfold hdOf; rw [R1.out]; simp only [R2.out, R3.out, HZ.out, if_true]; rfl
            refine ⟨_, results_cells2 rfl _ _ ⟨w.heap.size, 0, none⟩ ⟨w.heap.size + 1, 0, none⟩ _ _ rfl rfl (loadHd_var (h := (⟨true, nn, ky⟩ : Hd)) ((Below.heap_setCell _ _ _ _ (by simp)).trans (setHd_three (⟨true, nn, ky⟩ : Hd) H6.out.1))) (loadErr_var (x := 0) (cell_of_one (heap_setCell_same _ _ _ _ _ _ ((setHd_other _ _ _ _ (by omega)).trans H6.out.2.1)))), ?_, (setHd_keeps H6.out.2.2 (⟨true, nn, ky⟩ : Hd) (Or.inr (Nat.le_refl _))).setCell (Or.inr (by simp)) _⟩
            simp [hdG, hdE, hn]
          · rw [if_neg hz]
            have HZ := hid hz
            clear hz
            unfold gaveUp
            go_wp2_with fail
            refine leaves_cons (f := 46) (args := #[.pointer (some ⟨w.heap.size, 0, none⟩), .pointer (some ⟨w.heap.size + 1, 0, none⟩)]) (by simp) (by simp [go_sem]) ?_
            refine (catchHd_panicking w.heap.size (w.heap.size + 1) _ _ _ _ _ [] wB H6.out.1 H6.out.2.1 (by omega)).mono ?_
            rintro e u' w9 ⟨rfl, rfl, rfl⟩
            have hn : hdOf zs = none := by unfold hdOf; rw [R1.out]; simp only [R2.out, R3.out, if_neg HZ.out]
            refine ⟨_, results_cells2 rfl _ _ ⟨w.heap.size, 0, none⟩ ⟨w.heap.size + 1, 0, none⟩ _ _ rfl rfl (loadHd_var (h := hd0) ((Below.heap_setCell _ _ _ _ (by simp)).trans (setHd_three hd0 H6.out.1))) (loadErr_var (x := 4) (cell_of_one (heap_setCell_same _ _ _ _ _ _ ((setHd_other _ _ _ _ (by omega)).trans H6.out.2.1)))), ?_, (setHd_keeps H6.out.2.2 hd0 (Or.inr (Nat.le_refl _))).setCell (Or.inr (by simp)) _⟩
            simp [hdG, hdE, hn]
end Go.Proofs.Ytiljhjegfklgmaa


/- Slots: what is asked of the heads that this one heard of: Used, Key, mayTake, Find, Free. -/
namespace Go.Proofs.Ytiljhjegfklgmaa
open Go.RowKit Go.Shelf

/-- The head of a slot; none's, where there is no such slot. -/
def headS (hs : List Hd) (i : Int) : Hd := if hasS hs i then hs.getD i.toNat hd0 else hd0
def usedS (hs : List Hd) (i : Int) : Bool := (headS hs i).used
theorem headS_at {hs : List Hd} {k : Nat} (h : k < hs.length) : headS hs (k : Int) = hs[k] := by
  unfold headS
  rw [if_pos (by simp [hasS, h])]
  simp [h]
theorem headS_no {hs : List Hd} {i : Int} (h : hasS hs i = false) : headS hs i = hd0 := by simp [headS, h]
theorem hasS_cases (hs : List Hd) (i : Int) : hasS hs i = false ∨ ∃ k : Nat, i = k ∧ k < hs.length ∧ hasS hs i = true := by
  cases h : hasS hs i with
  | false => exact .inl rfl
  | true =>
    right
    simp [hasS] at h
    obtain ⟨k, rfl⟩ := Int.eq_ofNat_of_zero_le h.1
    exact ⟨k, rfl, by omega, rfl⟩

section
variable (w : World) (q p g first : Nat) (hs : List Hd)
set_option maxHeartbeats 800000 in
theorem lUsed_any (S : SlotsAt w q p g first hs) (i : Int) : Calls Try.prog 33 #[.pointer (some ⟨q, 0, none⟩), .int .i64 i] w fun e w' => e = .returned (.bool (usedS hs i)) ∧ w = w' := by
  have HS := hid S
  have c2 := S.c2
  unfold usedS
  rcases hasS_cases hs i with hn | ⟨k, rfl, hk, ht⟩
  · rw [headS_no hn]
    have HN := hid hn
    clear hn S
    go_enter Try.func33, Try.ntmps33
    go_wp2_with fail
    refine (lHas_any w q p g first hs HS.out i).mono ?_
    rintro e w' ⟨rfl, rfl⟩
    rw [HN.out]
    go_wp2_with fail
    go_ret
    exact ⟨rfl, rfl⟩
  · rw [headS_at hk]
    have cu := S.u k hk
    have hlt : (k : Int) < (hs.length : Int) := by omega
    have HT := hid ht
    clear ht S
    generalize hs[k].used = b at cu ⊢
    go_enter Try.func33, Try.ntmps33
    go_wp2_with fail
    refine (lHas_any w q p g first hs HS.out k).mono ?_
    rintro e w' ⟨rfl, rfl⟩
    rw [HT.out]
    go_wp2_with fail
    go_ret
    exact ⟨rfl, rfl⟩

/-- Why nothing can be taken out of a slot. -/
def takeE (hs : List Hd) (i : Int) : Int := if hasS hs i then (if usedS hs i then 0 else 6) else 1
theorem lTake_any (S : SlotsAt w q p g first hs) (i : Int) : Calls Try.prog 40 #[.pointer (some ⟨q, 0, none⟩), .int .i64 i] w fun e w' => e = .returned (.int .i64 (takeE hs i)) ∧ w = w' := by
  have HS := hid S
  clear S
  obtain ⟨te, hte⟩ : ∃ x, x = takeE hs i := ⟨_, rfl⟩
  have HTE := hid hte
  rw [← hte]
  clear hte
  go_enter Try.func40, Try.ntmps40
  go_wp2_with fail
  refine (lMade_any w q p g first hs HS.out).mono ?_
  rintro e w' ⟨rfl, rfl⟩
  go_wp2_with fail
  refine (lHas_any w q p g first hs HS.out i).mono ?_
  rintro e w' ⟨rfl, rfl⟩
  cases hb : hasS hs i with
  | false =>
    have HB := hid hb
    clear hb
    go_wp2_with fail
    go_ret
    refine ⟨?_, rfl⟩
    rw [HTE.out, takeE, HB.out]
    rfl
  | true =>
    have HB := hid hb
    clear hb
    go_wp2_with fail
    refine (lUsed_any w q p g first hs HS.out i).mono ?_
    rintro e w' ⟨rfl, rfl⟩
    cases hu : usedS hs i with
    | false =>
      have HU := hid hu
      clear hu
      go_wp2_with fail
      go_ret
      refine ⟨?_, rfl⟩
      rw [HTE.out, takeE, HB.out, HU.out]
      rfl
    | true =>
      have HU := hid hu
      clear hu
      go_wp2_with fail
      go_ret
      refine ⟨?_, rfl⟩
      rw [HTE.out, takeE, HB.out, HU.out]
      rfl
end

/-! The first slot with such a head. -/
def idxS (pr : Hd → Bool) (hs : List Hd) : Int := match hs.findIdx? pr with | some i => i | none => -1
def freeS (hs : List Hd) : Int := idxS (fun h => !h.used) hs
def findS (hs : List Hd) (k : List Int) : Int := idxS (fun h => h.used && decide (h.key = k)) hs

theorem idxS_hit {pr : Hd → Bool} {hs : List Hd} {k : Nat} (hk : k < hs.length) (h0 : ∀ j (hj : j < k), pr (hs[j]'(by omega)) = false) (h1 : pr hs[k] = true) : idxS pr hs = k := by
  unfold idxS
  have : hs.findIdx? pr = some k := by
    rw [List.findIdx?_eq_some_iff_getElem]
    exact ⟨hk, h1, fun j hj => by simp [h0 j hj]⟩
  rw [this]
theorem idxS_miss {pr : Hd → Bool} {hs : List Hd} (h0 : ∀ j (hj : j < hs.length), pr hs[j] = false) : idxS pr hs = -1 := by
  unfold idxS
  have : hs.findIdx? pr = none := by
    rw [List.findIdx?_eq_none_iff]
    intro x hx
    obtain ⟨j, hj, rfl⟩ := List.getElem_of_mem hx
    exact h0 j hj
  rw [this]

theorem freeF_any (h : Hd) (w : World) : Calls Try.prog 44 #[hdV h] w fun e w' => e = .returned (.bool (!h.used)) ∧ Keeps [] w w' := by
  unfold hdV Hd.cells
  generalize h.used = b
  generalize h.held = n
  generalize strOfNums h.key = s
  go_enter Try.func44, Try.ntmps44
  go_wp2_with fail
  go_ret
  exact ⟨rfl, (Keeps.refl _ _).alloc _⟩

theorem strOf_inj {a b : List Int} (ha : ∀ z ∈ a, 0 ≤ z ∧ z ≤ 255) (hb : ∀ z ∈ b, 0 ≤ z ∧ z ≤ 255) : ((strOfNums a).toList == (strOfNums b).toList) = decide (a = b) := by
  by_cases h : a = b
  · subst h; simp
  · have : (strOfNums a).toList ≠ (strOfNums b).toList := fun e => h (by
      rw [ByteArray.toList_eq, ByteArray.toList_eq] at e
      rw [← codes_strOf a ha, ← codes_strOf b hb]
      unfold codes
      rw [e])
    simp [h, this]

theorem findF_any (h : Hd) (w : World) (kc : Nat) (kv : Value) (ks : List Int) (hh : ∀ z ∈ h.key, 0 ≤ z ∧ z ≤ 255) (hc : w.cell? ⟨kc, 0, none⟩ = some kv) (hr : RowAt w kv ks) :
    Calls Try.prog 43 #[hdV h, .pointer (some ⟨kc, 0, none⟩)] w fun e w' => e = .returned (.bool (h.used && decide (h.key = ks))) ∧ Keeps [] w w' := by
  have hb := hr.bytes
  rw [← strOf_inj hh hb]
  clear hh hb
  have k1 := (Keeps.refl [] w).alloc (.cells h.cells.toArray 72)
  have cv := conv_row (hr.keep k1 (by intro _ _ _ _ _; simp))
  have hc1 := k1.cell hc (by simp)
  clear hr k1 hc
  unfold hdV
  unfold Hd.cells at *
  generalize h.used = b at *
  generalize h.held = n at *
  generalize strOfNums h.key = s at *
  cases b
  · go_enter Try.func43, Try.ntmps43
    go_wp2_with fail
    go_ret
    exact ⟨rfl, (Keeps.refl _ _).alloc _⟩
  · go_enter Try.func43, Try.ntmps43
    go_wp2_with fail
    go_ret
    exact ⟨rfl, (Keeps.refl _ _).alloc _⟩

set_option maxHeartbeats 1600000 in
theorem idxFree_any (w : World) (q p g first : Nat) (hs : List Hd) (S : SlotsAt w q p g first hs) :
    Calls Try.prog 59 #[.slice (some ⟨g, 0, none⟩) hs.length hs.length, .func (.func 44) #[] #[]] w fun e w' => e = .returned (.int .i64 (idxS (fun h => !h.used) hs)) ∧ Keeps [] w w' := by
  have HS := hid S
  have hfew := S.few
  clear S
  go_enter Try.func59, Try.ntmps59
  go_wp2_with fail
  go_loopw [8] (fun i wr => ∃ (k : Nat), k ≤ hs.length ∧ i = .int .i64 k ∧ Keeps [] w wr ∧ ∀ j (hj : j < k) (hj2 : j < hs.length), (fun h => !h.used) hs[j] = false) (fun i _ => hs.length - (intOf i).toNat)
  case atStart => exact ⟨0, by omega, rfl, Keeps.refl _ _, fun j hj => absurd hj (by omega)⟩
  case round =>
    obtain ⟨k, hk, rfl, q1, q2⟩ := hrel
    have Q1 := hid q1
    have Q2 := hid q2
    clear q1 q2
    by_cases hlt : k < hs.length
    · have hlt' : (k : Int) < (hs.length : Int) := by omega
      have hat := (HS.out.keep Q1.out (by simp) (by simp)).at_ k hlt
      have HOK := hid (HS.out.ok hs[k] (List.getElem_mem hlt))
      generalize hh : hs[k] = h at hat HOK
      have HH := hid hh
      clear hh
      go_wp2_with (first | (refine wpList_loadHd rfl _ rfl g (k * 3) (by first | rfl | go_simp) h hat ?_) | fail)
      refine (freeF_any h wr).mono ?_
      rintro e w2 ⟨rfl, k2⟩
      have K2 := hid (Q1.out.trans k2)
      clear k2
      generalize hp : (!h.used) = b
      have HP := hid hp
      clear hp hat
      cases b with
      | true =>
        go_wp2_with fail
        go_ret
        refine ⟨?_, K2.out⟩
        rw [idxS_hit (k := k) hlt (fun j hj => Q2.out j hj (by omega)) (by rw [HH.out]; exact HP.out)]
        rfl
      | false =>
        go_wp2_with fail
        go_roundw
        case rel =>
          refine ⟨k + 1, by omega, by go_num, K2.out, fun j hj hj2 => ?_⟩
          by_cases e : j = k
          · subst e; rw [HH.out]; exact HP.out
          · exact Q2.out j (by omega) hj2
        case measure => simp [intOf]; omega
    · have : k = hs.length := by omega
      subst this
      go_wp2_with fail
      go_ret
      refine ⟨?_, Q1.out⟩
      rw [idxS_miss (fun j hj => Q2.out j hj hj)]
      rfl

set_option maxHeartbeats 1600000 in
theorem idxFind_any (w : World) (q p g first : Nat) (hs : List Hd) (S : SlotsAt w q p g first hs) (kc : Nat) (kv : Value) (ks : List Int) (hkc : w.cell? ⟨kc, 0, none⟩ = some kv) (hkr : RowAt w kv ks) :
    Calls Try.prog 59 #[.slice (some ⟨g, 0, none⟩) hs.length hs.length, .func (.func 43) #[] #[.pointer (some ⟨kc, 0, none⟩)]] w fun e w' => e = .returned (.int .i64 (idxS (fun h => h.used && decide (h.key = ks)) hs)) ∧ Keeps [] w w' := by
  have HS := hid S
  have hfew := S.few
  clear S
  go_enter Try.func59, Try.ntmps59
  go_wp2_with fail
  go_loopw [8] (fun i wr => ∃ (k : Nat), k ≤ hs.length ∧ i = .int .i64 k ∧ Keeps [] w wr ∧ ∀ j (hj : j < k) (hj2 : j < hs.length), (fun h => h.used && decide (h.key = ks)) hs[j] = false) (fun i _ => hs.length - (intOf i).toNat)
  case atStart => exact ⟨0, by omega, rfl, Keeps.refl _ _, fun j hj => absurd hj (by omega)⟩
  case round =>
    obtain ⟨k, hk, rfl, q1, q2⟩ := hrel
    have Q1 := hid q1
    have Q2 := hid q2
    clear q1 q2
    by_cases hlt : k < hs.length
    · have hlt' : (k : Int) < (hs.length : Int) := by omega
      have hat := (HS.out.keep Q1.out (by simp) (by simp)).at_ k hlt
      have HOK := hid (HS.out.ok hs[k] (List.getElem_mem hlt))
      generalize hh : hs[k] = h at hat HOK
      have HH := hid hh
      clear hh
      go_wp2_with (first | (refine wpList_loadHd rfl _ rfl g (k * 3) (by first | rfl | go_simp) h hat ?_) | fail)
      refine (findF_any h wr kc kv ks HOK.out.byte (Q1.out.cell hkc (by simp)) (hkr.keep Q1.out (by intro _ _ _ _ _; simp))).mono ?_
      rintro e w2 ⟨rfl, k2⟩
      have K2 := hid (Q1.out.trans k2)
      clear k2
      generalize hp : (h.used && decide (h.key = ks)) = b
      have HP := hid hp
      clear hp hat
      cases b with
      | true =>
        go_wp2_with fail
        go_ret
        refine ⟨?_, K2.out⟩
        rw [idxS_hit (k := k) hlt (fun j hj => Q2.out j hj (by omega)) (by rw [HH.out]; exact HP.out)]
        rfl
      | false =>
        go_wp2_with fail
        go_roundw
        case rel =>
          refine ⟨k + 1, by omega, by go_num, K2.out, fun j hj hj2 => ?_⟩
          by_cases e : j = k
          · subst e; rw [HH.out]; exact HP.out
          · exact Q2.out j (by omega) hj2
        case measure => simp [intOf]; omega
    · have : k = hs.length := by omega
      subst this
      go_wp2_with fail
      go_ret
      refine ⟨?_, Q1.out⟩
      rw [idxS_miss (fun j hj => Q2.out j hj hj)]
      rfl

theorem leastFree_any (w : World) (q p g first : Nat) (hs : List Hd) (S : SlotsAt w q p g first hs) :
    Calls Try.prog 42 #[.pointer (some ⟨q, 0, none⟩), .func (.func 44) #[] #[]] w fun e w' => e = .returned (.int .i64 (idxS (fun h => !h.used) hs)) ∧ Keeps [] w w' := by
  have c2 := S.c2
  have HS := hid S
  clear S
  go_enter Try.func42, Try.ntmps42
  go_wp2_with fail
  refine (lMade_any w q p g first hs HS.out).mono ?_
  rintro e w' ⟨rfl, rfl⟩
  go_wp2_with fail
  refine (idxFree_any w q p g first hs HS.out).mono ?_
  rintro e w2 ⟨rfl, k2⟩
  have K2 := hid k2
  clear k2
  go_wp2_with fail
  go_ret
  exact ⟨rfl, K2.out⟩

theorem leastFind_any (w : World) (q p g first : Nat) (hs : List Hd) (S : SlotsAt w q p g first hs) (kc : Nat) (kv : Value) (ks : List Int) (hkc : w.cell? ⟨kc, 0, none⟩ = some kv) (hkr : RowAt w kv ks) :
    Calls Try.prog 42 #[.pointer (some ⟨q, 0, none⟩), .func (.func 43) #[] #[.pointer (some ⟨kc, 0, none⟩)]] w fun e w' => e = .returned (.int .i64 (idxS (fun h => h.used && decide (h.key = ks)) hs)) ∧ Keeps [] w w' := by
  have c2 := S.c2
  have HS := hid S
  clear S
  go_enter Try.func42, Try.ntmps42
  go_wp2_with fail
  refine (lMade_any w q p g first hs HS.out).mono ?_
  rintro e w' ⟨rfl, rfl⟩
  go_wp2_with fail
  refine (idxFind_any w q p g first hs HS.out kc kv ks hkc hkr).mono ?_
  rintro e w2 ⟨rfl, k2⟩
  have K2 := hid k2
  clear k2
  go_wp2_with fail
  go_ret
  exact ⟨rfl, K2.out⟩

theorem lFree_any (w : World) (q p g first : Nat) (hs : List Hd) (S : SlotsAt w q p g first hs) :
    Calls Try.prog 17 #[.pointer (some ⟨q, 0, none⟩)] w fun e w' => e = .returned (.int .i64 (freeS hs)) ∧ Keeps [] w w' := by
  have HS := hid S
  clear S
  go_enter Try.func17, Try.ntmps17
  go_wp2_with fail
  refine (leastFree_any w q p g first hs HS.out).mono ?_
  rintro e w2 ⟨rfl, k2⟩
  have K2 := hid k2
  clear k2
  go_wp2_with fail
  go_ret
  exact ⟨rfl, K2.out⟩

theorem lFind_any (w : World) (q p g first : Nat) (hs : List Hd) (S : SlotsAt w q p g first hs) (kv : Value) (ks : List Int) (hkr : RowAt w kv ks) :
    Calls Try.prog 16 #[.pointer (some ⟨q, 0, none⟩), kv] w fun e w' => e = .returned (.int .i64 (findS hs ks)) ∧ Keeps [] w w' := by
  have hmf : ∀ (fn : Fn) (first cap : Array Value) (w : World), (Instr.makeFunc fn first cap).run Try.prog w = .ok (.func fn first cap) w := fun _ _ _ _ => rfl
  obtain ⟨a, cap, rfl, hh⟩ := id hkr
  clear hh
  have k1 := (Keeps.refl [] w).alloc (.cells #[.slice a ks.length cap] 31)
  have HS := hid (S.keep k1 (by simp) (by simp))
  have HR := hid (hkr.keep k1 (by intro _ _ _ _ _; simp))
  have C := hid (cell_of_one (heap_alloc_new w (.cells #[.slice a ks.length cap] 31)))
  have K1 := hid k1
  clear S hkr k1
  go_enter Try.func16, Try.ntmps16
  go_wp2_with fail
  refine (leastFind_any _ q p g first hs HS.out w.heap.size _ ks C.out HR.out).mono ?_
  rintro e w2 ⟨rfl, k2⟩
  have K2 := hid (K1.out.trans k2)
  clear k2
  go_wp2_with fail
  go_ret
  exact ⟨rfl, K2.out⟩

theorem str_size {zs : List Int} (h : ∀ z ∈ zs, 0 ≤ z ∧ z ≤ 255) : (strOfNums zs).size = zs.length := by
  rw [← codes_length, codes_strOf zs h]

/-- The bytes of a text, in new memory. -/
theorem conv_str (w : World) (zs : List Int) (h : ∀ z ∈ zs, 0 ≤ z ∧ z ≤ 255) (hl : zs.length ≤ 100000) :
    ∃ n w', (convert 9 31 (.string (strOfNums zs))).run Try.prog w = .ok (.slice (some ⟨w.heap.size, 0, none⟩) zs.length n) w' ∧ RowAt w' (.slice (some ⟨w.heap.size, 0, none⟩) zs.length n) zs ∧ Keeps [] w w' := by
  have hcv := run_bytes_of_string (P := Try.prog) w 9 31 5 (strOfNums zs) Try.underlying9 Try.underlying31 Try.underlying5
  have hs := str_size h
  have hc1 := grownCap_ge w (strOfNums zs).size 0 5
  have hc2 := grownCap_le_maxLen w (strOfNums zs).size 0 5 (by unfold maxLen; omega)
  have hrow := row_of_string w (strOfNums zs) (grownCap w (strOfNums zs).size 0 5) 5
  rw [hs, codes_strOf zs h] at hrow
  rw [hs] at hcv hc1 hc2
  exact ⟨_, _, hcv, (hrow _ hc1 hc2).keep (S := []) (Keeps.refl _ _).drew (by intro _ _ _ _ _; simp), ((Keeps.refl [] w).alloc _).drew⟩

set_option maxRecDepth 100000 in
set_option maxHeartbeats 800000 in
theorem lKey_any (w : World) (q p g first : Nat) (hs : List Hd) (S : SlotsAt w q p g first hs) (i : Int) :
    Calls Try.prog 34 #[.pointer (some ⟨q, 0, none⟩), .int .i64 i] w fun e w' => ∃ v, e = .returned v ∧ RowAt w' v (if usedS hs i then (headS hs i).key else []) ∧ NewV w v ∧ Keeps [] w w' := by
  have HS := hid S
  have c2 := S.c2
  cases hu : usedS hs i with
  | false =>
    have HU := hid hu
    clear hu S
    go_enter Try.func34, Try.ntmps34
    go_wp2_with fail
    refine (lUsed_any w q p g first hs HS.out i).mono ?_
    rintro e w' ⟨rfl, rfl⟩
    rw [HU.out]
    go_wp2_with fail
    go_ret
    exact ⟨_, rfl, RowAt.nil _, fun b hb => (by simp [Value.ownBlock] at hb), Keeps.refl _ _⟩
  | true =>
    have HU := hid hu
    rcases hasS_cases hs i with hn | ⟨k, rfl, hk, ht⟩
    · rw [usedS, headS_no hn] at hu; cases hu
    · have ck := S.k k hk
      have hok := S.ok _ (List.getElem_mem hk)
      rw [headS_at hk]
      generalize hs[k] = h at ck hok ⊢
      have hlt : (k : Int) < (hs.length : Int) := by omega
      obtain ⟨n, w2, cv, cr, ckk⟩ := conv_str w h.key hok.byte (by have := hok.key; omega)
      have CR := hid cr
      have CK := hid ckk
      clear hu ht S hok cr ckk
      go_enter Try.func34, Try.ntmps34
      go_wp2_with fail
      refine (lUsed_any w q p g first hs HS.out k).mono ?_
      rintro e w' ⟨rfl, rfl⟩
      rw [HU.out]
      go_wp2_with fail
      go_ret
      exact ⟨_, rfl, CR.out, fun b hb => (by simp [Value.ownBlock] at hb; omega), CK.out⟩
end Go.Proofs.Ytiljhjegfklgmaa


/- Slots: the bytes of a head; a sector is written. -/
namespace Go.Proofs.Ytiljhjegfklgmaa
open Go.RowKit Go.Shelf

/-- A head's bytes, but the noughts behind them. -/
def headB (h : Hd) : List Int := if h.used then [1] ++ be h.held 2 ++ be h.key.length 2 ++ h.key else []
theorem headB_len (h : Hd) (ok : h.Ok) : (headB h).length ≤ 45 := by
  have := ok.key
  unfold headB
  split
  · simp [be_length]; omega
  · simp
theorem headB_byte (h : Hd) (ok : h.Ok) : ∀ z ∈ headB h, 0 ≤ z ∧ z ≤ 255 := by
  intro z hz
  unfold headB at hz
  split at hz
  · simp only [List.mem_append, List.mem_cons, List.not_mem_nil, or_false] at hz
    rcases hz with ((rfl | hz) | hz) | hz
    · omega
    · exact be_byte _ _ z hz
    · exact be_byte _ _ z hz
    · exact ok.byte z hz
  · simp at hz
theorem headP1 : penBool true ([], 0) = ([1], 0) := by decide +kernel
theorem headP2 (n : Nat) (h : n ≤ 448) : penNum n 2 ([1], 0) = (1 :: be n 2, 0) := penNum_ok (by omega) (by omega) (by omega) (by
    have : (2 : Int) ^ (8 * (2 : Int).toNat) = 65536 := by decide
    rw [this]; omega) rfl (by simp)
theorem headP3 (n : Nat) (k : List Int) (h : k.length ≤ 40) : penRaw k (1 :: be n 2, 0) = (headB ⟨true, n, k⟩, 0) := by
  rw [penRaw_ok rfl (by omega) (by simp [be_length]; omega)]
  rfl

set_option maxRecDepth 100000 in
set_option maxHeartbeats 3200000 in
theorem lBytes_any (h : Hd) (ok : h.Ok) (w : World) :
    Calls Try.prog 57 #[hdV h] w fun e w' => ∃ v, e = .returned (.tuple #[v, .int .i64 0]) ∧ RowAt w' v (headB h) ∧ (∃ a n c, v = .slice a n c) ∧ Keeps [] w w' := by
  cases hu : h.used with
  | false =>
    have e : h = hd0 := ok.free hu
    subst e
    have eh : headB hd0 = [] := rfl
    rw [eh]
    unfold hdV Hd.cells
    clear hu ok
    have z0 : strOfNums hd0.key = ⟨#[]⟩ := rfl
    rw [z0]
    simp only [show hd0.used = false from rfl, show hd0.held = 0 from rfl]
    go_enter Try.func57, Try.ntmps57
    go_wp2_with fail
    go_ret2
    exact ⟨_, rfl, RowAt.nil _, ⟨_, _, _, rfl⟩, (Keeps.refl _ _).alloc _⟩
  | true =>
    obtain ⟨u, n, k⟩ := h
    obtain rfl : u = true := hu
    have hk40 : k.length ≤ 40 := ok.key
    have X2 := headP2 n ok.held
    have X3 := headP3 n k hk40
    have hbyte : ∀ z ∈ k, 0 ≤ z ∧ z ≤ 255 := ok.byte
    have HOK := hid hbyte
    generalize headB ⟨true, n, k⟩ = hb at X3 ⊢
    obtain ⟨L2, hL2⟩ : ∃ x, x = 1 :: be n 2 := ⟨_, rfl⟩
    rw [← hL2] at X2 X3
    have P2E := hid X2
    have P3E := hid X3
    clear hL2 ok X2 X3 hbyte
    unfold hdV Hd.cells
    go_enter Try.func57, Try.ntmps57
    go_wp2_with fail
    have hz : (w.alloc (.cells #[.bool true, .int .i64 n, .string (strOfNums k)] 72)).heap.size = w.heap.size + 1 := by simp
    have KB := hid ((Keeps.refl [] w).alloc (.cells #[.bool true, .int .i64 n, .string (strOfNums k)] 72))
    have B1 := hid (heap_alloc_new w (.cells #[.bool true, .int .i64 n, .string (strOfNums k)] 72))
    rw [← hz]
    generalize w.alloc (.cells #[.bool true, .int .i64 n, .string (strOfNums k)] 72) = wb at KB B1 hz ⊢
    have HZ := hid hz
    clear hz
    have P1 := hid (PenSince.new wb (Keeps.refl [] wb) 115)
    refine (bool_any _ wb.heap.size wb.heap.size _ [] 0 true P1.out.pen P1.out.kept.size).mono ?_
    intro e w2 hq
    obtain ⟨rfl, v2, q2⟩ := P1.out.step hq
    rw [headP1] at q2
    simp only at q2
    have P2 := hid q2
    have c1 : w2.cell? ⟨w.heap.size, 1, none⟩ = some (.int .i64 n) := by
      have := (q2.kept.block w.heap.size (by have := HZ.out; omega) (by simp)).trans B1.out
      simp [World.cell?, this]
    clear q2 hq
    go_wp2_with fail
    refine (num_any w2 wb.heap.size wb.heap.size v2 [1] 0 (n : Int) 2 P2.out.pen P2.out.kept.size).mono ?_
    intro e w3 hq
    obtain ⟨rfl, v3, q2⟩ := P2.out.step hq
    rw [P2E.out] at q2
    simp only at q2
    have P3 := hid q2
    have c2 : w3.cell? ⟨w.heap.size, 2, none⟩ = some (.string (strOfNums k)) := by
      have := (q2.kept.block w.heap.size (by have := HZ.out; omega) (by simp)).trans B1.out
      simp [World.cell?, this]
    have hlo := hid q2.le
    have hlt3 := q2.pen.own.lt
    have hpl := q2.pen.lt
    have H3 := hid hlt3
    clear q2 hq c1 hlt3
    obtain ⟨cn, w4, cv, cr, ck⟩ := conv_str w3 k HOK.out (by omega)
    have CR := hid cr
    have P4 := hid (P3.out.pen.keep ck (by simp) (by simp))
    have K4 := hid (P3.out.kept.trans ck)
    have hw34 : w3.heap.size ≤ w4.heap.size := ck.size
    clear cr ck
    go_wp2_with fail
    have HOff : Off (wb.heap.size :: v3.ownBlock.toList) (.slice (some ⟨w3.heap.size, 0, none⟩) k.length cn) k := by
      intro ad n' c' e _ hm
      injection e with e1 _ _
      obtain rfl := Option.some.inj e1
      rcases List.mem_cons.1 hm with hm | hm
      · simp at hm; omega
      · have := (H3.out _ (by simpa using hm)).2
        simp at this
    refine (raw_any w4 wb.heap.size wb.heap.size v3 L2 0 _ k P4.out CR.out HOff K4.out.size (by omega)).mono ?_
    intro e w5 hq
    have P4' : PenSince wb w4 115 wb.heap.size v3 L2 0 := ⟨P4.out, K4.out⟩
    obtain ⟨rfl, v5, q2⟩ := P4'.step hq
    rw [P3E.out] at q2
    simp only at q2
    have P5 := hid q2
    clear q2 hq P4' HOff
    go_wp2_with fail
    refine (bytes_any w5 wb.heap.size wb.heap.size v5 hb 0 P5.out.pen).mono ?_
    intro e w6 hq
    obtain ⟨a, c, rfl, q1, q2, q3⟩ := hq.good
    have R5 := hid q1
    have K5 := hid (P5.out.kept.trans q3)
    clear q1 q2 q3 hq
    go_wp2_with fail
    go_ret2
    exact ⟨_, rfl, R5.out, ⟨_, _, _, rfl⟩, KB.out.trans K5.out⟩

/-- A row of at most 64 bytes, noughts behind them. -/
def pad64 (zs : List Int) : List Int := zs ++ List.replicate (64 - zs.length) 0
theorem pad64_len {zs : List Int} (h : zs.length ≤ 64) : (pad64 zs).length = 64 := by simp [pad64]; omega
theorem pad64_byte {zs : List Int} (h : ∀ z ∈ zs, 0 ≤ z ∧ z ≤ 255) : ∀ z ∈ pad64 zs, 0 ≤ z ∧ z ≤ 255 := by
  intro z hz
  rcases List.mem_append.1 hz with hz | hz
  · exact h z hz
  · have := (List.mem_replicate.1 hz).2; omega
theorem splice_pad (zs : List Int) : splice zrow.cells 0 (zs.map (Value.int .u8)) = (pad64 zs).map (Value.int .u8) := by
  have e : zrow.cells = List.replicate 64 (Value.int .u8 0) := by simp only [Row.cells, zrow, List.map_replicate]
  simp only [splice, List.take_zero, List.nil_append, Nat.zero_add, List.length_map, e, List.drop_replicate, pad64, List.map_append, List.map_replicate]

theorem iArr : (Try.prog.info? 53).map (fun i => (i.zero, i.size)) = some (some (rowV zrow), 64) := by kernel_rfl
theorem zeroArr (w : World) : (zeroValue 53).run Try.prog w = .ok (rowV zrow) w := by
  cases hq : Try.prog.info? 53 with
  | none => have := iArr; simp [hq] at this
  | some i => have := iArr; simp [hq] at this; simp [zeroValue, typeInfo, hq, this.1]
theorem arrLen64 : Try.prog.arrayLen 53 = 64 := by kernel_rfl
theorem arrElem64 : Try.prog.elem 53 = 5 := by kernel_rfl
theorem run_slice64 (b : Nat) (w : World) : (Instr.sliceAt 53 (.pointer (some ⟨b, 0, none⟩)) none none none).run Try.prog w = .ok (.slice (some ⟨b, 0, none⟩) 64 64) w := by
  obtain ⟨i0, hi, hz0, hz1, hz2⟩ := info_parts info5
  rw [run_sliceAt_array_all w 53 ⟨b, 0, none⟩ (by rw [arrLen64, arrElem64]; exact Try.underlying53), arrElem64, arrLen64]
  simp [sizeOf, typeInfo, hi, Result.andThen, slicedAt, Addr.add]

section
variable {ops : Array Oper} {rest : List Oper} {o : Oper} {a : Act} {w : World} {Q : Exit → Act → World → Prop}
theorem wpList_allocArr (hgd : o.guard = none) (ho : o.op = .alloc 53)
    (h : wpList Try.prog ops Q rest (a.put o.dst (.pointer (some ⟨w.heap.size, 0, none⟩))) (w.alloc (.cells zrow.cells.toArray 53))) : wpList Try.prog ops Q (o :: rest) a w := by
  refine wpList_is hgd _ _ ?_ h
  simp only [execOp, ho, Instr.alloc, newVar, newRow, Sem.run_bind, zeroArr, rowV_cells, Result.andThen_ok, Sem.run_pure, run_newObj_alloc]
end

/-- A disk whose map lies at m. -/
def DM (w : World) (p m : Nat) (s : DS) (F : List Nat) (k : Nat) : Prop := s.Ok k ∧ ∃ lv n, DiskIn w p m lv n s ∧ F = foot p m lv ∧ n + s.loose.length ≤ k
theorem DM.at_ {w : World} {p m : Nat} {s : DS} {F : List Nat} {k : Nat} (h : DM w p m s F k) : DiskAt w p s F k := ⟨h.1, m, h.2⟩
theorem DiskAt.dm {w : World} {p : Nat} {s : DS} {F : List Nat} {k : Nat} (h : DiskAt w p s F k) : ∃ m, DM w p m s F k := ⟨_, h.1, h.2.choose_spec⟩
theorem DM.keep {w w' : World} {p m : Nat} {s : DS} {S F : List Nat} {k : Nat} (h : DM w p m s F k) (kp : Keeps S w w') (hd : ∀ b ∈ F, b ∉ S) : DM w' p m s F k := by
  obtain ⟨ho, lv, n, hi, rfl, hk⟩ := h
  exact ⟨ho, lv, n, hi.keep kp hd, rfl, hk⟩
theorem DM.mono {w : World} {p m : Nat} {s : DS} {F : List Nat} {k k' : Nat} (h : DM w p m s F k) (hk : k ≤ k') : DM w p m s F k' := by
  obtain ⟨ho, lv, n, hi, rfl, h2⟩ := h
  exact ⟨⟨ho.lo, ho.hi, ho.fz, ⟨ho.op.1, by have := ho.op.2; omega⟩, ho.at_, ho.eqs⟩, lv, n, hi, rfl, by omega⟩

/-- Write. -/
theorem write_anyM (w : World) (p m : Nat) (s : DS) (F : List Nat) (K : Nat) (H : DM w p m s F K) (hK : K ≤ 1000000000) (k : Int) (bv : Value) (zs : List Int) (hb : RowAt w bv zs) :
    Calls Try.prog 7 #[.pointer (some ⟨p, 0, none⟩), .int .i64 k, bv] w fun e w' => e = .returned (.int .i64 (writeE s k zs.length)) ∧ ∃ F', DM w' p m (writeS s k zs) F' (K + 2) ∧ Keeps F w w' ∧ Fresh w F F' := by
  have H' := H
  obtain ⟨ok, lv, n, hi, rfl, hk⟩ := H
  by_cases ht : s.takes k zs.length
  · have he : writeE s k zs.length = if s.fuse = 0 then 14 else 0 := by simp only [writeE, if_pos ht]
    have hs : writeS s k zs = s.wrote k.toNat (mkRow zs) := by simp only [writeS, if_pos ht]
    rw [he, hs]
    obtain ⟨hd, h0, h1, h2⟩ := ht
    obtain ⟨i, rfl⟩ := Int.eq_ofNat_of_zero_le h0
    have hr := mkRow_is h2 hb.bytes
    have hop := ok.op
    refine (write_good w p m n lv s hi ok.lo ok.hi hd i (by omega) (mkRow zs) bv (by rw [hr]; exact hb) (by omega) (by omega) ok.fz ⟨hop.1, by omega⟩).mono ?_
    rintro e w' ⟨rfl, lv', D, kp, nl⟩
    simp only [Int.toNat_natCast]
    refine ⟨trivial, foot p m lv', ⟨?_, lv', n + 1, D, rfl, ?_⟩, kp, ?_⟩
    · have o1 := DS.wrote_ok ok i (by omega) (mkRow zs)
      exact ⟨o1.lo, o1.hi, o1.fz, ⟨o1.op.1, by have := o1.op.2; omega⟩, o1.at_, o1.eqs⟩
    · have : (s.wrote i (mkRow zs)).loose.length = s.loose.length + 1 := by
        unfold DS.wrote
        split <;> simp [DS.spent]
      simp only [this]
      omega
    · intro b hb
      simp only [foot, List.mem_cons, Option.mem_toList] at hb ⊢
      rcases hb with hb | hb | hb
      · exact Or.inl (Or.inl hb)
      · exact Or.inl (Or.inr (Or.inl hb))
      · rcases nl with nl | nl
        · rw [nl] at hb
          exact Or.inl (Or.inr (Or.inr hb))
        · exact Or.inr (nl b hb)
  · have hs : writeS s k zs = s := by simp only [writeS, if_neg ht]
    have he : writeE s k zs.length = if s.dead then 14 else 1 := by simp only [writeE, if_neg ht]
    rw [hs, he]
    have post : Keeps (foot p m lv) w w ∧ Fresh w (foot p m lv) (foot p m lv) := ⟨Keeps.refl _ _, fun b hb => Or.inl hb⟩
    by_cases hd : s.dead = true
    · refine (write_dead w p m n lv s hi ok.lo hd k bv).mono ?_
      rintro e w' ⟨rfl, rfl⟩
      exact ⟨by rw [if_pos hd], _, H'.mono (by omega), post⟩
    · obtain ⟨a, cap, rfl, _⟩ := hb
      refine (write_bad w p m n lv s hi ok.lo (by simpa using hd) k a zs.length cap (fun h => ht ⟨by simpa using hd, h.1, h.2.1, h.2.2⟩)).mono ?_
      rintro e w' ⟨rfl, rfl⟩
      exact ⟨by rw [if_neg hd], _, H'.mono (by omega), post⟩


set_option maxRecDepth 100000 in
set_option maxHeartbeats 3200000 in
theorem lWrite_any (w : World) (q p g first : Nat) (hs : List Hd) (S : SlotsAt w q p g first hs) (m : Nat) (s : DS) (F : List Nat) (K : Nat) (D : DM w p m s F K) (hK : K ≤ 1000000000) (hq : q ∉ F) (n : Int) (bv : Value) (zs : List Int) (hb : RowAt w bv zs) (hl : zs.length ≤ 64) :
    Calls Try.prog 55 #[.pointer (some ⟨q, 0, none⟩), .int .i64 n, bv] w fun e w' => e = .returned (.int .i64 (writeE s n 64)) ∧ ∃ F', DM w' p m (writeS s n (pad64 zs)) F' (K + 2) ∧ Keeps F w w' ∧ Fresh w F F' := by
  have HS := hid S
  have HD := hid D
  have HB := hid hb.bytes
  have SL := run_slice64
  obtain ⟨a, cap, rfl, b1, b2, b3, b4, b5⟩ := hb
  have hpos : 0 < (zs.map (Value.int .u8)).length → ∃ ad, a = some ad ∧ ∀ j v, (zs.map (Value.int .u8))[j]? = some v → (w.alloc (.cells zrow.cells.toArray 53)).cell? (ad.add j) = some v := fun h0 => by
    have h1 : 0 < zs.length := by simpa using h0
    cases a with
    | none => have := b3 rfl; omega
    | some ad =>
      refine ⟨ad, rfl, fun j v hv => ?_⟩
      have hc := b5 ad rfl j v hv
      rw [World.cell?_of_block (w := w) (Below.heap_alloc _ _ _ (World.block_lt_of_cell? _ _ hc))]
      exact hc
  have HP := hid hpos
  clear hpos b1 b2 b3 b4 b5 S D
  go_enter Try.func55, Try.ntmps55
  go_wp2_with (first | (refine wpList_allocArr rfl rfl ?_) | (refine wpList_copy_splice (o := ⟨some 10, _, _, _, _, _⟩) rfl (.tmp 8) (.tmp 9) 31 31 rfl 5 Try.underlying31 (by kernel_rfl) (some ⟨w.heap.size, 0, none⟩) a 64 64 zs.length cap rfl rfl w.heap.size 0 zrow.cells 53 (heap_alloc_new _ _) (zs.map (Value.int .u8)) (by rw [List.length_map]; exact (Nat.min_eq_left hl).symm) (fun h0 => ⟨rfl, HP.out h0⟩) (by simp; omega) (by intro v hv; simp at hv; obtain ⟨z, _, rfl⟩ := hv; rfl) w.heap.size w ((Below.refl _ _).alloc (Nat.le_refl _) _) (Nat.le_refl _) ?_; intro w2 h2 hb2) | fail)
  have K2 : Hid (Keeps [] w w2) := hid ⟨hb2.os, hb2.tape, hb2.output, hb2.size, fun k hk _ => hb2.block k hk⟩
  have R2 : Hid (RowAt w2 (.slice (some ⟨w.heap.size, 0, none⟩) 64 64) (pad64 zs)) := hid (by
    have h2' := h2.out
    rw [splice_pad] at h2'
    refine ⟨some ⟨w.heap.size, 0, none⟩, 64, by rw [pad64_len hl], by rw [pad64_len hl]; omega, by unfold maxLen; omega, by simp, pad64_byte HB.out, fun ad had j u hu => ?_⟩
    obtain rfl := Option.some.inj had
    rw [Addr.add_mid, Nat.zero_add, cell_of_row _ _ j _ _ (0, 0) h2']
    simpa using hu)
  clear h2 hb2
  refine wp_region_any (by kernel_rfl) (wpAny_of_held (S := KpS F w2.heap.size w2.drew) _ _ _ _ ?_)
  change wpAnyH _ _ _ _ _ _ _ _ w2.drew
  have cQ : ∀ W1, KpS F w2.heap.size w2.drew W1 → W1.cell? ⟨q, 0, none⟩ = some (.pointer (some ⟨p, 0, none⟩)) := fun W1 h => h.cell (by rw [World.cell?_drew]; exact K2.out.cell HS.out.c0 (by simp)) (by have := HS.out.ltq; have := K2.out.size; omega) hq
  refine held_take (i := 0) (v := .pointer (some ⟨q, 0, none⟩)) rfl (by kernel_rfl) (by kernel_rfl) (by kernel_rfl) (fun _ _ _ h => h) rfl (fun W1 hW1 => rfl) (KpS.refl _ _ _) ?_
  simp only [Act.put, List.setIfInBounds_toArray, List.set_cons_zero, List.set_cons_succ]
  refine held_take (i := 1) (v := .pointer (some ⟨q, 0, none⟩)) rfl (by kernel_rfl) (by kernel_rfl) (by kernel_rfl) (fun _ _ _ h => h) rfl (fun W1 hW1 => by go_simp) (KpS.refl _ _ _) ?_
  simp only [Act.put, List.setIfInBounds_toArray, List.set_cons_zero, List.set_cons_succ]
  refine held_take (i := 2) (v := .pointer (some ⟨q, 0, none⟩)) rfl (by kernel_rfl) (by kernel_rfl) (by kernel_rfl) (fun _ _ _ h => h) rfl (fun W1 hW1 => by go_simp) (KpS.refl _ _ _) ?_
  simp only [Act.put, List.setIfInBounds_toArray, List.set_cons_zero, List.set_cons_succ]
  refine held_take (i := 3) (v := .pointer (some ⟨p, 0, none⟩)) rfl (by kernel_rfl) (by kernel_rfl) (by kernel_rfl) (fun _ _ _ h => h) rfl (fun W1 hW1 => exec_load _ _ _ _ rfl rfl (run_loadCell W1 _ _ _ (cQ W1 hW1) (agg_no _ (by kernel_rfl)))) (KpS.refl _ _ _) ?_
  simp only [Act.put, List.setIfInBounds_toArray, List.set_cons_zero, List.set_cons_succ]
  refine held_take (i := 4) (v := .int .i64 n) rfl (by kernel_rfl) (by kernel_rfl) (by kernel_rfl) (fun _ _ _ h => h) rfl (fun W1 hW1 => rfl) (KpS.refl _ _ _) ?_
  simp only [Act.put, List.setIfInBounds_toArray, List.set_cons_zero, List.set_cons_succ]
  refine held_take (i := 5) (v := .slice (some ⟨w.heap.size, 0, none⟩) 64 64) rfl (by kernel_rfl) (by kernel_rfl) (by kernel_rfl) (fun _ _ _ h => h) rfl (fun W1 hW1 => by have := SL w.heap.size W1; go_simp) (KpS.refl _ _ _) ?_
  simp only [Act.put, List.setIfInBounds_toArray, List.set_cons_zero, List.set_cons_succ]
  refine held_do (i := 6) (by kernel_rfl) rfl rfl (wp_enter (f := 7) (args := #[.pointer (some ⟨p, 0, none⟩), .int .i64 n, .slice (some ⟨w.heap.size, 0, none⟩) 64 64]) (by go_simp) (write_anyM w2.drew p m s F K (HD.out.keep (K2.out.trans (Keeps.refl _ _).drew) (by simp)) hK n _ (pad64 zs) (R2.out.keep (Keeps.refl [] w2).drew (by intro _ _ _ _ _; simp))) ?_)
  rintro e w3 ⟨rfl, F3, D3, k3, fr3⟩
  have kk : KpS F w2.heap.size w2.drew w3 := (KpS.refl _ _ _).keeps k3 (Nat.le_refl _) (fun i hi _ => hi)
  refine ⟨_, rfl, kk, ?_⟩
  simp only [Act.put, List.setIfInBounds_toArray, List.set_cons_zero, List.set_cons_succ]
  refine held_take (i := 7) (v := .int .i64 (writeE s n (pad64 zs).length)) rfl (by kernel_rfl) (by kernel_rfl) (by kernel_rfl) (fun _ _ _ h => h) rfl (fun W1 hW1 => rfl) (kk) ?_
  simp only [Act.put, List.setIfInBounds_toArray, List.set_cons_zero, List.set_cons_succ]
  refine wpAnyH_done (by kernel_rfl) ?_ _
  have D3' := hid D3
  have K3 : Hid (Keeps F w w3) := hid ((K2.out.mono (by simp)).trans ⟨kk.os, kk.tape, kk.output, kk.size, kk.block⟩)
  have F3' : Hid (Fresh w F F3) := hid fun b hb => (fr3 b hb).imp id (fun h => Nat.le_trans K2.out.size h)
  clear k3 fr3 kk D3 cQ
  go_wp2_with fail
  go_ret
  rw [pad64_len hl]
  exact ⟨rfl, F3, D3'.out, K3.out, F3'.out⟩
end Go.Proofs.Ytiljhjegfklgmaa


/- Slots: a row of bytes cut into sectors (slices.Chunk of 64). -/
namespace Go.Proofs.Ytiljhjegfklgmaa
open Go.RowKit Go.Shelf
attribute [local go_sem] Oper.semAt_some

/-- How many parts; how long each is. -/
def nch (len : Nat) : Nat := (len + 63) / 64
def csz (len k : Nat) : Nat := min 64 (len - k * 64)

set_option maxRecDepth 100000 in
set_option maxHeartbeats 4000000 in
theorem chunkP_in (n : Nat) (hn : 1 ≤ n) (l Bs Bn g off cap n₀ len : Nat) (a : Option Addr) (S : List Nat) (hlen : len ≤ 100000) (hcap : len ≤ cap) (ha : 0 < len → a = some ⟨g, off, none⟩) (J Jx : List Nat → World → Prop) (W : World)
    (hY : ∀ pre x W, x < nch len → J pre W → pre.length < nch len → YieldAt Fence.wide (n - 1) Try.prog l #[.slice (some ⟨g, off + x * 64, none⟩) (csz len x) (csz len x)] W fun e W' =>
      (e = .returned (.bool true) ∧ J (pre ++ [x]) W' ∧ KpS S n₀ W W') ∨ (e = .returned (.bool false) ∧ Jx (pre ++ [x]) W'))
    (hJd : ∀ pre A, J pre A → J pre A.drew)
    (hBs : W.cell? ⟨Bs, 0, none⟩ = some (.slice a len cap)) (hBn : W.cell? ⟨Bn, 0, none⟩ = some (.int .i64 64)) (bs : Bs < n₀ ∧ Bs ∉ S) (bn : Bn < n₀ ∧ Bn ∉ S) (h0 : J [] W) :
    CallsIn Fence.wide n Try.prog 58 #[.func (.yield l) #[] #[], .pointer (some ⟨Bs, 0, none⟩), .pointer (some ⟨Bn, 0, none⟩)] W fun e W' => (∃ v, e = .returned v) ∧
      ((∃ ys, ys = List.range (nch len) ∧ J ys W') ∨ (∃ pre, pre = List.range pre.length ∧ Jx pre W')) := by
  refine callsIn_of_wp Try.func58 rfl trivial ?_ rfl
  simp only [Try.ntmps58, List.size_toArray, List.length_cons, List.length_nil, Nat.reduceAdd, Nat.reduceSub, Array.replicate_succ, Array.replicate_zero, List.push_toArray, List.append_toArray, List.nil_append, List.cons_append]
  have HY := hid hY
  have HD := hid hJd
  have H0 := hid h0
  have HA := hid ha
  clear hY hJd h0 ha
  gi_wp2
  gi_loopw [4] (fun i wr => ∃ k : Nat, k ≤ nch len ∧ i = .int .i64 ((k * 64 : Nat) : Int) ∧ J (List.range k) wr ∧ KpS S n₀ W wr)
    (fun i _ => len - (intOf i).toNat)
  case atStart => exact ⟨0, Nat.zero_le _, by simp, H0.out, KpS.refl _ _ _⟩
  case round =>
    obtain ⟨k, hk, rfl, hJs, hnx⟩ := hrel
    have HJ := hid hJs
    have HN := hid hnx
    have cs := hnx.cell hBs bs.1 bs.2
    have cn := hnx.cell hBn bn.1 bn.2
    have KK := hid hk
    clear hJs hnx
    by_cases hlt : k * 64 < len
    · obtain rfl := HA.out (by omega)
      have hkn : k < nch len := by unfold nch; omega
      have HKN := hid hkn
      obtain ⟨m, hm⟩ : ∃ m, m = csz len k := ⟨_, rfl⟩
      have hm1 : 1 ≤ m := by rw [hm]; unfold csz; omega
      have hm2 : m ≤ 64 := by rw [hm]; unfold csz; omega
      have hm3 : k * 64 + m ≤ len := by rw [hm]; unfold csz; omega
      have hm4 : m = min 64 (len - k * 64) := by rw [hm]; rfl
      have HM := hid hm
      have hm5 : k * 64 + m = min ((k + 1) * 64) len := by omega
      have HM5 := hid hm5
      have HM4 := hid hm4
      clear hm hm5 hm4 hk hkn
      have t0 : ((k * 64 : Nat) : Int) < (len : Int) := by omega
      gi_wp2
      have csd : wr.drew.cell? ⟨Bs, 0, none⟩ = some (.slice (some ⟨g, off, none⟩) len cap) := by rw [World.cell?_drew]; exact cs
      have cnd : wr.drew.cell? ⟨Bn, 0, none⟩ = some (.int .i64 64) := by rw [World.cell?_drew]; exact cn
      have HJd := hid (HD.out _ _ HJ.out)
      have HNd : Hid (KpS S n₀ W wr.drew) := hid ⟨HN.out.os, HN.out.tape, HN.out.output, HN.out.size, HN.out.block⟩
      refine wpIn_wide.2 (wp_region_noPanic (wp_region_any (by kernel_rfl) ?_))
      refine wpAny_of_held (S := fun W1 => W1 = wr.drew) _ _ _ _ ?_
      refine held_take (i := 0) (v := .int .i64 64) rfl (by kernel_rfl) (by kernel_rfl) (by kernel_rfl) (fun _ _ _ h => h) rfl (fun W1 hW1 => by subst hW1; exact exec_load _ _ _ _ rfl rfl (run_loadCell _ _ _ _ cnd (agg_no _ (by kernel_rfl)))) (rfl) ?_
      simp only [Act.put, List.setIfInBounds_toArray, List.set_cons_zero, List.set_cons_succ]
      refine held_take (i := 1) (v := .slice (some ⟨g, off, none⟩) len cap) rfl (by kernel_rfl) (by kernel_rfl) (by kernel_rfl) (fun _ _ _ h => h) rfl (fun W1 hW1 => by subst hW1; exact exec_load _ _ _ _ rfl rfl (run_loadCell _ _ _ _ csd (agg_no _ (by kernel_rfl)))) (rfl) ?_
      simp only [Act.put, List.setIfInBounds_toArray, List.set_cons_zero, List.set_cons_succ]
      refine held_take (i := 2) (v := .int .i64 ((k * 64 : Nat) : Int)) rfl (by kernel_rfl) (by kernel_rfl) (by kernel_rfl) (fun _ _ _ h => h) rfl (fun W1 hW1 => rfl) (rfl) ?_
      simp only [Act.put, List.setIfInBounds_toArray, List.set_cons_zero, List.set_cons_succ]
      refine held_take (i := 3) (v := .slice (some ⟨g, off + k * 64, none⟩) (len - k * 64) (cap - k * 64)) rfl (by kernel_rfl) (by kernel_rfl) (by kernel_rfl) (fun _ _ _ h => h) rfl (fun W1 hW1 => by
        have e0 : ((k : Int) * 64).toNat = k * 64 := by omega
        have e1 : ¬ cap = k * 64 := by omega
        go_simp
        intro h
        omega) rfl ?_
      simp only [Act.put, List.setIfInBounds_toArray, List.set_cons_zero, List.set_cons_succ]
      refine held_take (i := 4) (v := .int .i64 ((len - k * 64 : Nat) : Int)) rfl (by kernel_rfl) (by kernel_rfl) (by kernel_rfl) (fun _ _ _ h => h) rfl (fun W1 hW1 => by go_simp) (rfl) ?_
      simp only [Act.put, List.setIfInBounds_toArray, List.set_cons_zero, List.set_cons_succ]
      refine held_take (i := 5) (v := .int .i64 m) rfl (by kernel_rfl) (by kernel_rfl) (by kernel_rfl) (fun _ _ _ h => h) rfl (fun W1 hW1 => by have := HM4.out; clear HM4; go_simp; omega) (rfl) ?_
      simp only [Act.put, List.setIfInBounds_toArray, List.set_cons_zero, List.set_cons_succ]
      refine held_take (i := 6) (v := .int .i64 m) rfl (by kernel_rfl) (by kernel_rfl) (by kernel_rfl) (fun _ _ _ h => h) rfl (fun W1 hW1 => rfl) (rfl) ?_
      simp only [Act.put, List.setIfInBounds_toArray, List.set_cons_zero, List.set_cons_succ]
      refine wpAnyH_done (by kernel_rfl) ?_ _
      refine NoPanic.normal ?_
      generalize hwd : World.mk wr.heap wr.tape (wr.drawn + 1) wr.os wr.output = wd
      obtain rfl : wr.drew = wd := hwd
      generalize wr.drew = wd at csd cnd HJd HNd ⊢
      obtain ⟨fn, tmps, assign, body, hy, hR⟩ := HY.out _ k wd HKN.out HJd.out (by simpa using HKN.out)
      rw [← HM.out] at hy
      have HR := hid hR
      clear hR
      gi_wp2
      refine HR.out.mono ?_
      rintro e W3 (⟨rfl, hJ3, hk3⟩ | ⟨rfl, hJx3⟩)
      · have HJ3 := hid hJ3
        have HK3 := hid hk3
        have cn3 := hk3.cell cnd bn.1 bn.2
        clear hJ3 hk3 cnd csd cs cn
        gi_wp2
        go_roundw
        case rel =>
          exact ⟨k + 1, by have := HKN.out; omega, by congr 1; omega, by rw [List.range_succ]; exact HJ3.out, HNd.out.trans HK3.out⟩
        case measure => simp [intOf]; omega
      · have HJ3 := hid hJx3
        clear hJx3
        gi_wp2
        refine bodyPost_ret (results_none rfl _ _ _) rfl ?_
        exact ⟨⟨_, rfl⟩, .inr ⟨_, by rw [← List.range_succ, List.length_range], HJ3.out⟩⟩
    · have e2 : k = nch len := by unfold nch at hk ⊢; omega
      have E2 := hid e2
      have t0 : ¬ ((k * 64 : Nat) : Int) < (len : Int) := by omega
      clear e2 hk
      gi_wp2
      go_end0
      exact ⟨⟨_, rfl⟩, .inl (by first | exact ⟨_, rfl, by rw [← E2.out]; exact HJ.out⟩ | (rw [← E2.out]; exact HJ.out))⟩

theorem chunkP_stops (n : Nat) (hn : 1 ≤ n) (Bs Bn g off cap n₀ len : Nat) (a : Option Addr) (S : List Nat) (hlen : len ≤ 100000) (hcap : len ≤ cap) (ha : 0 < len → a = some ⟨g, off, none⟩) (w : World)
    (hBs : w.cell? ⟨Bs, 0, none⟩ = some (.slice a len cap)) (hBn : w.cell? ⟨Bn, 0, none⟩ = some (.int .i64 64)) (bs : Bs < n₀ ∧ Bs ∉ S) (bn : Bn < n₀ ∧ Bn ∉ S) :
    SeqStopsK Fence.wide n Try.prog 58 #[.pointer (some ⟨Bs, 0, none⟩), .pointer (some ⟨Bn, 0, none⟩)] (fun x : {x : Nat // x < nch len} => #[.slice (some ⟨g, off + x.1 * 64, none⟩) (csz len x.1) (csz len x.1)]) (KpS S n₀) (fun ys => ys.map (·.1) = List.range (nch len)) (fun ys => ys.map (·.1) = List.range ys.length) (nch len) w := fun l J Jx W hW hA _ hY h0 => by
  have K0 : KpS [] w.heap.size w W := KpS.below hW (Nat.le_refl _)
  refine (chunkP_in n hn l Bs Bn g off cap n₀ len a S hlen hcap ha (fun pre W => ∃ ps, ps.map (·.1) = pre ∧ J ps W) (fun pre W => ∃ ps, ps.map (·.1) = pre ∧ Jx ps W) W ?_
    (fun pre A hs => by obtain ⟨ps, hps, hs⟩ := hs; exact ⟨ps, hps, hA ps A _ none hs ⟨rfl, rfl, rfl, Nat.le_refl _, fun _ _ _ => rfl⟩ (fun r e => by cases e)⟩)
    (K0.cell hBs (World.block_lt_of_cell? w _ hBs) (by simp)) (K0.cell hBn (World.block_lt_of_cell? w _ hBn) (by simp)) bs bn ⟨[], rfl, h0⟩).mono ?_
  · rintro pre x W1 hx ⟨ps, rfl, hs⟩ hl
    obtain ⟨fn, tmps, assign, body, hy, hR⟩ := hY ps ⟨x, hx⟩ W1 hs (by simpa using hl)
    refine ⟨fn, tmps, assign, body, hy, hR.mono ?_⟩
    rintro e W2 (⟨rfl, h1, h2⟩ | ⟨rfl, h1⟩)
    · exact .inl ⟨rfl, ⟨_, by simp, h1⟩, h2⟩
    · exact .inr ⟨rfl, _, by simp, h1⟩
  · rintro e W' ⟨h1, (⟨ys, rfl, ps, hps, hs⟩ | ⟨pre, hpre, ps, hps, hs⟩)⟩
    · exact ⟨h1, .inl ⟨ps, hps, hs⟩⟩
    · exact ⟨h1, .inr ⟨ps, by (show ps.map (·.1) = List.range ps.length); (have e := congrArg List.length hps); (rw [List.length_map] at e); rw [hps, e]; exact hpre, hs⟩⟩
end Go.Proofs.Ytiljhjegfklgmaa


/- Slots: what becomes of a disk when a slot is put or cleared (plain mathematics). -/
namespace Go.Proofs.Ytiljhjegfklgmaa
open Go.RowKit

def chk (b : List Int) (k : Nat) : List Int := (b.drop (k * 64)).take 64
theorem chk_len (b : List Int) (k : Nat) : (chk b k).length = csz b.length k := by simp [chk, csz]
theorem chk_le (b : List Int) (k : Nat) : (chk b k).length ≤ 64 := by rw [chk_len]; unfold csz; omega

/-- The first k parts are written, from sector n on. -/
def holdW (s : DS) (n : Nat) (b : List Int) : Nat → DS
  | 0 => s
  | k + 1 => writeS (holdW s n b k) (n + k : Nat) (pad64 (chk b k))
/-- b is written from sector n on, and lasts. -/
def holdS (s : DS) (n : Nat) (b : List Int) : DS := syncS (holdW s n b (nch b.length))
/-- A head is written at sector n, and lasts. -/
def markS (s : DS) (n : Nat) (h : Hd) : DS := syncS (writeS s n (pad64 (headB h)))
def deadE (s : DS) : Int := if s.dead then 14 else 0

theorem writeS_dead {s : DS} (h : s.dead = true) (k : Int) (zs : List Int) : writeS s k zs = s := by
  have : ¬ s.takes k zs.length := by simp [DS.takes, h]
  simp only [writeS, if_neg this]
theorem syncS_dead {s : DS} (h : s.dead = true) : syncS s = s := by simp [syncS, h]
theorem writeS_cnt (s : DS) (k : Int) (zs : List Int) : (writeS s k zs).cnt = s.cnt := by
  unfold writeS
  split
  · unfold DS.wrote; split <;> rfl
  · rfl
theorem syncS_cnt (s : DS) : (syncS s).cnt = s.cnt := by
  unfold syncS
  split
  · rfl
  · split <;> rfl
theorem writeE_is {s : DS} {k : Nat} {zs : List Int} (hk : k < s.cnt) (hz : zs.length = 64) : writeE s k zs.length = deadE (writeS s k zs) := by
  unfold deadE
  cases hd : s.dead with
  | true =>
    rw [writeS_dead hd, hd]
    have : ¬ s.takes k zs.length := by simp [DS.takes, hd]
    simp only [writeE, if_neg this, hd]
    rfl
  | false =>
    have ht : s.takes k zs.length := ⟨hd, by omega, by omega, hz⟩
    simp only [writeE, writeS, if_pos ht, DS.wrote]
    by_cases hf : s.fuse = 0
    · simp [hf]
    · simp [hf, DS.spent, hd]
theorem syncE_is (s : DS) : syncE s = deadE (syncS s) := by
  unfold deadE syncE syncS
  cases hd : s.dead with
  | true => simp [hd]
  | false =>
    by_cases hf : s.fuse = 0
    · simp [hf]
    · simp [hf, DS.synced, DS.spent, hd]
theorem holdW_cnt (s : DS) (n : Nat) (b : List Int) : ∀ k, (holdW s n b k).cnt = s.cnt
  | 0 => rfl
  | k + 1 => by rw [holdW, writeS_cnt, holdW_cnt s n b k]
theorem holdS_cnt (s : DS) (n : Nat) (b : List Int) : (holdS s n b).cnt = s.cnt := by rw [holdS, syncS_cnt, holdW_cnt]
theorem holdW_dead {s : DS} {n : Nat} {b : List Int} {k : Nat} (h : (holdW s n b k).dead = true) : ∀ j, k ≤ j → holdW s n b j = holdW s n b k
  | 0, hj => by
    have : k = 0 := by omega
    subst this; rfl
  | j + 1, hj => by
    by_cases e : k = j + 1
    · rw [e]
    · have ih := holdW_dead h j (by omega)
      rw [holdW, ih, writeS_dead h]
theorem holdS_dead {s : DS} {n : Nat} {b : List Int} {k : Nat} (hk : k ≤ nch b.length) (h : (holdW s n b k).dead = true) : holdS s n b = holdW s n b k := by
  rw [holdS, holdW_dead h _ hk, syncS_dead h]
end Go.Proofs.Ytiljhjegfklgmaa
