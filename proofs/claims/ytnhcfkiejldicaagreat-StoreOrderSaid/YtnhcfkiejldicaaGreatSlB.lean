/- Slots: the eye that reads a head gives up by a panic. -/
import Derived.Test.YtnhcfkiejldicaaGreatSlA
import Derived.Test.YtnhcfkiejldicaaGreatEyJ
import Derived.Test.YtnhcfkiejldicaaGreatDkN
namespace Go.Proofs.YtnhcfkiejldicaaGreat
open Go.RowKit Go.Shelf

/-- The eye's value: a struct of one pointer. -/
def eyV (p : Nat) : Value := .agg #[.pointer (some ⟨p, 0, none⟩)]

theorem sureB_any (w : World) (B p : Nat) (v : Value) (zs : List Int) (bad : Int) (h : EyeAt w B p v zs bad) (x : Bool) :
    Calls Tryz.prog 112 #[eyV p, .bool x] w fun e w' => e = (if bad = 0 then .returned (.bool x) else gaveUp bad) ∧ Keeps [] w w' := by
  have H := hid (h.keep ((Keeps.refl [] w).alloc (.cells #[.pointer (some ⟨p, 0, none⟩)] 141)) (by simp) (by intro _ _ _ _ _; simp))
  have K := hid ((Keeps.refl [] w).alloc (.cells #[.pointer (some ⟨p, 0, none⟩)] 141))
  clear h
  unfold eyV
  by_cases hb : bad = 0
  · subst hb
    go_enter Tryz.func112, Tryz.ntmps112
    go_wp2_with fail
    refine (fail_any _ B p v zs 0 H.out).mono ?_
    rintro e w1 ⟨rfl, rfl⟩
    go_wp2_with fail
    go_ret
    exact ⟨rfl, K.out⟩
  · have hb1 : (bad != 0) = true := by simpa using hb
    rw [if_neg hb]
    unfold gaveUp
    clear hb
    go_enter Tryz.func112, Tryz.ntmps112
    go_wp2_with fail
    refine (fail_any _ B p v zs bad H.out).mono ?_
    rintro e w1 ⟨rfl, rfl⟩
    go_wp2_with fail
    exact ⟨rfl, rfl, K.out⟩

theorem sureI_any (w : World) (B p : Nat) (v : Value) (zs : List Int) (bad : Int) (h : EyeAt w B p v zs bad) (x : Int) :
    Calls Tryz.prog 114 #[eyV p, .int .i64 x] w fun e w' => e = (if bad = 0 then .returned (.int .i64 x) else gaveUp bad) ∧ Keeps [] w w' := by
  have H := hid (h.keep ((Keeps.refl [] w).alloc (.cells #[.pointer (some ⟨p, 0, none⟩)] 141)) (by simp) (by intro _ _ _ _ _; simp))
  have K := hid ((Keeps.refl [] w).alloc (.cells #[.pointer (some ⟨p, 0, none⟩)] 141))
  clear h
  unfold eyV
  by_cases hb : bad = 0
  · subst hb
    go_enter Tryz.func114, Tryz.ntmps114
    go_wp2_with fail
    refine (fail_any _ B p v zs 0 H.out).mono ?_
    rintro e w1 ⟨rfl, rfl⟩
    go_wp2_with fail
    go_ret
    exact ⟨rfl, K.out⟩
  · have hb1 : (bad != 0) = true := by simpa using hb
    rw [if_neg hb]
    unfold gaveUp
    clear hb
    go_enter Tryz.func114, Tryz.ntmps114
    go_wp2_with fail
    refine (fail_any _ B p v zs bad H.out).mono ?_
    rintro e w1 ⟨rfl, rfl⟩
    go_wp2_with fail
    exact ⟨rfl, rfl, K.out⟩

theorem sureR_any (w : World) (B p : Nat) (v : Value) (zs : List Int) (bad : Int) (h : EyeAt w B p v zs bad) (xa : Option Addr) (xn xc : Nat) :
    Calls Tryz.prog 115 #[eyV p, .slice xa xn xc] w fun e w' => e = (if bad = 0 then .returned (.slice xa xn xc) else gaveUp bad) ∧ Keeps [] w w' := by
  have H := hid (h.keep ((Keeps.refl [] w).alloc (.cells #[.pointer (some ⟨p, 0, none⟩)] 141)) (by simp) (by intro _ _ _ _ _; simp))
  have K := hid ((Keeps.refl [] w).alloc (.cells #[.pointer (some ⟨p, 0, none⟩)] 141))
  clear h
  unfold eyV
  by_cases hb : bad = 0
  · subst hb
    go_enter Tryz.func115, Tryz.ntmps115
    go_wp2_with fail
    refine (fail_any _ B p v zs 0 H.out).mono ?_
    rintro e w1 ⟨rfl, rfl⟩
    go_wp2_with fail
    go_ret
    exact ⟨rfl, K.out⟩
  · have hb1 : (bad != 0) = true := by simpa using hb
    rw [if_neg hb]
    unfold gaveUp
    clear hb
    go_enter Tryz.func115, Tryz.ntmps115
    go_wp2_with fail
    refine (fail_any _ B p v zs bad H.out).mono ?_
    rintro e w1 ⟨rfl, rfl⟩
    go_wp2_with fail
    exact ⟨rfl, rfl, K.out⟩

section
variable {P : Program} {ops : Array Oper} {Q : Exit → Act → World → Prop}
/-- A call of a Go function that may panic. -/
theorem wp_enter2 {o : Oper} {a : Act} {w : World} {K : Act → World → Prop} {f : FuncId} {args : Array Value} {R : Ending → World → Prop} (hrun : (execOp a.eval o).run P w = .ok (.enter f args) w) (hc : Calls P f args w R)
    (h : ∀ e w', R e w' → (∃ v, e = .returned v ∧ K (a.put o.dst v) w') ∨ ∃ ch, e = .panicked ch ∧ Q (.panic ch) a w') : o.wp P a w K Q := by
  unfold Oper.wp
  rw [hrun, Oper.upon_enter]
  refine hc.mono fun e w' hr => ?_
  rcases h e w' hr with ⟨v, rfl, hk⟩ | ⟨ch, rfl, hk⟩
  · exact hk
  · exact hk
end

/-- What a reader leaves: it gave up, or it read something, and the rest is still to be read. -/
def GivePost {α : Type} (w : World) (B p : Nat) (v : Value) (r : Except Int (α × List Int)) (ret : α → Ending → Prop) (e : Ending) (w' : World) : Prop :=
  Keeps [p] w w' ∧ match r with
    | .error why => e = gaveUp why
    | .ok (x, rest) => ret x e ∧ ∃ v2, EyeAt w' B p v2 rest 0 ∧ SameBlk v v2

theorem uSEy : Tryz.prog.underlying 141 = some (.struct (Tryz.prog.fieldsOf 141)) := by kernel_rfl
theorem sSEy : (Tryz.prog.info? 141).map (·.size) = some 1 := by kernel_rfl
theorem loadEy_run (W : World) (b p : Nat) (h : W.cell? ⟨b, 0, none⟩ = some (.pointer (some ⟨p, 0, none⟩))) : (Instr.loadAt 141 (.pointer (some ⟨b, 0, none⟩))).run Tryz.prog W = .ok (eyV p) W :=
  run_loadAt_mid W b 0 141 [.pointer (some ⟨p, 0, none⟩)] _ (fun j u hu => by
    have hj : j < 1 := (List.getElem?_eq_some_iff.1 hu).1
    obtain rfl : j = 0 := by omega
    have : u = .pointer (some ⟨p, 0, none⟩) := by simpa using hu.symm
    subst this
    exact h) uSEy rfl (by rw [sSEy]; rfl)

theorem after_err {α : Type} (zs : List Int) (why : Int) : after (α := α) zs 0 (.error why) = (none, zs, why) := by simp [after]
theorem after_ok {α : Type} (zs : List Int) (x : α) (rest : List Int) : after zs 0 (.ok (x, rest)) = (some x, rest, 0) := by simp [after]

theorem exec_convert {ρ : Operand → Value} {o : Oper} {w w' : World} {v u : Value} (s t : TypeId) (x : Operand) (ho : o.op = .convert s t x) (hx : ρ x = u) (h : (convert s t u).run Tryz.prog w = .ok v w') : (execOp ρ o).run Tryz.prog w = .ok (.value v) w' := by
  simp [execOp, ho, hx, h, Result.andThen]

theorem rdBool_why {zs : List Int} {why : Int} (h : rdBool zs = .error why) : why ≠ 0 := by
  unfold rdBool at h
  split at h
  · cases h; decide
  · split at h
    · cases h; decide
    · cases h
theorem rdNum_why {n : Int} {zs : List Int} {why : Int} (h : rdNum n zs = .error why) : why ≠ 0 := by
  unfold rdNum at h
  split at h
  · cases h; decide
  · split at h
    · cases h; decide
    · cases h
theorem rdCount_why {n : Int} {zs : List Int} {why : Int} (h : rdCount n zs = .error why) : why ≠ 0 := by
  unfold rdCount at h
  split at h
  · cases h; decide
  · split at h
    · cases h; decide
    · split at h
      · cases h; decide
      · split at h
        · cases h; decide
        · cases h

set_option maxRecDepth 100000 in
set_option maxHeartbeats 1600000 in
theorem eUsed_any (w : World) (B p : Nat) (v : Value) (zs : List Int) (h : EyeAt w B p v zs 0) :
    Calls Tryz.prog 94 #[eyV p] w (GivePost w B p v (rdBool zs) fun x e => e = .returned (.bool x)) := by
  unfold eyV
  have HW : Hid (∀ why, rdBool zs = .error why → why ≠ 0) := hid fun _ h => rdBool_why h
  have H := hid (h.keep ((Keeps.refl [] w).alloc (.cells #[.pointer (some ⟨p, 0, none⟩)] 141)) (by simp) (by intro _ _ _ _ _; simp))
  have K := hid ((Keeps.refl [] w).alloc (.cells #[.pointer (some ⟨p, 0, none⟩)] 141))
  have hp := h.lt
  have hc := cell_of_one (heap_alloc_new w (.cells #[.pointer (some ⟨p, 0, none⟩)] 141))
  have C := hid hc
  clear h hc
  go_enter Tryz.func94, Tryz.ntmps94
  go_wp2_with fail
  have hz : (w.alloc (.cells #[.pointer (some ⟨p, 0, none⟩)] 141)).heap.size = w.heap.size + 1 := by simp
  generalize w.alloc (.cells #[.pointer (some ⟨p, 0, none⟩)] 141) = w1 at H K C hz ⊢
  refine wp_region_any (by kernel_rfl) (wpAny_of_held (S := KpS [p] w1.heap.size w1.drew) _ _ _ _ ?_)
  change wpAnyH _ _ _ _ _ _ _ _ w1.drew
  have cE : ∀ W1, KpS [p] w1.heap.size w1.drew W1 → W1.cell? ⟨w.heap.size, 0, none⟩ = some (.pointer (some ⟨p, 0, none⟩)) := fun W1 h => h.cell (by rw [World.cell?_drew]; exact C.out) (by omega) (by simp; omega)
  refine held_take (i := 0) (v := eyV p) rfl (by kernel_rfl) (by kernel_rfl) (by kernel_rfl) (fun _ _ _ h => h) rfl (fun W1 hW1 => exec_load _ _ _ _ rfl rfl (loadEy_run W1 _ _ (cE W1 hW1))) (KpS.refl _ _ _) ?_
  simp only [Act.put, List.setIfInBounds_toArray, List.set_cons_zero, List.set_cons_succ]
  refine held_take (i := 1) (v := .pointer (some ⟨w.heap.size, 0, none⟩)) rfl (by kernel_rfl) (by kernel_rfl) (by kernel_rfl) (fun _ _ _ h => h) rfl (fun W1 hW1 => by go_simp) (KpS.refl _ _ _) ?_
  simp only [Act.put, List.setIfInBounds_toArray, List.set_cons_zero, List.set_cons_succ]
  refine held_take (i := 2) (v := .pointer (some ⟨p, 0, none⟩)) rfl (by kernel_rfl) (by kernel_rfl) (by kernel_rfl) (fun _ _ _ h => h) rfl (fun W1 hW1 => exec_load _ _ _ _ rfl rfl (run_loadCell W1 _ _ _ (cE W1 hW1) (agg_no _ (by kernel_rfl)))) (KpS.refl _ _ _) ?_
  simp only [Act.put, List.setIfInBounds_toArray, List.set_cons_zero, List.set_cons_succ]
  have HD : EyeAt w1.drew B p v zs 0 := H.out.keep (Keeps.refl [] w1).drew (by simp) (by intro _ _ _ _ _; simp)
  refine held_do (i := 3) (by kernel_rfl) rfl rfl (wp_enter (f := 113) (args := #[.pointer (some ⟨p, 0, none⟩)]) (by go_simp) (eyeBool_any w1.drew B p v zs 0 HD) ?_)
  rintro e W2 ⟨⟨v2, h2, sb⟩, k2, h3⟩
  have SB := hid sb
  clear sb
  have kk : KpS [p] w1.heap.size w1.drew W2 := (KpS.refl _ _ _).keeps k2 (Nat.le_refl _) (fun i hi _ => hi)
  have KW : Keeps [p] w W2 := (K.out.mono (by simp)).trans ⟨kk.os, kk.tape, kk.output, kk.size, kk.block⟩
  generalize hr : rdBool zs = r at h2 h3
  cases r with
  | error why =>
    have hw0 := HW.out _ hr
    rw [after_err] at h2 h3
    simp only at h2 h3
    subst h3
    refine ⟨_, rfl, kk, ?_⟩
    simp only [Act.put, List.setIfInBounds_toArray, List.set_cons_zero, List.set_cons_succ]
    refine held_do (i := 4) (by kernel_rfl) rfl rfl (wp_enter2 (f := 112) (args := #[eyV p, .bool false]) (by go_simp) (sureB_any W2 B p v2 zs why h2 false) ?_)
    rintro e W3 ⟨rfl, k3⟩
    right
    rw [if_neg hw0]
    refine ⟨_, rfl, ?_⟩
    refine ⟨rfl, KW.trans (k3.mono (by simp)), ?_⟩
    rw [hr]
    rfl
  | ok xr =>
    obtain ⟨x, rest⟩ := xr
    rw [after_ok] at h2 h3
    simp only at h2 h3
    obtain rfl := h3
    refine ⟨_, rfl, kk, ?_⟩
    simp only [Act.put, List.setIfInBounds_toArray, List.set_cons_zero, List.set_cons_succ]
    refine held_do (i := 4) (by kernel_rfl) rfl rfl (wp_enter2 (f := 112) (args := #[eyV p, .bool x]) (by go_simp) (sureB_any W2 B p v2 rest 0 h2 x) ?_)
    rintro e W3 ⟨rfl, k3⟩
    left
    rw [if_pos rfl]
    have kk3 : KpS [p] w1.heap.size w1.drew W3 := kk.keeps k3 kk.size (by simp)
    refine ⟨_, rfl, kk3, ?_⟩
    simp only [Act.put, List.setIfInBounds_toArray, List.set_cons_zero, List.set_cons_succ]
    refine held_take (i := 5) (v := .bool x) rfl (by kernel_rfl) (by kernel_rfl) (by kernel_rfl) (fun _ _ _ h => h) rfl (fun W1 hW1 => rfl) (kk3) ?_
    simp only [Act.put, List.setIfInBounds_toArray, List.set_cons_zero, List.set_cons_succ]
    refine wpAnyH_done (by kernel_rfl) ?_ _
    have H4 := hid (h2.keep k3 (by simp) (by intro _ _ _ _ _; simp))
    have K4 := hid (KW.trans (k3.mono (by simp)))
    clear h2 k3 kk kk3 KW cE HD
    go_wp2_with fail
    go_ret
    exact ⟨K4.out, by rw [hr]; exact ⟨rfl, _, H4.out, SB.out⟩⟩

def rdHeld (zs : List Int) : Except Int (Int × List Int) := match rdNum 2 zs with | .error why => .error why | .ok (n, rest) => if 448 < n then .error 3 else .ok (n, rest)

set_option maxRecDepth 100000 in
set_option maxHeartbeats 1600000 in
theorem eHeld_any (w : World) (B p : Nat) (v : Value) (zs : List Int) (h : EyeAt w B p v zs 0) :
    Calls Tryz.prog 95 #[eyV p] w (GivePost w B p v (rdHeld zs) fun x e => e = .returned (.int .i64 x)) := by
  unfold eyV
  have HW : Hid (∀ why, rdNum 2 zs = .error why → why ≠ 0) := hid fun _ h => rdNum_why h
  have H := hid (h.keep ((Keeps.refl [] w).alloc (.cells #[.pointer (some ⟨p, 0, none⟩)] 141)) (by simp) (by intro _ _ _ _ _; simp))
  have K := hid ((Keeps.refl [] w).alloc (.cells #[.pointer (some ⟨p, 0, none⟩)] 141))
  have hp := h.lt
  have hc := cell_of_one (heap_alloc_new w (.cells #[.pointer (some ⟨p, 0, none⟩)] 141))
  have C := hid hc
  clear h hc
  go_enter Tryz.func95, Tryz.ntmps95
  go_wp2_with fail
  have hz : (w.alloc (.cells #[.pointer (some ⟨p, 0, none⟩)] 141)).heap.size = w.heap.size + 1 := by simp
  generalize w.alloc (.cells #[.pointer (some ⟨p, 0, none⟩)] 141) = w1 at H K C hz ⊢
  refine wp_region_any (by kernel_rfl) (wpAny_of_held (S := KpS [p] w1.heap.size w1.drew) _ _ _ _ ?_)
  change wpAnyH _ _ _ _ _ _ _ _ w1.drew
  have cE : ∀ W1, KpS [p] w1.heap.size w1.drew W1 → W1.cell? ⟨w.heap.size, 0, none⟩ = some (.pointer (some ⟨p, 0, none⟩)) := fun W1 h => h.cell (by rw [World.cell?_drew]; exact C.out) (by omega) (by simp; omega)
  refine held_take (i := 0) (v := eyV p) rfl (by kernel_rfl) (by kernel_rfl) (by kernel_rfl) (fun _ _ _ h => h) rfl (fun W1 hW1 => exec_load _ _ _ _ rfl rfl (loadEy_run W1 _ _ (cE W1 hW1))) (KpS.refl _ _ _) ?_
  simp only [Act.put, List.setIfInBounds_toArray, List.set_cons_zero, List.set_cons_succ]
  refine held_take (i := 1) (v := .pointer (some ⟨w.heap.size, 0, none⟩)) rfl (by kernel_rfl) (by kernel_rfl) (by kernel_rfl) (fun _ _ _ h => h) rfl (fun W1 hW1 => by go_simp) (KpS.refl _ _ _) ?_
  simp only [Act.put, List.setIfInBounds_toArray, List.set_cons_zero, List.set_cons_succ]
  refine held_take (i := 2) (v := .pointer (some ⟨p, 0, none⟩)) rfl (by kernel_rfl) (by kernel_rfl) (by kernel_rfl) (fun _ _ _ h => h) rfl (fun W1 hW1 => exec_load _ _ _ _ rfl rfl (run_loadCell W1 _ _ _ (cE W1 hW1) (agg_no _ (by kernel_rfl)))) (KpS.refl _ _ _) ?_
  simp only [Act.put, List.setIfInBounds_toArray, List.set_cons_zero, List.set_cons_succ]
  have HD : EyeAt w1.drew B p v zs 0 := H.out.keep (Keeps.refl [] w1).drew (by simp) (by intro _ _ _ _ _; simp)
  refine held_do (i := 3) (by kernel_rfl) rfl rfl (wp_enter (f := 98) (args := #[.pointer (some ⟨p, 0, none⟩), .int .i64 2]) (by go_simp) (eyeNum_any w1.drew B p v zs 0 2 HD) ?_)
  rintro e W2 ⟨⟨v2, h2, sb⟩, k2, h3⟩
  have SB := hid sb
  clear sb
  have kk : KpS [p] w1.heap.size w1.drew W2 := (KpS.refl _ _ _).keeps k2 (Nat.le_refl _) (fun i hi _ => hi)
  have KW : Keeps [p] w W2 := (K.out.mono (by simp)).trans ⟨kk.os, kk.tape, kk.output, kk.size, kk.block⟩
  generalize hr : rdNum 2 zs = r at h2 h3
  cases r with
  | error why =>
    have hw0 := HW.out _ hr
    rw [after_err] at h2 h3
    simp only at h2 h3
    subst h3
    refine ⟨_, rfl, kk, ?_⟩
    simp only [Act.put, List.setIfInBounds_toArray, List.set_cons_zero, List.set_cons_succ]
    refine held_do (i := 4) (by kernel_rfl) rfl rfl (wp_enter2 (f := 114) (args := #[eyV p, .int .i64 0]) (by go_simp) (sureI_any W2 B p v2 zs why h2 0) ?_)
    rintro e W3 ⟨rfl, k3⟩
    right
    rw [if_neg hw0]
    refine ⟨_, rfl, ?_⟩
    refine ⟨rfl, KW.trans (k3.mono (by simp)), ?_⟩
    unfold rdHeld
    rw [hr]
    rfl
  | ok xr =>
    obtain ⟨x, rest⟩ := xr
    rw [after_ok] at h2 h3
    simp only at h2 h3
    obtain rfl := h3
    refine ⟨_, rfl, kk, ?_⟩
    simp only [Act.put, List.setIfInBounds_toArray, List.set_cons_zero, List.set_cons_succ]
    refine held_do (i := 4) (by kernel_rfl) rfl rfl (wp_enter2 (f := 114) (args := #[eyV p, .int .i64 x]) (by go_simp) (sureI_any W2 B p v2 rest 0 h2 x) ?_)
    rintro e W3 ⟨rfl, k3⟩
    left
    rw [if_pos rfl]
    have kk3 : KpS [p] w1.heap.size w1.drew W3 := kk.keeps k3 kk.size (by simp)
    refine ⟨_, rfl, kk3, ?_⟩
    simp only [Act.put, List.setIfInBounds_toArray, List.set_cons_zero, List.set_cons_succ]
    refine held_take (i := 5) (v := .int .i64 x) rfl (by kernel_rfl) (by kernel_rfl) (by kernel_rfl) (fun _ _ _ h => h) rfl (fun W1 hW1 => rfl) (kk3) ?_
    simp only [Act.put, List.setIfInBounds_toArray, List.set_cons_zero, List.set_cons_succ]
    refine wpAnyH_done (by kernel_rfl) ?_ _
    have H4 := hid (h2.keep k3 (by simp) (by intro _ _ _ _ _; simp))
    have K4 := hid (KW.trans (k3.mono (by simp)))
    have HR := hid hr
    clear h2 k3 kk kk3 KW cE HD hr
    by_cases hx : 448 < x
    · go_wp2_with fail
      refine ⟨rfl, K4.out, ?_⟩
      unfold rdHeld
      rw [HR.out]
      simp only [if_pos hx]
      rfl
    · go_wp2_with fail
      go_ret
      refine ⟨K4.out, ?_⟩
      unfold rdHeld
      rw [HR.out]
      simp only [if_neg (show ¬ 448 < x by omega)]
      exact ⟨rfl, _, H4.out, SB.out⟩

set_option maxRecDepth 100000 in
set_option maxHeartbeats 1600000 in
theorem eKey_any (w : World) (B p : Nat) (v : Value) (zs : List Int) (h : EyeAt w B p v zs 0) :
    Calls Tryz.prog 96 #[eyV p] w (GivePost w B p v (rdCount 40 zs) fun x e => e = .returned (.string (strOfNums x))) := by
  unfold eyV
  have HW : Hid (∀ why, rdCount 40 zs = .error why → why ≠ 0) := hid fun _ h => rdCount_why h
  have H := hid (h.keep ((Keeps.refl [] w).alloc (.cells #[.pointer (some ⟨p, 0, none⟩)] 141)) (by simp) (by intro _ _ _ _ _; simp))
  have K := hid ((Keeps.refl [] w).alloc (.cells #[.pointer (some ⟨p, 0, none⟩)] 141))
  have hp := h.lt
  have hc := cell_of_one (heap_alloc_new w (.cells #[.pointer (some ⟨p, 0, none⟩)] 141))
  have C := hid hc
  clear h hc
  go_enter Tryz.func96, Tryz.ntmps96
  go_wp2_with fail
  have hz : (w.alloc (.cells #[.pointer (some ⟨p, 0, none⟩)] 141)).heap.size = w.heap.size + 1 := by simp
  generalize w.alloc (.cells #[.pointer (some ⟨p, 0, none⟩)] 141) = w1 at H K C hz ⊢
  refine wp_region_any (by kernel_rfl) (wpAny_of_held (S := KpS [p] w1.heap.size w1.drew) _ _ _ _ ?_)
  change wpAnyH _ _ _ _ _ _ _ _ w1.drew
  have cE : ∀ W1, KpS [p] w1.heap.size w1.drew W1 → W1.cell? ⟨w.heap.size, 0, none⟩ = some (.pointer (some ⟨p, 0, none⟩)) := fun W1 h => h.cell (by rw [World.cell?_drew]; exact C.out) (by omega) (by simp; omega)
  refine held_take (i := 0) (v := eyV p) rfl (by kernel_rfl) (by kernel_rfl) (by kernel_rfl) (fun _ _ _ h => h) rfl (fun W1 hW1 => exec_load _ _ _ _ rfl rfl (loadEy_run W1 _ _ (cE W1 hW1))) (KpS.refl _ _ _) ?_
  simp only [Act.put, List.setIfInBounds_toArray, List.set_cons_zero, List.set_cons_succ]
  refine held_take (i := 1) (v := .pointer (some ⟨w.heap.size, 0, none⟩)) rfl (by kernel_rfl) (by kernel_rfl) (by kernel_rfl) (fun _ _ _ h => h) rfl (fun W1 hW1 => by go_simp) (KpS.refl _ _ _) ?_
  simp only [Act.put, List.setIfInBounds_toArray, List.set_cons_zero, List.set_cons_succ]
  refine held_take (i := 2) (v := .pointer (some ⟨p, 0, none⟩)) rfl (by kernel_rfl) (by kernel_rfl) (by kernel_rfl) (fun _ _ _ h => h) rfl (fun W1 hW1 => exec_load _ _ _ _ rfl rfl (run_loadCell W1 _ _ _ (cE W1 hW1) (agg_no _ (by kernel_rfl)))) (KpS.refl _ _ _) ?_
  simp only [Act.put, List.setIfInBounds_toArray, List.set_cons_zero, List.set_cons_succ]
  have HD : EyeAt w1.drew B p v zs 0 := H.out.keep (Keeps.refl [] w1).drew (by simp) (by intro _ _ _ _ _; simp)
  refine held_do (i := 3) (by kernel_rfl) rfl rfl (wp_enter (f := 116) (args := #[.pointer (some ⟨p, 0, none⟩), .int .i64 40]) (by go_simp) (eyeRaw_any w1.drew B p v zs 0 40 HD) ?_)
  rintro e W2 ⟨⟨v2, h2, sb⟩, k2, h3⟩
  have SB := hid sb
  clear sb
  have kk : KpS [p] w1.heap.size w1.drew W2 := (KpS.refl _ _ _).keeps k2 (Nat.le_refl _) (fun i hi _ => hi)
  have KW : Keeps [p] w W2 := (K.out.mono (by simp)).trans ⟨kk.os, kk.tape, kk.output, kk.size, kk.block⟩
  generalize hr : rdCount 40 zs = r at h2 h3
  cases r with
  | error why =>
    have hw0 := HW.out _ hr
    rw [after_err] at h2 h3
    simp only at h2 h3
    subst h3
    refine ⟨_, rfl, kk, ?_⟩
    simp only [Act.put, List.setIfInBounds_toArray, List.set_cons_zero, List.set_cons_succ]
    refine held_do (i := 4) (by kernel_rfl) rfl rfl (wp_enter2 (f := 115) (args := #[eyV p, .slice none 0 0]) (by go_simp) (sureR_any W2 B p v2 zs why h2 none 0 0) ?_)
    rintro e W3 ⟨rfl, k3⟩
    right
    rw [if_neg hw0]
    refine ⟨_, rfl, ?_⟩
    refine ⟨rfl, KW.trans (k3.mono (by simp)), ?_⟩
    rw [hr]
    rfl
  | ok xr =>
    obtain ⟨x, rest⟩ := xr
    rw [after_ok] at h2 h3
    simp only at h2 h3
    obtain ⟨xa, xc, rfl, hx, -⟩ := h3
    refine ⟨_, rfl, kk, ?_⟩
    simp only [Act.put, List.setIfInBounds_toArray, List.set_cons_zero, List.set_cons_succ]
    refine held_do (i := 4) (by kernel_rfl) rfl rfl (wp_enter2 (f := 115) (args := #[eyV p, .slice xa x.length xc]) (by go_simp) (sureR_any W2 B p v2 rest 0 h2 xa x.length xc) ?_)
    rintro e W3 ⟨rfl, k3⟩
    left
    rw [if_pos rfl]
    have kk3 : KpS [p] w1.heap.size w1.drew W3 := kk.keeps k3 kk.size (by simp)
    refine ⟨_, rfl, kk3, ?_⟩
    simp only [Act.put, List.setIfInBounds_toArray, List.set_cons_zero, List.set_cons_succ]
    have hx3 := hx.keep k3 (by intro _ _ _ _ _; simp)
    refine held_do (i := 5) (by kernel_rfl) rfl rfl (wp_value (exec_convert 22 9 _ rfl rfl (conv_row hx3)) ⟨kk3, ?_⟩)
    simp only [Act.put, List.setIfInBounds_toArray, List.set_cons_zero, List.set_cons_succ]
    refine held_take (i := 6) (v := .string (strOfNums x)) rfl (by kernel_rfl) (by kernel_rfl) (by kernel_rfl) (fun _ _ _ h => h) rfl (fun W1 hW1 => rfl) (kk3) ?_
    simp only [Act.put, List.setIfInBounds_toArray, List.set_cons_zero, List.set_cons_succ]
    refine wpAnyH_done (by kernel_rfl) ?_ _
    have H4 := hid (h2.keep k3 (by simp) (by intro _ _ _ _ _; simp))
    have K4 := hid (KW.trans (k3.mono (by simp)))
    clear h2 k3 kk kk3 KW cE HD
    go_wp2_with fail
    go_ret
    exact ⟨K4.out, by rw [hr]; exact ⟨rfl, _, H4.out, SB.out⟩⟩

def allZ (zs : List Int) : Bool := zs.all (· == 0)
def nouE (zs : List Int) : Ending := if allZ zs then .returned (.tuple #[]) else gaveUp 4
theorem rdNum1 (z : Int) (rest : List Int) : rdNum 1 (z :: rest) = .ok (z, rest) := by simp [rdNum, val]

set_option maxRecDepth 100000 in
set_option maxHeartbeats 3200000 in
theorem eNou_any (w : World) (B p : Nat) (v : Value) (zs : List Int) (h : EyeAt w B p v zs 0) :
    Calls Tryz.prog 97 #[eyV p] w fun e w' => e = nouE zs ∧ Keeps [p] w w' := by
  unfold eyV
  have H := hid (h.keep ((Keeps.refl [] w).alloc (.cells #[.pointer (some ⟨p, 0, none⟩)] 141)) (by simp) (by intro _ _ _ _ _; simp))
  have K := hid ((Keeps.refl [] w).alloc (.cells #[.pointer (some ⟨p, 0, none⟩)] 141))
  have hp := h.lt
  have hfit := h.fits
  have hc := cell_of_one (heap_alloc_new w (.cells #[.pointer (some ⟨p, 0, none⟩)] 141))
  have C := hid hc
  clear h
  go_enter Tryz.func97, Tryz.ntmps97
  go_wp2_with fail
  have hz : (w.alloc (.cells #[.pointer (some ⟨p, 0, none⟩)] 141)).heap.size = w.heap.size + 1 := by simp
  clear hc
  generalize w.alloc (.cells #[.pointer (some ⟨p, 0, none⟩)] 141) = w1 at H K C hz ⊢
  refine (left_any _ B p v zs 0 H.out).mono ?_
  rintro e _ ⟨rfl, rfl⟩
  go_wp2_with fail
  go_loopw [5] (fun i wr => ∃ (k : Nat) (v2 : Value), k ≤ zs.length ∧ i = .int .i64 k ∧ EyeAt wr B p v2 (zs.drop k) 0 ∧ Keeps [p] w1 wr ∧ allZ (zs.take k) = true) (fun i _ => zs.length - (intOf i).toNat)
  case atStart => exact ⟨0, v, by omega, rfl, H.out, Keeps.refl _ _, rfl⟩
  case round =>
    obtain ⟨k, v2, hk, rfl, q1, q2, q3⟩ := hrel
    have Q1 := hid q1
    have Q2 := hid q2
    have Q3 := hid q3
    have hw : w1.heap.size ≤ wr.heap.size := q2.size
    clear q1 q2 q3
    by_cases hlt : k < zs.length
    · obtain ⟨z, rest, hzr⟩ : ∃ z rest, zs.drop k = z :: rest := ⟨_, _, List.drop_eq_getElem_cons hlt⟩
      have hz1 : zs[k] = z := by have := List.drop_eq_getElem_cons hlt; rw [this] at hzr; injection hzr
      have hz2 : zs.drop (k + 1) = rest := by have := List.drop_eq_getElem_cons hlt; rw [this] at hzr; injection hzr
      have ZR := hid hzr
      have Z1 := hid hz1
      have Z2 := hid hz2
      clear hzr hz1 hz2
      go_wp2_with fail
      refine wp_region_any (by kernel_rfl) (wpAny_of_held (S := KpS [p] wr.heap.size wr.drew) _ _ _ _ ?_)
      change wpAnyH _ _ _ _ _ _ _ _ wr.drew
      have cE : ∀ W1, KpS [p] wr.heap.size wr.drew W1 → W1.cell? ⟨w.heap.size, 0, none⟩ = some (.pointer (some ⟨p, 0, none⟩)) := fun W1 h => h.cell (by rw [World.cell?_drew]; exact Q2.out.cell C.out (by simp; omega)) (by omega) (by simp; omega)
      refine held_take (i := 0) (v := eyV p) rfl (by kernel_rfl) (by kernel_rfl) (by kernel_rfl) (fun _ _ _ h => h) rfl (fun W1 hW1 => exec_load _ _ _ _ rfl rfl (loadEy_run W1 _ _ (cE W1 hW1))) (KpS.refl _ _ _) ?_
      simp only [Act.put, List.setIfInBounds_toArray, List.set_cons_zero, List.set_cons_succ]
      refine held_take (i := 1) (v := .pointer (some ⟨w.heap.size, 0, none⟩)) rfl (by kernel_rfl) (by kernel_rfl) (by kernel_rfl) (fun _ _ _ h => h) rfl (fun W1 hW1 => by go_simp) (KpS.refl _ _ _) ?_
      simp only [Act.put, List.setIfInBounds_toArray, List.set_cons_zero, List.set_cons_succ]
      refine held_take (i := 2) (v := .pointer (some ⟨p, 0, none⟩)) rfl (by kernel_rfl) (by kernel_rfl) (by kernel_rfl) (fun _ _ _ h => h) rfl (fun W1 hW1 => exec_load _ _ _ _ rfl rfl (run_loadCell W1 _ _ _ (cE W1 hW1) (agg_no _ (by kernel_rfl)))) (KpS.refl _ _ _) ?_
      simp only [Act.put, List.setIfInBounds_toArray, List.set_cons_zero, List.set_cons_succ]
      have HD : EyeAt wr.drew B p v2 (z :: rest) 0 := by rw [← ZR.out]; exact Q1.out.keep (Keeps.refl [] wr).drew (by simp) (by intro _ _ _ _ _; simp)
      refine held_do (i := 3) (by kernel_rfl) rfl rfl (wp_enter (f := 98) (args := #[.pointer (some ⟨p, 0, none⟩), .int .i64 1]) (by go_simp) (eyeNum_any wr.drew B p v2 (z :: rest) 0 1 HD) ?_)
      rintro e W2 ⟨⟨v3, h2, -⟩, k2, h3⟩
      have kk : KpS [p] wr.heap.size wr.drew W2 := (KpS.refl _ _ _).keeps k2 (Nat.le_refl _) (fun i hi _ => hi)
      rw [rdNum1, after_ok] at h2 h3
      simp only at h2 h3
      obtain rfl := h3
      refine ⟨_, rfl, kk, ?_⟩
      simp only [Act.put, List.setIfInBounds_toArray, List.set_cons_zero, List.set_cons_succ]
      refine held_do (i := 4) (by kernel_rfl) rfl rfl (wp_enter2 (f := 114) (args := #[eyV p, .int .i64 z]) (by go_simp) (sureI_any W2 B p v3 rest 0 h2 z) ?_)
      rintro e W3 ⟨rfl, k3⟩
      left
      rw [if_pos rfl]
      have kk3 : KpS [p] wr.heap.size wr.drew W3 := kk.keeps k3 kk.size (by simp)
      refine ⟨_, rfl, kk3, ?_⟩
      simp only [Act.put, List.setIfInBounds_toArray, List.set_cons_zero, List.set_cons_succ]
      refine held_take (i := 5) (v := .bool (z != 0)) rfl (by kernel_rfl) (by kernel_rfl) (by kernel_rfl) (fun _ _ _ h => h) rfl (fun W1 hW1 => by go_simp) (kk3) ?_
      simp only [Act.put, List.setIfInBounds_toArray, List.set_cons_zero, List.set_cons_succ]
      refine wpAnyH_done (by kernel_rfl) ?_ _
      have H4 := hid (h2.keep k3 (by simp) (by intro _ _ _ _ _; simp))
      have K4 : Hid (Keeps [p] wr W3) := hid ⟨kk3.os, kk3.tape, kk3.output, kk3.size, kk3.block⟩
      clear h2 k2 k3 kk kk3 cE HD
      by_cases hz0 : z = 0
      · have t0 : (z != 0) = false := by simp [hz0]
        have Z0 := hid hz0
        clear hz0
        go_wp2_with fail
        go_roundw
        case rel =>
          refine ⟨k + 1, v3, by omega, by go_num, by rw [Z2.out]; exact H4.out, Q2.out.trans K4.out, ?_⟩
          have e : zs.take (k + 1) = zs.take k ++ [z] := by rw [← Z1.out]; simp
          have q3 := Q3.out
          unfold allZ at q3 ⊢
          rw [e, List.all_append, q3, Z0.out]
          rfl
        case measure => simp [intOf]; omega
      · have t0 : (z != 0) = true := by simp [hz0]
        have Z0 := hid hz0
        clear hz0
        go_wp2_with fail
        refine ⟨rfl, ?_, (K.out.mono (by simp)).trans (Q2.out.trans K4.out)⟩
        have : allZ zs = false := by
          unfold allZ
          rw [List.all_eq_false]
          exact ⟨zs[k], List.getElem_mem hlt, by rw [Z1.out]; simp [Z0.out]⟩
        unfold nouE
        rw [this]
        rfl
    · have : k = zs.length := by omega
      subst this
      have q3 := Q3.out
      rw [List.take_length] at q3
      have Q4 := hid q3
      clear q3
      go_wp2_with fail
      go_end0
      refine ⟨?_, (K.out.mono (by simp)).trans Q2.out⟩
      unfold nouE
      rw [Q4.out]
      rfl
end Go.Proofs.YtnhcfkiejldicaaGreat
