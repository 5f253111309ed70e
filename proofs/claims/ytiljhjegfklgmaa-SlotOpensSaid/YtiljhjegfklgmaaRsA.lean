/- The reference's slots: noughts; what a sector is, by its eye. -/
import Derived.Test.YtiljhjegfklgmaaRfJa
import Derived.Test.YtiljhjegfklgmaaWrJb
import Derived.Test.YtiljhjegfklgmaaSlJb
import Derived.Test.YtiljhjegfklgmaaKitF
import Derived.Test.YtiljhjegfklgmaaRfL
namespace Go.Proofs.Ytiljhjegfklgmaa
open Go.RowKit Go.Shelf
set_option maxRecDepth 100000
set_option linter.unusedSimpArgs false

theorem row_blk {w : World} {v : Value} {zs : List Int} (h : RowAt w v zs) {ad : Addr} {n c : Nat} (e : v = .slice (some ad) n c) (hne : zs ≠ []) : ad.block < w.heap.size := by
  obtain ⟨a, cap, rfl, _, _, _, _, hc⟩ := h
  injection e with e1 _ _
  subst e1
  match zs, hne with
  | z :: r, _ =>
    have := hc ad rfl 0 (.int .u8 z) rfl
    have h2 := World.block_lt_of_cell? _ _ this
    rwa [Addr.add_block] at h2
theorem allZ_step (zs : List Int) (k : Nat) (h : k < zs.length) : allZ (zs.take (k + 1)) = (allZ (zs.take k) && (zs[k] == 0)) := by
  rw [List.take_succ_eq_append_getElem h]
  unfold allZ
  rw [List.all_append, List.all_cons, List.all_nil, Bool.and_true]
theorem allZ_no (zs : List Int) (k : Nat) (h : k < zs.length) (hz : (zs[k] == 0) = false) : allZ zs = false := by
  cases ha : allZ zs with
  | false => rfl
  | true =>
    unfold allZ at ha
    rw [List.all_eq_true] at ha
    have := ha _ (List.getElem_mem h)
    rw [hz] at this
    cases this

set_option maxHeartbeats 800000 in
theorem rnoughts_any (w : World) (v : Value) (zs : List Int) (h : RowAt w v zs) :
    Calls Try.prog 52 #[v] w fun e w' => e = .returned (.bool (allZ zs)) ∧ w = w' := by
  have HR := hid h
  obtain ⟨a, cap, rfl, z1, z2, z⟩ := h
  have hlen : zs.length ≤ 9223372036854775807 := by unfold maxLen at z2; omega
  clear z z1 z2
  go_enter Try.func52, Try.ntmps52
  go_wp2_with fail
  go_loop [3] (fun i => ∃ k : Nat, k ≤ zs.length ∧ i = .int .i64 k ∧ allZ (zs.take k) = true) (fun i => zs.length - (intOf i).toNat)
  case atStart => exact ⟨0, by omega, rfl, rfl⟩
  case round =>
    obtain ⟨k, hk, rfl, hz⟩ := hrel
    have HZ := hid hz
    clear hz
    by_cases hlt : k < zs.length
    · obtain ⟨g, off, cp, e1, _, hc⟩ := HR.out.open (by omega)
      injection e1 with e1 e2 e3
      subst e1
      have hck : w.cell? ⟨g, off + k, none⟩ = some (.int .u8 zs[k]) := by
        have := hc k hlt
        rwa [List.getD_eq_getElem?_getD, List.getElem?_eq_getElem hlt] at this
      have HT2 := hid (allZ_step zs k hlt)
      have HNO := hid (allZ_no zs k hlt)
      clear hc e2 e3
      generalize zs[k] = b at *
      by_cases hb : b = 0
      · subst hb
        go_wp2_with fail
        go_round
        case rel => exact ⟨k + 1, by omega, by go_num, by rw [HT2.out, HZ.out]; rfl⟩
        case measure => simp [intOf]; omega
      · have hb' : (b != 0) = true := by simpa using hb
        have hb2 : (b == 0) = false := by simpa using hb
        go_wp2_with fail
        go_ret
        rw [HNO.out hb2]
        exact ⟨rfl, rfl⟩
    · have : k = zs.length := by omega
      subst this
      go_wp2_with fail
      go_ret
      have := HZ.out
      rw [List.take_length] at this
      rw [this]
      exact ⟨rfl, rfl⟩

/-- What the reference says that a first sector is. -/
def refHd (zs : List Int) : Option Hd :=
  if allZ zs then some hd0 else match rdNum 1 zs with
    | .error _ => none
    | .ok (one, r) => match rdNum 2 r with
      | .error _ => none
      | .ok (n, r) => match rdCount 40 r with
        | .error _ => none
        | .ok (k, r) => if one = 1 ∧ n ≤ 448 ∧ allZ r = true then some ⟨true, n.toNat, k⟩ else none

theorem refHd_is (zs : List Int) (hne : zs ≠ []) (hb : ∀ z ∈ zs, 0 ≤ z ∧ z ≤ 255) : refHd zs = hdOf zs := by
  match zs, hne with
  | z :: r, _ =>
    have e1 : rdNum 1 (z :: r) = .ok (z, r) := rdNum1 z r
    have e2 : rdBool (z :: r) = if 1 < z then .error 4 else .ok (z == 1, r) := by simp [rdBool, val]
    have e3 : allZ (z :: r) = ((z == 0) && allZ r) := rfl
    unfold refHd hdOf
    rw [e1, e2, e3]
    by_cases h1 : 1 < z
    · rw [if_pos h1]
      have h0 : (z == 0) = false := by simp; omega
      rw [h0]
      simp only [Bool.false_and, Bool.false_eq_true, if_false]
      cases rdNum 2 r with
      | error _ => rfl
      | ok x =>
        obtain ⟨n, r2⟩ := x
        simp only
        cases rdCount 40 r2 with
        | error _ => rfl
        | ok y =>
          obtain ⟨k, r3⟩ := y
          simp only
          rw [if_neg (by omega)]
    · rw [if_neg h1]
      by_cases hz1 : z = 1
      · subst hz1
        simp only [show ((1 : Int) == 0) = false from rfl, show ((1 : Int) == 1) = true from rfl, Bool.false_and, Bool.false_eq_true, if_false, rdHeld]
        cases rdNum 2 r with
        | error _ => rfl
        | ok x =>
          obtain ⟨n, r2⟩ := x
          simp only
          by_cases hn : 448 < n
          · rw [if_pos hn]
            cases rdCount 40 r2 with
            | error _ => rfl
            | ok y =>
              obtain ⟨k, r3⟩ := y
              simp only
              rw [if_neg (by omega)]
          · rw [if_neg hn]
            simp only
            cases rdCount 40 r2 with
            | error _ => rfl
            | ok y =>
              obtain ⟨k, r3⟩ := y
              simp only
              by_cases ha : allZ r3 = true
              · rw [if_pos ⟨trivial, by omega, ha⟩, if_pos ha]
              · rw [if_neg (fun h => ha h.2.2), if_neg ha]
      · have h1' : (z == 1) = false := by simpa using hz1
        have h0 : z = 0 := by have := (hb z (by simp)).1; omega
        subst h0
        rw [h1']
        simp only [show ((0 : Int) == 0) = true from rfl, Bool.true_and]
        cases ha : allZ r with
        | true => rfl
        | false =>
          simp only [Bool.false_eq_true, if_false]
          cases rdNum 2 r with
          | error _ => rfl
          | ok x =>
            obtain ⟨n, r2⟩ := x
            simp only
            cases rdCount 40 r2 with
            | error _ => rfl
            | ok y =>
              obtain ⟨k, r3⟩ := y
              simp only
              rw [if_neg (by omega)]

/-- What reading a first sector answers: the head's cells, whether there is one. -/
def RhPost (w : World) (r : Option Hd) (e : Ending) (w' : World) : Prop :=
  ∃ kv, e = .returned (.tuple #[.agg #[.bool (r.getD hd0).used, kv, .int .i64 (r.getD hd0).held], .bool r.isSome]) ∧ RowAt w' kv (r.getD hd0).key ∧ (∀ b, kv.ownBlock = some b → w.heap.size ≤ b) ∧ Keeps [] w w'

theorem uHeld : Try.prog.underlying 79 = some (.struct (Try.prog.fieldsOf 79)) := by kernel_rfl
theorem iHeld : (Try.prog.info? 79).map (fun i => (i.zero, i.size)) = some (some (.agg #[.bool false, .slice none 0 0, .int .i64 0]), 3) := by kernel_rfl
theorem run_buildHeld0 (w : World) : (Instr.build 79 #[]).run Try.prog w = .ok (.agg #[.bool false, .slice none 0 0, .int .i64 0]) w := by kernel_rfl

section
variable {ops : Array Oper} {rest : List Oper} {o : Oper} {a : Act} {w : World} {Q : Exit → Act → World → Prop}
theorem wpList_storeHeld (hgd : o.guard = none) (x y : Operand) (ho : o.op = .store 79 x y) (b off : Nat) (u : Bool) (kv : Value) (n : Int) (hx : a.eval x = .pointer (some ⟨b, off, none⟩)) (hy : a.eval y = .agg #[.bool u, kv, .int .i64 n]) (h1 : kv.oneCell' = true) (ht : w.there b off 3)
    (hk : wpList Try.prog ops Q rest (a.put o.dst undef) (w.setCells b off [.bool u, kv, .int .i64 n])) : wpList Try.prog ops Q (o :: rest) a w :=
  wpList_store_mid hgd 79 x y ho b off #[.bool u, kv, .int .i64 n] hx hy ht (size_of' iHeld) (by rw [← Array.all_toList]; simp only [List.all_cons, List.all_nil, h1]; rfl) hk
end
theorem set3_other (w : World) (b o : Nat) (x y z : Value) {k : Nat} (hk : k ≠ b) : (w.setCells b o [x, y, z]).heap[k]? = w.heap[k]? := by
  show (((w.setCell _ _).setCell _ _).setCell _ _).heap[k]? = _
  rw [Below.heap_setCell _ _ _ _ hk, Below.heap_setCell _ _ _ _ hk, Below.heap_setCell _ _ _ _ hk]
theorem set3_keeps {S : List Nat} {w w' : World} (k : Keeps S w w') {b o : Nat} (x y z : Value) (hb : b ∈ S ∨ w.heap.size ≤ b) : Keeps S w (w'.setCells b o [x, y, z]) :=
  ((k.setCell hb _).setCell hb _).setCell hb _
theorem set3_three {w : World} {b : Nat} {x y z x' y' z' : Value} {T : TypeId} (hb : w.heap[b]? = some (.cells #[x, y, z] T (0, 0))) : (w.setCells b 0 [x', y', z']).heap[b]? = some (.cells #[x', y', z'] T (0, 0)) := by
  show (((w.setCell _ _).setCell _ _).setCell _ _).heap[b]? = _
  rw [heap_setCell_same _ _ _ _ _ _ (heap_setCell_same _ _ _ _ _ _ (heap_setCell_same _ _ _ _ _ _ hb))]
  rfl
theorem results_cellslot {fn : Func} {p q : Tmp} {t : TypeId} (h : fn.results = #[.cell p t, .tmp q]) (tmps : Array Value) (w : World) (a : Addr) (x y : Value) (hp : tmps.getD p undef = .pointer (some a)) (hq : tmps.getD q undef = y)
    (hx : (loadVar t a).run Try.prog w = .ok x w) : (results fn tmps).run Try.prog w = .ok (.tuple #[x, y]) w := by
  have hp' : tmps[p]?.getD undef = .pointer (some a) := by simpa using hp
  have hq' : tmps[q]?.getD undef = y := by simpa using hq
  simp [results, h, hp', hq', asAddr, hx, Result.andThen]
theorem loadHeld_var {w : World} {b : Nat} {x y z : Value} {T : TypeId} (hb : w.heap[b]? = some (.cells #[x, y, z] T (0, 0))) : (loadVar 79 ⟨b, 0, none⟩).run Try.prog w = .ok (.agg #[x, y, z]) w :=
  run_loadVar_mid w b 0 79 [x, y, z] _ (fun j u hu => by rw [Nat.zero_add, cell_of_row w b j _ _ (0, 0) hb]; simpa using hu) uHeld rfl (size_of' iHeld)

theorem REyePost.int {w : World} {B q : Nat} {st : Option Int × List Int × Int} {e : Ending} {w' : World} (h : REyePost w B q st (.int .i64 0) retInt e w') :
    e = .returned (.int .i64 (st.1.getD 0)) ∧ (∃ v2, REyeAt w' B q v2 st.2.1 st.2.2) ∧ Keeps [q] w w' := by
  obtain ⟨h1, h2, h3⟩ := h
  obtain ⟨o, r, b⟩ := st
  cases o with
  | none => exact ⟨h3, h1, h2⟩
  | some x => exact ⟨h3, h1, h2⟩
theorem REyePost.raw {w : World} {B q : Nat} {st : Option (List Int) × List Int × Int} {e : Ending} {w' : World} (h : REyePost w B q st (.slice none 0 0) (retNew w) e w') :
    ∃ kv, e = .returned kv ∧ RowAt w' kv (st.1.getD []) ∧ (∀ b, kv.ownBlock = some b → w.heap.size ≤ b) ∧ (∃ v2, REyeAt w' B q v2 st.2.1 st.2.2) ∧ Keeps [q] w w' := by
  obtain ⟨h1, h2, h3⟩ := h
  obtain ⟨o, r, b⟩ := st
  cases o with
  | none => exact ⟨_, h3, RowAt.nil _, (by intro b hb; cases hb), h1, h2⟩
  | some x =>
    obtain ⟨a, c, he, hr, hn⟩ := h3
    refine ⟨_, he, hr, ?_, h1, h2⟩
    intro b hb
    cases a with
    | none => cases hb
    | some ad => simp [Value.ownBlock] at hb; rw [← hb]; exact hn ad rfl

def eyS1 (zs : List Int) : Option Int × List Int × Int := after zs 0 (rdNum 1 zs)
def eyS2 (zs : List Int) : Option Int × List Int × Int := after (eyS1 zs).2.1 (eyS1 zs).2.2 (rdNum 2 (eyS1 zs).2.1)
def eyS3 (zs : List Int) : Option (List Int) × List Int × Int := after (eyS2 zs).2.1 (eyS2 zs).2.2 (rdCount 40 (eyS2 zs).2.1)

theorem after_stays {α : Type} (zs : List Int) (bad : Int) (r : Except Int (α × List Int)) (h : bad ≠ 0) : after zs bad r = (none, zs, bad) := by unfold after; rw [if_pos h]
theorem rdNum_err {n : Int} {zs : List Int} {why : Int} (h : rdNum n zs = .error why) : why ≠ 0 := by
  unfold rdNum at h
  split at h
  · injection h with h; omega
  · split at h
    · injection h with h; omega
    · cases h
theorem rdCount_err {n : Int} {zs : List Int} {why : Int} (h : rdCount n zs = .error why) : why ≠ 0 := by
  unfold rdCount at h
  split at h
  · injection h with h; omega
  · split at h
    · injection h with h; omega
    · split at h
      · injection h with h; omega
      · split at h
        · injection h with h; omega
        · cases h
theorem refHd_by (zs : List Int) (hz : allZ zs = false) :
    refHd zs = if (eyS3 zs).2.2 = 0 ∧ (eyS1 zs).1.getD 0 = 1 ∧ (eyS2 zs).1.getD 0 ≤ 448 ∧ allZ (eyS3 zs).2.1 = true then some ⟨true, ((eyS2 zs).1.getD 0).toNat, (eyS3 zs).1.getD []⟩ else none := by
  unfold refHd eyS3 eyS2 eyS1
  rw [hz]
  simp only [Bool.false_eq_true, if_false]
  cases h1 : rdNum 1 zs with
  | error y =>
    have e1 : after zs 0 (Except.error y : Except Int (Int × List Int)) = (none, zs, y) := by unfold after; simp
    have hy := rdNum_err h1
    simp only [e1]
    rw [after_stays _ _ _ hy]
    simp only
    rw [after_stays _ _ _ hy]
    simp only
    rw [if_neg (fun h => hy h.1)]
  | ok x =>
    obtain ⟨one, r⟩ := x
    have e1 : after zs 0 (Except.ok (one, r) : Except Int (Int × List Int)) = (some one, r, 0) := by unfold after; simp
    simp only [e1]
    cases h2 : rdNum 2 r with
    | error y =>
      have e2 : after r 0 (Except.error y : Except Int (Int × List Int)) = (none, r, y) := by unfold after; simp
      have hy := rdNum_err h2
      simp only [e2]
      rw [after_stays _ _ _ hy]
      simp only
      rw [if_neg (fun h => hy h.1)]
    | ok x =>
      obtain ⟨n, r2⟩ := x
      have e2 : after r 0 (Except.ok (n, r2) : Except Int (Int × List Int)) = (some n, r2, 0) := by unfold after; simp
      simp only [e2]
      cases h3 : rdCount 40 r2 with
      | error y =>
        have e3 : after r2 0 (Except.error y : Except Int (List Int × List Int)) = (none, r2, y) := by unfold after; simp
        have hy := rdCount_err h3
        simp only [e3]
        rw [if_neg (fun h => hy h.1)]
      | ok x =>
        obtain ⟨k, r3⟩ := x
        have e3 : after r2 0 (Except.ok (k, r3) : Except Int (List Int × List Int)) = (some k, r3, 0) := by unfold after; simp
        simp only [e3, Option.getD_some]
        by_cases hc : one = 1 ∧ n ≤ 448 ∧ allZ r3 = true
        · rw [if_pos hc, if_pos ⟨trivial, hc⟩]
        · rw [if_neg hc, if_neg (fun h => hc h.2)]
theorem after_num (n : Int) (zs : List Int) (bad : Int) (hb : ∀ z ∈ zs, 0 ≤ z ∧ z ≤ 255) : 0 ≤ (after zs bad (rdNum n zs)).1.getD 0 ∧ ∀ z ∈ (after zs bad (rdNum n zs)).2.1, z ∈ zs := by
  unfold after rdNum
  split
  · exact ⟨Int.le_refl _, fun z h => h⟩
  · split
    · rename_i h
      split at h
      · exact ⟨Int.le_refl _, fun z h => h⟩
      · split at h
        · exact ⟨Int.le_refl _, fun z h => h⟩
        · cases h
    · rename_i h
      split at h
      · cases h
      · split at h
        · cases h
        · injection h with h
          injection h with h1 h2
          subst h1; subst h2
          exact ⟨(val_bound _ _ rfl (fun z hz => hb z (List.mem_of_mem_take hz))).1, fun z hz => List.mem_of_mem_drop hz⟩
theorem eyS2_nn (zs : List Int) (hb : ∀ z ∈ zs, 0 ≤ z ∧ z ≤ 255) : 0 ≤ (eyS2 zs).1.getD 0 :=
  (after_num 2 _ _ (fun z hz => hb z ((after_num 1 zs 0 hb).2 z hz))).1

set_option maxHeartbeats 4000000 in
theorem rread_any5 (w : World) (v : Value) (zs : List Int) (h : RowAt w v zs) (hl : zs.length = 64) :
    Calls Try.prog 30 #[v] w (RhPost w (hdOf zs)) := by
  rw [← refHd_is zs (by rintro rfl; simp at hl) h.bytes]
  have HR := hid h
  have HLN := hid hl
  obtain ⟨a, cap, rfl, z⟩ := id h
  clear z h hl
  have kA := (Keeps.refl [] w).alloc (.cells #[.bool false, .slice none 0 0, .int .i64 0] 79)
  have qA := heap_alloc_new w (.cells #[.bool false, .slice none 0 0, .int .i64 0] 79)
  have NO := hid (rnoughts_any _ _ zs (HR.out.keep kA (by intro _ _ _ _ _; simp)))
  go_enter Try.func30, Try.ntmps30
  go_wp2_with fail
  refine NO.out.mono ?_
  rintro e _ ⟨rfl, rfl⟩
  obtain ⟨c0, c1, c2⟩ := block_cells3 qA
  clear NO
  have KA := hid kA
  have QA := hid qA
  clear kA
  generalize w.alloc (.cells #[.bool false, .slice none 0 0, .int .i64 0] 79) = wa at QA KA c0 c1 c2 ⊢
  clear qA
  have th := there_of QA.out 0 3 (by simp)
  cases hz : allZ zs with
  | true =>
    go_wp2_with (first | (refine wpList_storeHeld rfl _ _ rfl w.heap.size 0 false (.slice none 0 0) 0 rfl rfl rfl th ?_) | fail)
    refine bodyPost_ret (results_cellslot rfl _ _ ⟨w.heap.size, 0, none⟩ _ (.bool true) rfl rfl (loadHeld_var (set3_three QA.out))) rfl ?_
    have e : refHd zs = some hd0 := by unfold refHd; rw [hz]; rfl
    rw [e]
    exact ⟨.slice none 0 0, rfl, RowAt.nil _, (by intro b hb; cases hb), set3_keeps KA.out _ _ _ (.inr (Nat.le_refl _))⟩
  | false =>
    have RB := hid (refHd_by zs hz)
    have hrw := HR.out.keep KA.out (by intro _ _ _ _ _; simp)
    have kB := (Keeps.refl [] wa).alloc (.cells #[.slice a zs.length cap, .int .i64 0] 100)
    have EY : Hid (REyeAt (wa.alloc (.cells #[.slice a zs.length cap, .int .i64 0] 100)) w.heap.size wa.heap.size (.slice a zs.length cap) zs 0) := hid
      ⟨heap_alloc_new _ _, hrw.keep kB (by intro _ _ _ _ _; simp), fun S hS ad n c e hne hm => by
        have := row_blk HR.out e hne
        have := hS _ hm
        omega, KA.out.size, by rw [HLN.out]; omega⟩
    have KB := hid (KA.out.trans kB)
    have QB := hid ((kB.block _ (lt_of_block QA.out) (by simp)).trans QA.out)
    have LQ := hid (lt_of_block QA.out)
    clear hrw kB c0 c1 c2 th KA QA hz
    go_wp2_with fail
    generalize wa.alloc (.cells #[.slice a zs.length cap, .int .i64 0] 100) = w1 at EY KB QB ⊢
    generalize wa.heap.size = q at EY LQ ⊢
    refine (renum_any w1 w.heap.size q _ zs 0 1 EY.out).mono ?_
    intro e w2 hp
    obtain ⟨rfl, ⟨v2, E2⟩, k2⟩ := REyePost.int (st := eyS1 zs) hp
    clear hp
    have K2 := hid (KB.out.trans' k2 (fun i hi hm => by simp at hm; have := LQ.out; omega))
    have QB2 := hid ((k2.block _ (lt_of_block QB.out) (by have := LQ.out; simp; omega)).trans QB.out)
    have EY2 := hid E2
    clear E2 k2 EY KB QB
    go_wp2_with fail
    refine (renum_any w2 w.heap.size q _ _ _ 2 EY2.out).mono ?_
    intro e w3 hp
    obtain ⟨rfl, ⟨v3, E3⟩, k3⟩ := REyePost.int (st := eyS2 zs) hp
    clear hp
    have K3 := hid (K2.out.trans' k3 (fun i hi hm => by simp at hm; have := LQ.out; omega))
    have QB3 := hid ((k3.block _ (lt_of_block QB2.out) (by have := LQ.out; simp; omega)).trans QB2.out)
    have EY3 := hid E3
    clear E3 k3 EY2 K2 QB2
    go_wp2_with fail
    refine (reraw_any w3 w.heap.size q _ _ _ 40 EY3.out).mono ?_
    intro e w4 hp
    obtain ⟨kv, rfl, RK, NK, ⟨v4, E4⟩, k4⟩ := REyePost.raw (st := eyS3 zs) hp
    obtain ⟨ka, kc, ekv, -⟩ := id RK
    subst ekv
    generalize hky : (eyS3 zs).1.getD [] = ky at *
    clear hp
    have K4 := hid (K3.out.trans' k4 (fun i hi hm => by simp at hm; have := LQ.out; omega))
    have QB4 := hid ((k4.block _ (lt_of_block QB3.out) (by have := LQ.out; simp; omega)).trans QB3.out)
    have hz3 := K3.out.size
    have NKV : Hid (∀ b, (Value.slice ka ky.length kc).ownBlock = some b → w.heap.size < b) := hid (fun b hb => by have := NK b hb; have := lt_of_block QB3.out; omega)
    have EY4 := hid E4
    have RKV := hid RK
    have NN := hid (eyS2_nn zs HR.out.bytes)
    have NO := hid (rnoughts_any w4 v4 _ EY4.out.row)
    clear E4 k4 EY3 K3 QB3 NK RK hz3
    have c0 := EY4.out.cell0
    have c1 := EY4.out.cell1
    have th := there_of QB4.out 0 3 (by simp)
    generalize hx1 : (eyS1 zs).1.getD 0 = x1 at *
    generalize hx2 : (eyS2 zs).1.getD 0 = x2 at *
    have ONE : Hid ((Value.slice ka ky.length kc).oneCell' = true) := hid rfl
    have FAIL : Hid (¬ ((eyS3 zs).2.2 = 0 ∧ x1 = 1 ∧ x2 ≤ 448 ∧ allZ (eyS3 zs).2.1 = true) → RhPost w (refHd zs) (.returned (.tuple #[.agg #[.bool false, .slice none 0 0, .int .i64 0], .bool false])) (w4.setCells w.heap.size 0 [.bool false, .slice none 0 0, .int .i64 0])) := hid (fun hno => by
      rw [RB.out, if_neg hno]
      exact ⟨.slice none 0 0, rfl, RowAt.nil _, (by intro b hb; cases hb), set3_keeps K4.out _ _ _ (.inr (Nat.le_refl _))⟩)
    generalize hbad : (eyS3 zs).2.2 = bad at *
    by_cases hb : bad = 0
    · by_cases h1 : x1 = 1
      · by_cases h2 : x2 ≤ 448
        · cases hA : allZ (eyS3 zs).2.1 with
          | true =>
            have HA := hid hA
            have hx0 : ((x2.toNat : Nat) : Int) = x2 := by have := NN.out; omega
            clear hA
            go_wp2_with (first | (refine wpList_storeHeld rfl _ _ rfl w.heap.size 0 true (.slice ka ky.length kc) x2 rfl rfl ONE.out th ?_) | (go_at_call 52; refine NO.out.mono ?_; rintro e _ ⟨rfl, rfl⟩; rw [HA.out]) | fail)
            refine bodyPost_ret (results_cellslot rfl _ _ ⟨w.heap.size, 0, none⟩ _ (.bool true) rfl rfl (loadHeld_var (set3_three QB4.out))) rfl ?_
            rw [RB.out, if_pos ⟨hb, h1, h2, HA.out⟩]
            refine ⟨.slice ka ky.length kc, ?_, ?_, (fun b hb => Nat.le_of_lt (NKV.out b hb)), set3_keeps K4.out _ _ _ (.inr (Nat.le_refl _))⟩
            · simp only [Option.getD_some, Option.isSome_some]
              rw [hx0]
            · refine RKV.out.keep (S := [w.heap.size]) (set3_keeps (Keeps.refl _ _) _ _ _ (.inl (by simp))) ?_
              intro ad n c e _ hm
              have := NKV.out ad.block (by rw [e]; rfl)
              simp at hm
              omega
          | false =>
            have HA := hid hA
            clear hA
            go_wp2_with (first | (refine wpList_storeHeld rfl _ _ rfl w.heap.size 0 false (.slice none 0 0) 0 rfl rfl rfl th ?_) | (go_at_call 52; refine NO.out.mono ?_; rintro e _ ⟨rfl, rfl⟩; rw [HA.out]) | fail)
            refine bodyPost_ret (results_cellslot rfl _ _ ⟨w.heap.size, 0, none⟩ _ (.bool false) rfl rfl (loadHeld_var (set3_three QB4.out))) rfl ?_
            exact FAIL.out (fun h => by rw [HA.out] at h; exact absurd h.2.2.2 (by decide))
        · have HA : Hid (allZ (eyS3 zs).2.1 = allZ (eyS3 zs).2.1) := hid rfl
          go_wp2_with (first | (refine wpList_storeHeld rfl _ _ rfl w.heap.size 0 false (.slice none 0 0) 0 rfl rfl rfl th ?_) | (go_at_call 52; refine NO.out.mono ?_; rintro e _ ⟨rfl, rfl⟩; rw [HA.out]) | fail)
          refine bodyPost_ret (results_cellslot rfl _ _ ⟨w.heap.size, 0, none⟩ _ (.bool false) rfl rfl (loadHeld_var (set3_three QB4.out))) rfl ?_
          exact FAIL.out (fun h => absurd h.2.2.1 (by omega))
      · have h1' : (x1 != 1) = true := by simpa using h1
        have HA : Hid (allZ (eyS3 zs).2.1 = allZ (eyS3 zs).2.1) := hid rfl
        go_wp2_with (first | (refine wpList_storeHeld rfl _ _ rfl w.heap.size 0 false (.slice none 0 0) 0 rfl rfl rfl th ?_) | (go_at_call 52; refine NO.out.mono ?_; rintro e _ ⟨rfl, rfl⟩; rw [HA.out]) | fail)
        refine bodyPost_ret (results_cellslot rfl _ _ ⟨w.heap.size, 0, none⟩ _ (.bool false) rfl rfl (loadHeld_var (set3_three QB4.out))) rfl ?_
        exact FAIL.out (fun h => h1 h.2.1)
    · have hb' : (bad != 0) = true := by simpa using hb
      have HA : Hid (allZ (eyS3 zs).2.1 = allZ (eyS3 zs).2.1) := hid rfl
      go_wp2_with (first | (refine wpList_storeHeld rfl _ _ rfl w.heap.size 0 false (.slice none 0 0) 0 rfl rfl rfl th ?_) | (go_at_call 52; refine NO.out.mono ?_; rintro e _ ⟨rfl, rfl⟩; rw [HA.out]) | fail)
      refine bodyPost_ret (results_cellslot rfl _ _ ⟨w.heap.size, 0, none⟩ _ (.bool false) rfl rfl (loadHeld_var (set3_three QB4.out))) rfl ?_
      exact FAIL.out (fun h => hb h.1)

end Go.Proofs.Ytiljhjegfklgmaa
