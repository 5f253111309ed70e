/- bag: the walks of slices.Clone, of Drop's function, of slices.IndexFunc. -/
import Derived.Test.YtkfebgbgnpdgpaaBgI
namespace Go.Proofs.Ytkfebgbgnpdgpaa
open Go.RowKit Go.Shelf
set_option maxRecDepth 100000

/-- A row of none in new memory. -/
theorem exec_noMg {E T : TypeId} (mt : MT E T) {ρ : Operand → Value} {o : Oper} {w : World} (ho : o.op = .buildSlice T 0 #[]) :
    (execOp ρ o).run Try.prog w = .ok (.value (.slice (some ⟨w.heap.size, 0, none⟩) 0 0)) (w.alloc (.cells #[] E)) := by
  obtain ⟨ie, hie, hz, hs, _⟩ := info_parts mt.inf
  have h : (Instr.buildSlice T 0 #[]).run Try.prog w = .ok (.slice (some ⟨w.heap.size, 0, none⟩) 0 0) (w.alloc (.cells #[] E)) := by
    have e0 : Array.range 0 = #[] := rfl
    simp [Instr.buildSlice, run_underlying mt.und, sizeOf, typeInfo, hie, Instr.fill, newRow, Result.andThen, e0]
  simp only [execOp, ho, List.map_toArray, List.map_nil, Sem.run_bind, h, Result.andThen_ok, Sem.run_pure]

theorem own_none (E : TypeId) (w : World) : Own E (w.alloc (.cells #[] E)) w.heap.size [] (.slice (some ⟨w.heap.size, 0, none⟩) 0 0) [] :=
  ⟨⟨by simp [mcells], .inr ⟨w.heap.size, 0, #[], rfl, Nat.le_refl _, heap_alloc_new _ _, by simp, by simp, by simp, by simp [mcells]⟩⟩, by simp, by simp, by simp⟩

set_option maxHeartbeats 1600000 in
theorem bClone_any (w : World) (X : List Nat) (hX : ∀ k ∈ X, k < w.heap.size) (a : Option Addr) (n c : Nat) (ms : List Mg) (h : MsgsAt w X (.slice a n c) ms) (hl : ms.length ≤ 1000) :
    Calls Try.prog 40 #[.slice a n c] w (RowPost7 w X ms) := by
  obtain ⟨a', c', hv, h1, h2, h3, h4, h5⟩ := id h
  injection hv with e1 e2 e3
  subst e1; subst e2; subst e3
  have HH := hid h
  have HX := hid hX
  cases a with
  | none =>
    obtain rfl := h3 rfl
    obtain rfl : ms = [] := List.eq_nil_of_length_eq_zero (by omega)
    clear h h4 h5 h3 hX
    simp only [List.length_nil]
    have hcmp := fun (W : World) => Lib.run_eql_slice_nil (P := Try.prog) W 39 33 none 0 0 0 0 Try.underlying39
    go_enter Try.func40, Try.ntmps40
    go_wp2_with fail
    go_ret
    exact ⟨none, 0, rfl, (Own.nil _ _ _).wide X HX.out (Nat.le_refl _), Keeps.refl _ _⟩
  | some ad =>
    have k1 := (Keeps.refl [] w).alloc (.cells #[] 33)
    have o1 := (own_none 33 w).wide X hX k1.size
    obtain ⟨a2, c2, w2, hr, ho, hk, hn⟩ := append_msgs mtB o1 (some ad) ms.length c (h.keep k1) (by simpa using (by omega : ms.length ≤ 100000)) k1.size 39
    simp only [List.length_nil, Nat.zero_add, List.nil_append] at hr ho
    have HR := hid hr
    have HO := hid ho
    have HK : Hid (Keeps [] w w2) := hid (k1.trans' hk (fun i hi hm => by
      have := o1.blk i (by simpa using hm)
      omega))
    clear h h4 h5 h3 hX k1 o1 hr ho hk hn
    have hcmp := fun (W : World) => Lib.run_eql_slice_nil (P := Try.prog) W 39 33 (some ad) ms.length c 0 0 Try.underlying39
    go_enter Try.func40, Try.ntmps40
    go_wp2_with (first | (refine wpList_is rfl _ _ (exec_noMg mtB rfl) ?_) | (at_builtin; refine wpList_is rfl _ _ (exec_appendT 39 _ _ rfl rfl rfl HR.out) ?_) | fail)
    go_ret
    exact ⟨a2, c2, rfl, HO.out, HK.out⟩

/-- The value of Drop's function. -/
def dropV (c : Nat) : Value := .func (.func 41) #[] #[.pointer (some ⟨c, 0, none⟩)]

set_option maxHeartbeats 1600000 in
theorem bDropF_any (w : World) (x y : Int) (a : Option Addr) (n c : Nat) (cb : Nat) (to : Int) (hc : w.cell? ⟨cb, 0, none⟩ = some (.int .i64 to)) :
    Calls Try.prog 41 #[.agg #[.int .i64 x, .int .i64 y, .slice a n c], .pointer (some ⟨cb, 0, none⟩)] w fun e w' => e = .returned (.bool (y == to)) ∧ Keeps [] w w' := by
  have ka := (Keeps.refl [] w).alloc (.cells #[.int .i64 x, .int .i64 y, .slice a n c] 33)
  have KA := hid ka
  have cc := ka.cell' hc (by simp)
  have b1 := heap_alloc_new w (.cells #[.int .i64 x, .int .i64 y, .slice a n c] 33)
  obtain ⟨e0, e1, e2, _⟩ := row_block3 b1
  clear hc ka b1
  go_enter Try.func41, Try.ntmps41
  go_wp2_with fail
  go_ret
  exact ⟨rfl, KA.out⟩

def IdxPost (w : World) (ms : List Mg) (to : Int) (e : Ending) (w' : World) : Prop :=
  Keeps [] w w' ∧ ((∃ k, ∃ h : k < ms.length, e = .returned (.int .i64 k) ∧ ms[k].t = to ∧ ∀ m ∈ ms.take k, m.t ≠ to) ∨ (e = .returned (.int .i64 (-1)) ∧ ∀ m ∈ ms, m.t ≠ to))

set_option maxHeartbeats 3200000 in
theorem bIdxF_any (w : World) (X : List Nat) (v : Value) (ms : List Mg) (h : MsgsAt w X v ms) (hl : ms.length ≤ 1000) (cb : Nat) (to : Int) (hc : w.cell? ⟨cb, 0, none⟩ = some (.int .i64 to)) :
    Calls Try.prog 51 #[v, dropV cb] w (IdxPost w ms to) := by
  obtain ⟨a, c, rfl, h1, h2, h3, h4, h5⟩ := id h
  have HH := hid h
  have HC := hid hc
  clear h h3 h4 h5 hc
  unfold dropV
  go_enter Try.func51, Try.ntmps51
  go_wp2_with fail
  go_loopw [8] (fun i wr => ∃ k : Nat, k ≤ ms.length ∧ i = .int .i64 k ∧ Keeps [] w wr ∧ ∀ m ∈ ms.take k, m.t ≠ to) (fun i _ => ms.length - (intOf i).toNat)
  case atStart => exact ⟨0, by omega, rfl, Keeps.refl _ _, by simp⟩
  case round =>
    obtain ⟨k, hk, rfl, kk, hno⟩ := hrel
    have KK := hid kk
    have HNO := hid hno
    clear hno
    by_cases hlt : k < ms.length
    · obtain ⟨g, off, ha, _, gl, d0, d1, d2⟩ := (HH.out.keep kk).at k hlt
      subst ha
      obtain ⟨ra, rc, hrow, _⟩ := (HH.out.ok ms[k] (List.getElem_mem _)).row
      rw [hrow] at d2
      have hcc := kk.cell' HC.out (by simp)
      have HCC := hid hcc
      have hT := List.take_succ_eq_append_getElem hlt
      have HT := hid hT
      clear kk hrow gl hcc hT
      go_wp2_with fail
      refine (bDropF_any wr _ _ _ _ _ cb to HCC.out).mono ?_
      rintro e w1 ⟨rfl, k1⟩
      have K1 := hid (KK.out.trans k1)
      clear k1 d0 d1 d2
      by_cases ht : ms[k].t = to
      · have hb : (ms[k].t == to) = true := by simpa using ht
        rw [hb]
        go_wp2_with fail
        go_ret
        exact ⟨K1.out, Or.inl ⟨k, hlt, rfl, ht, HNO.out⟩⟩
      · have hb : (ms[k].t == to) = false := by simpa using ht
        rw [hb]
        have HTN := hid ht
        clear ht hb
        go_wp2_with fail
        go_roundw
        case rel =>
          refine ⟨k + 1, by omega, by go_num, K1.out, fun m hm => ?_⟩
          rw [HT.out] at hm
          rcases List.mem_append.1 hm with hm | hm
          · exact HNO.out m hm
          · obtain rfl : m = ms[k] := by simpa using hm
            exact HTN.out
        case measure => simp [intOf]; omega
    · obtain rfl : k = ms.length := by omega
      clear kk hlt
      go_wp2_with fail
      go_ret
      exact ⟨KK.out, Or.inr ⟨rfl, fun m hm => HNO.out m (by rw [List.take_length]; exact hm)⟩⟩
end Go.Proofs.Ytkfebgbgnpdgpaa
