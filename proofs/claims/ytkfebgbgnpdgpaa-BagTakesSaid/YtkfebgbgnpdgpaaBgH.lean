/- bag: slices.Grow of nothing, slices.Concat of two rows, slices.Clone, of messages. -/
import Derived.Test.YtkfebgbgnpdgpaaBgG
import Derived.Lib.AppendZerosOnto
import Derived.Lib.SliceRun
namespace Go.Proofs.Ytkfebgbgnpdgpaa
open Go.RowKit Go.Shelf
set_option maxRecDepth 100000

/-- A row of messages of the call's own, where it may write it. -/
def RowPost7 (w : World) (X : List Nat) (ms : List Mg) (e : Ending) (w' : World) : Prop :=
  ∃ a c, e = .returned (.slice a ms.length c) ∧ Own 33 w' w.heap.size X (.slice a ms.length c) ms ∧ Keeps [] w w'

theorem exec_append2 {P : Program} {ρ : Operand → Value} {o : Oper} {w w' : World} {v u z : Value} (t t2 : TypeId) (x y : Operand) (ho : o.op = .call { callee := .builtin .append, args := #[x, y], argTypes := #[t, t2] }) (hx : ρ x = u) (hy : ρ y = z) (h : (Builtin.append_ #[t, t2] o.type #[u, z]).run P w = .ok v w') : (execOp ρ o).run P w = .ok (.value v) w' := by
  simp [execOp, ho, resolve, invoke, builtin, hx, hy, h, Result.andThen]

/-- A row cut to its first n. -/
theorem slice_hi {E T : TypeId} (mt : MT E T) (a : Option Addr) (len cap n : Nat) (hn : n ≤ cap) (W : World) : (Instr.sliceAt T (.slice a len cap) none (some (.int .i64 (n : Int))) none).run Try.prog W = .ok (.slice a n cap) W := by
  rw [run_sliceAt_slice W T _ _ _ _ mt.elem', run_slice_h W T a len cap mt.elem' .i64 n (by omega) (by omega), mt.elem, mt.size]
  have ha : (if cap = 0 then a else a.map (·.add 0)) = a := by
    split
    · rfl
    · cases a <;> simp [addr_add0]
  simp [Result.andThen, sliced, ha]

theorem info_int7 : Try.prog.underlying 3 = some (.int .i64) := by kernel_rfl

set_option maxHeartbeats 1600000 in
theorem bGrow_any (w : World) (n : Nat) (hn : n ≤ 1000) : Calls Try.prog 50 #[.slice none 0 0, .int .i64 n] w (RowPost7 w [] []) := by
  obtain ⟨i3, hi3, hz3, hz33, hz340⟩ := info_parts mtB.inf
  by_cases h0 : n = 0
  · subst h0
    go_enter Try.func50, Try.ntmps50
    go_wp2_with fail
    go_ret
    exact ⟨none, 0, rfl, Own.nil _ _ _, Keeps.refl _ _⟩
  · have hrz := fun ty => Lib.run_append_grow_zeros (P := Try.prog) w 39 3 ty 33 i3 _ .i64 .i64 Try.underlying39 info_int7 hi3 hz3 none 0 0 [] (run_firstCells_none w.drew i3.size 0 0 0) n (by omega) (by omega) (by omega) (by omega) (by rw [hz340]; omega) (by rw [Nat.zero_add]; exact growslice_fits (by omega) (by rw [hz340]; omega))
    have HRZ := hid hrz
    have hge := grownCap_ge w n 0 33
    have hle := grownCap_le_maxLen w n 0 33 (by unfold maxLen; omega)
    clear hrz
    simp only [Nat.zero_add] at HRZ
    generalize grownCap w n 0 33 = G at hge hle HRZ
    have HGE := hid hge
    have HLE := hid hle
    clear hge hle
    go_enter Try.func50, Try.ntmps50
    have HS := hid (slice_hi mtB (some ⟨w.heap.size, 0, none⟩) n G 0 (by omega))
    have HS2 := hid (slice_hi mtB none 0 0 0 (by omega))
    go_wp2_with (first | (at_builtin; refine wpList_is rfl _ _ (exec_append2 _ _ _ _ rfl rfl rfl (HRZ.out _)) ?_) | (refine wpList_is rfl _ _ (exec_sliceR 39 _ _ _ _ rfl (HS.out _)) ?_) | (refine wpList_is rfl _ _ (exec_sliceR 39 _ _ _ _ rfl (HS2.out _)) ?_) | fail)
    go_ret
    refine ⟨_, _, rfl, ⟨⟨by simp [mcells], .inr ⟨w.heap.size, G, _, rfl, Nat.le_refl _, heap_alloc_new w.drew _, by simp, HLE.out, ?_, by simp [mcells]⟩⟩, by simp, by simp, by simp⟩, (Keeps.refl [] w).drew.alloc _⟩
    have := HGE.out
    simp only [Array.size_append, List.size_toArray, size_zeroCells]
    simp only [List.length_cons, List.length_nil]
    omega

theorem Own.wide {E : TypeId} {w : World} {B : Nat} {v : Value} {ms : List Mg} (h : Own E w B [] v ms) (X : List Nat) (hX : ∀ k ∈ X, k < B) (hB : B ≤ w.heap.size) : Own E w B X v ms := by
  refine ⟨h.row, fun m hm => (h.ok m hm).mono (by simp), fun k hk hm => ?_, fun k hk => ?_⟩
  · have := (h.blk k hk).1
    have := hX k hm
    omega
  · have := hX k hk
    omega

set_option maxHeartbeats 3200000 in
theorem bConcat_any (w : World) (X : List Nat) (hX : ∀ k ∈ X, k < w.heap.size) (rb : Nat) (a1 a2 : Option Addr) (c1 c2 : Nat) (es1 es2 : List Mg) (hb : w.heap[rb]? = some (.cells #[.slice a1 es1.length c1, .slice a2 es2.length c2] 39 (0, 0)))
    (h1 : MsgsAt w X (.slice a1 es1.length c1) es1) (h2 : MsgsAt w X (.slice a2 es2.length c2) es2) (l1 : es1.length ≤ 500) (l2 : es2.length ≤ 500) :
    Calls Try.prog 38 #[.slice (some ⟨rb, 0, none⟩) 2 2] w (RowPost7 w X (es1 ++ es2)) := by
  have H1 := hid h1
  have H2 := hid h2
  have HB := hid hb
  have HX := hid hX
  have d0 : w.cell? ⟨rb, 0, none⟩ = some (.slice a1 es1.length c1) := by simp [World.cell?, hb]
  have d1 : w.cell? ⟨rb, 1, none⟩ = some (.slice a2 es2.length c2) := by simp [World.cell?, hb]
  obtain ⟨n1, hn1⟩ : ∃ n, n = es1.length := ⟨_, rfl⟩
  obtain ⟨n2, hn2⟩ : ∃ n, n = es2.length := ⟨_, rfl⟩
  have N1 := hid hn1
  have N2 := hid hn2
  rw [← hn1] at d0 H1 HB l1
  rw [← hn2] at d1 H2 HB l2
  clear h1 h2 hb hX hn1 hn2
  go_enter Try.func38, Try.ntmps38
  go_wp2_with fail
  go_loop [3, 11] (fun s i => (i = .int .i64 0 ∧ s = .int .i64 0) ∨ (i = .int .i64 1 ∧ s = .int .i64 n1) ∨ (i = .int .i64 2 ∧ s = .int .i64 ((n1 + n2 : Nat) : Int))) (fun _ i => 2 - (intOf i).toNat)
  case atStart => exact Or.inl ⟨rfl, rfl⟩
  case round =>
    rcases hrel with ⟨rfl, rfl⟩ | ⟨rfl, rfl⟩ | ⟨rfl, rfl⟩
    · go_wp2_with fail
      go_round
      case rel => exact Or.inr (Or.inl ⟨rfl, by go_num⟩)
      case measure => simp [intOf]
    · go_wp2_with fail
      go_round
      case rel => exact Or.inr (Or.inr ⟨rfl, by go_num⟩)
      case measure => simp [intOf]
    · go_wp2_with fail
      refine (bGrow_any w (n1 + n2) (by omega)).mono ?_
      rintro e w1 ⟨a, c, rfl, o, k⟩
      have K1 := hid k
      have O1 := hid (o.wide X HX.out k.size)
      clear o k d0 d1
      go_wp2_with fail
      go_loopw [6, 27] (fun v i wr => Keeps [] w wr ∧ ((i = .int .i64 0 ∧ ∃ a c, v = .slice a 0 c ∧ Own 33 wr w.heap.size X (.slice a 0 c) []) ∨ (i = .int .i64 1 ∧ ∃ a c, v = .slice a n1 c ∧ Own 33 wr w.heap.size X (.slice a n1 c) es1) ∨ (i = .int .i64 2 ∧ ∃ a c, v = .slice a (n1 + n2) c ∧ Own 33 wr w.heap.size X (.slice a (n1 + n2) c) (es1 ++ es2)))) (fun _ i _ => 2 - (intOf i).toNat)
      case atStart => exact ⟨K1.out, Or.inl ⟨rfl, _, _, rfl, O1.out⟩⟩
      case round =>
        obtain ⟨kk, hrel⟩ := hrel
        have KK := hid kk
        have BB := hid ((kk.block _ (lt_of_block HB.out) (by simp)).trans HB.out)
        have d0 : wr.cell? ⟨rb, 0, none⟩ = some (.slice a1 n1 c1) := by simp [World.cell?, BB.out]
        have d1 : wr.cell? ⟨rb, 1, none⟩ = some (.slice a2 n2 c2) := by simp [World.cell?, BB.out]
        clear kk
        rcases hrel with ⟨rfl, a, c, rfl, o⟩ | ⟨rfl, a, c, rfl, o⟩ | ⟨rfl, a, c, rfl, o⟩
        · obtain ⟨a', c', w', hr, ho, hk, hn⟩ := append_msgs mtB o a1 n1 c1 (H1.out.keep KK.out) (by have := N1.out; simp; omega) KK.out.size 39
          simp only [List.length_nil, Nat.zero_add, List.nil_append] at hr ho
          have HR := hid hr
          have HO := hid ho
          have HK : Hid (Keeps [] w w') := hid (KK.out.trans' hk (fun i hi hm => by
            have := o.blk i (by simpa using hm)
            omega))
          clear o hr ho hk hn
          go_wp2_with (at_builtin; refine wpList_is rfl _ _ (exec_appendT 39 _ _ rfl rfl rfl HR.out) ?_)
          go_roundw
          case rel => exact ⟨HK.out, Or.inr (Or.inl ⟨rfl, _, _, rfl, HO.out⟩)⟩
          case measure => simp [intOf]
        · obtain ⟨a', c', w', hr, ho, hk, hn⟩ := append_msgs mtB o a2 n2 c2 (H2.out.keep KK.out) (by have := N1.out; have := N2.out; omega) KK.out.size 39
          rw [← N1.out] at hr ho
          have HR := hid hr
          have HO := hid ho
          have HK : Hid (Keeps [] w w') := hid (KK.out.trans' hk (fun i hi hm => by
            have := o.blk i (by simpa using hm)
            omega))
          clear o hr ho hk hn
          go_wp2_with (at_builtin; refine wpList_is rfl _ _ (exec_appendT 39 _ _ rfl rfl rfl HR.out) ?_)
          go_roundw
          case rel => exact ⟨HK.out, Or.inr (Or.inr ⟨rfl, _, _, rfl, HO.out⟩)⟩
          case measure => simp [intOf]
        · have HO := hid o
          clear o
          go_wp2_with fail
          go_ret
          have hl : (es1 ++ es2).length = n1 + n2 := by rw [List.length_append, N1.out, N2.out]
          exact ⟨a, c, by rw [hl]; rfl, by rw [hl]; exact HO.out, KK.out⟩
end Go.Proofs.Ytkfebgbgnpdgpaa
