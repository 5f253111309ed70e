/- blocks: slices.Clone, slices.Contains, slices.IndexFunc over pointers. -/
import Derived.Test.YtamcllcjondcpaaBkD
import Derived.Test.YtamcllcjondcpaaShelfBk
namespace Go.Proofs.Ytamcllcjondcpaa
open Go.RowKit Go.Shelf
set_option maxRecDepth 100000
set_option linter.unusedSimpArgs false

theorem Keeps.ofBelow {w w' : World} (h : Below w.heap.size w w') : Keeps [] w w' := ⟨h.os, h.tape, h.output, h.size, fun k hk _ => h.block k hk⟩
/-- slices.Clone. -/
theorem zClone0_any (w : World) (M : List Nat) (hM : ∀ b ∈ M, b < w.heap.size) (v : Value) (ps : List Pt) (h : PtsAt w M v ps) (hl : ps.length ≤ 1000) :
    Calls Try.prog 80 #[v] w fun e w' => ∃ a c, e = .returned (.slice a ps.length c) ∧ OwnP w' w.heap.size M (.slice a ps.length c) ps ∧ Keeps [] w w' := by
  obtain ⟨i, hi, hz, hz5, hz40⟩ := info_parts iPtr
  rcases h.two with ⟨rfl, rfl⟩ | ⟨g, off, cap, rfl, h1, h2, hg, hgM, hc⟩
  · refine (AnyE.slices_Clone_nil Try.cloneP _ _ w).mono ?_
    rintro e w' ⟨rfl, rfl⟩
    exact ⟨none, 0, rfl, OwnP.nil _ _ _ hM, Keeps.refl _ _⟩
  · refine (AnyE.slices_Clone Try.cloneP i _ 5 40 hi hz hz5 hz40 rfl (by omega) (fun w => size_ptr w) g off ps.length cap (pcells ps) w (pcells_length ps) (by unfold maxLen; omega) (by omega) (fun j u hu => hc j u hu) (pcells_one ps)).mono ?_
    rintro e w' ⟨v', rfl, ho, hn, hb⟩
    have O : OwnP w' w.heap.size M v' ps := ⟨ho, hM⟩
    obtain ⟨a', c', rfl⟩ := O.shape
    exact ⟨a', c', rfl, O, Keeps.ofBelow hb⟩

def hasP (l : List Pt) (x : Pt) : Bool := l.any fun y => eqP x y
theorem hasP_is {l : List Pt} {x : Pt} : hasP l x = true ↔ x ∈ l := by
  unfold hasP
  rw [List.any_eq_true]
  constructor
  · rintro ⟨y, hy, he⟩; rw [eqP_is.1 he]; exact hy
  · intro h; exact ⟨x, h, eqP_is.2 rfl⟩
theorem zIndexNil_any (w : World) (x : Pt) : Calls Try.prog 93 #[.slice none 0 0, ptV x] w fun e w' => e = .returned (.int .i64 (-1)) ∧ Keeps [] w w' := by
  go_enter Try.func93, Try.ntmps93
  go_wp2_with (first | (refine wpList_boxPt rfl _ rfl x rfl ?_) | fail)
  go_loopw [5, 8] (fun _ s wr => s = .int .i64 0 ∧ wr = w.alloc (.cells x.cells.toArray 47)) (fun _ _ _ => 0)
  case atStart => exact ⟨rfl, rfl⟩
  case round =>
    obtain ⟨rfl, rfl⟩ := hrel
    go_wp2_with fail
    go_ret
    exact ⟨rfl, (Keeps.refl [] w).alloc _⟩
theorem zContains_any (w : World) (M : List Nat) (v : Value) (ps : List Pt) (h : PtsAt w M v ps) (hl : ps.length ≤ 100000) (x : Pt) :
    Calls Try.prog 82 #[v, ptV x] w fun e w' => e = .returned (.bool (hasP ps x)) ∧ Keeps [] w w' := by
  rcases h.two with ⟨rfl, rfl⟩ | ⟨g, off, cap, rfl, h1, h2, hg, hgM, hc⟩
  · have HR := hid (range_new w x.cells 47)
    have K := hid ((Keeps.refl [] w).alloc (.cells x.cells.toArray 47))
    have N := hid (fun W => zIndexNil_any W x)
    clear h hl
    go_enter Try.func82, Try.ntmps82
    go_wp2_with (first | (refine wpList_boxPt rfl _ rfl x rfl ?_) | (refine wpList_loadPt rfl _ rfl w.heap.size 0 rfl x HR.out ?_) | fail)
    refine (N.out _).mono ?_
    rintro e w2 ⟨rfl, k2⟩
    have K2 := hid (K.out.trans k2)
    clear k2
    go_wp2_with fail
    go_ret
    exact ⟨rfl, K2.out⟩
  · refine (AnyQ.slices_Contains Try.contP 5 (fun w => Try.isAgg47 w) (fun w => size_ptr w) Pt.cells (fun _ => rfl) eqP eqlAtPt g off ps.length cap ps x w (Nat.le_refl _) (by omega) (fun j hj i u hu => ?_)).mono ?_
    · rw [getElem!_pos ps j hj] at hu
      have := range_pt hc j hj i u hu
      exact this
    · rintro e w' ⟨rfl, hb⟩
      rw [List.take_length]
      exact ⟨rfl, Keeps.ofBelow hb⟩

theorem zIdxNil_any (w : World) (f : Value) : Calls Try.prog 92 #[.slice none 0 0, f] w fun e w' => e = .returned (.int .i64 (-1)) ∧ w = w' := by
  go_enter Try.func92, Try.ntmps92
  go_wp2_with fail
  go_loopw [5, 8] (fun _ s wr => s = .int .i64 0 ∧ wr = w) (fun _ _ _ => 0)
  case atStart => exact ⟨rfl, rfl⟩
  case round =>
    obtain ⟨rfl, rfl⟩ := hrel
    go_wp2_with fail
    go_ret
    exact ⟨rfl, rfl⟩
theorem first_zero : ∀ (ps : List Pt), (¬ ∀ x ∈ ps, zB x = false) → ∃ k, ∃ hk : k < ps.length, zB ps[k] = true ∧ ∀ j (hj : j < ps.length), j < k → zB ps[j] = false
  | [], h => absurd (by simp) h
  | y :: r, h => by
    cases hy : zB y with
    | true => exact ⟨0, by simp, hy, fun j _ hj => absurd hj (Nat.not_lt_zero _)⟩
    | false =>
      obtain ⟨k, hk, hz, hno⟩ := first_zero r (fun hr => h (fun x hx => by
        rcases List.mem_cons.1 hx with rfl | hx
        · exact hy
        · exact hr x hx))
      refine ⟨k + 1, by simpa using hk, by simpa using hz, fun j hj hjk => ?_⟩
      cases j with
      | zero => exact hy
      | succ j => simpa using hno j (by simpa using hj) (by omega)
/-- slices.IndexFunc by isZero: the first nought. -/
theorem zIdxF_any (w : World) (M : List Nat) (v : Value) (ps : List Pt) (h : PtsAt w M v ps) (hl : ps.length ≤ 100000) :
    Calls Try.prog 92 #[v, .func (.func 76) #[] #[]] w fun e w' => Keeps [] w w' ∧ ((∃ k, ∃ hk : k < ps.length, e = .returned (.int .i64 (k : Int)) ∧ zB ps[k] = true ∧ ∀ j (hj : j < ps.length), j < k → zB ps[j] = false) ∨ (e = .returned (.int .i64 (-1)) ∧ ∀ x ∈ ps, zB x = false)) := by
  rcases h.two with ⟨rfl, rfl⟩ | ⟨g, off, cap, rfl, h1, h2, hg, hgM, hc⟩
  · refine (zIdxNil_any w _).mono ?_
    rintro e w' ⟨rfl, rfl⟩
    exact ⟨Keeps.refl _ _, Or.inr ⟨rfl, by simp⟩⟩
  · refine (AnyQ.slices_IndexFunc Try.idxfP 5 (fun w => Try.isAgg47 w) (fun w => size_ptr w) Pt.cells (fun _ => rfl) zB 76 #[] (enters_of Try.func76 (by kernel_rfl) rfl) g off ps.length cap ps w (fun W x hb => ?_) (Nat.le_refl _) (by omega) hg (fun j hj i u hu => ?_)).mono ?_
    · refine (isZero_any W x).mono ?_
      rintro e w' ⟨rfl, k⟩
      exact ⟨rfl, hb.trans (k.below hb.size (by simp))⟩
    · rw [getElem!_pos ps j hj] at hu
      exact range_pt hc j hj i u hu
    · rintro e w' ⟨rfl, hb⟩
      rw [List.take_length]
      refine ⟨Keeps.ofBelow hb, ?_⟩
      by_cases hall : ∀ x ∈ ps, zB x = false
      · right
        refine ⟨?_, hall⟩
        have := Lib.idxBy_miss (fun _ y => zB y) ps ps.length (default : Pt) (fun j hj => by rw [getElem!_pos ps j hj]; exact hall _ (List.getElem_mem hj))
        rw [List.take_length] at this
        rw [this]
      · left
        obtain ⟨k, hk, hz, hno⟩ := first_zero ps hall
        refine ⟨k, hk, ?_, hz, hno⟩
        have := Lib.idxBy_hit (fun _ y => zB y) ps ps.length k (default : Pt) hk (Nat.le_refl _) (by rw [getElem!_pos ps k hk]; exact hz) (fun j hj => by rw [getElem!_pos ps j (by omega)]; exact hno j (by omega) hj)
        rw [List.take_length] at this
        rw [this]
end Go.Proofs.Ytamcllcjondcpaa
