/- The reference's eye in a later world (for every layer). -/
import Derived.Test.YtoglcohdanpciaaEyeL
import Derived.Test.YtoglcohdanpciaaRefF
namespace Go.Proofs.Ytoglcohdanpciaa
open Go.RowKit
set_option maxRecDepth 100000
set_option linter.unusedSimpArgs false

def REyL (w : World) (B p : Nat) (st : PSt) : Prop := ∃ v2, REyeAt w B p v2 st.1 st.2
theorem REyL.num {wr : World} {B p : Nat} {st : PSt} (h : REyL wr B p st) (n : Int) :
    Calls Try.prog 68 #[.pointer (some ⟨p, 0, none⟩), .int .i64 n] wr fun e w' => e = .returned (.int .i64 (numE n st).1) ∧ REyL w' B p (numE n st).2 ∧ Keeps [p] wr w' := by
  obtain ⟨v2, he⟩ := h
  exact (renum_any wr B p v2 st.1 st.2 n he).mono fun e w' ⟨h1, k, m⟩ => by
    refine ⟨?_, h1, k⟩
    unfold numE
    cases hr : (after st.1 st.2 (rdNum n st.1)).1 with
    | none => rw [hr] at m; exact m
    | some x => rw [hr] at m; exact m
theorem REyL.later {wr w' : World} {B p g : Nat} {st : PSt} (h : REyL wr B p st) (k : Keeps [g] wr w') (hg : B ≤ g) (hp : p ≠ g) : REyL w' B p st := by
  obtain ⟨v2, he⟩ := h
  exact ⟨v2, he.keep k (by simpa using hp) (by simpa using hg)⟩
theorem REyL.more {wr w' : World} {B p : Nat} {st : PSt} (h : REyL wr B p st) (k : Keeps [] wr w') : REyL w' B p st := by
  obtain ⟨v2, he⟩ := h
  exact ⟨v2, he.keep k (by simp) (by simp)⟩
theorem REyL.lt {wr : World} {B p : Nat} {st : PSt} (h : REyL wr B p st) : p < wr.heap.size := by
  obtain ⟨v2, he⟩ := h
  exact lt_of_block he.blk
theorem REyL.cells {wr : World} {B p : Nat} {st : PSt} (h : REyL wr B p st) : wr.cell? ⟨p, 1, none⟩ = some (.int .i64 st.2) ∧ wr.frozen? ⟨p, 1, none⟩ = false := by
  obtain ⟨v2, he⟩ := h
  exact ⟨he.cell1, he.free1⟩
theorem reye_newB {w0 w : World} {u : Value} {zs : List Int} (k0 : Keeps [] w0 w) (h : RowAt w0 u zs) (hl : zs.length ≤ 35184372088832) : REyL (w.alloc (.cells #[u, .int .i64 0] 125)) w0.heap.size w.heap.size (zs, 0) := by
  have k := (k0).alloc (.cells #[u, .int .i64 0] 125)
  refine ⟨u, heap_alloc_new w _, h.keep k (by intro _ _ _ _ _; simp), fun S hS ad n c e hne hm => ?_, k0.size, hl⟩
  have hpos : 0 < zs.length := List.length_pos_iff.2 hne
  obtain ⟨g2, off, cap, rfl, _, hc⟩ := h.open hpos
  injection e with e1 _ _
  obtain rfl := Option.some.inj e1
  have h1 := World.block_lt_of_cell? _ _ (hc 0 hpos)
  have h2 := hS _ hm
  simp only at h1 h2
  omega
end Go.Proofs.Ytoglcohdanpciaa
