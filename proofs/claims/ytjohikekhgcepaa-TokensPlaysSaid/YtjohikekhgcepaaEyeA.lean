/- Walks of the eye: take, number. -/
import Derived.Test.YtjohikekhgcepaaPenC
namespace Go.Proofs.Ytjohikekhgcepaa
open Go.RowKit

/-- An eye (of wire): its three cells; its row is to be read. -/
structure EyeAt (w : World) (B : Nat) (p : Nat) (v : Value) (zs : List Int) (bad : Int) : Prop where
  blk : w.heap[p]? = some (.cells #[v, .int .i64 bad, .bool true] 155 (0, 0))
  row : RowAt w v zs
  off : Off [p] v zs
  lo : B ≤ p
  fits : zs.length ≤ 35184372088832

theorem EyeAt.cell0 {w : World} {B p v zs bad} (h : EyeAt w B p v zs bad) : w.cell? ⟨p, 0, none⟩ = some v := by simp [World.cell?, h.blk]
theorem EyeAt.cell1 {w : World} {B p v zs bad} (h : EyeAt w B p v zs bad) : w.cell? ⟨p, 1, none⟩ = some (.int .i64 bad) := by simp [World.cell?, h.blk]
theorem EyeAt.cell2 {w : World} {B p v zs bad} (h : EyeAt w B p v zs bad) : w.cell? ⟨p, 2, none⟩ = some (.bool true) := by simp [World.cell?, h.blk]
theorem EyeAt.free0 {w : World} {B p v zs bad} (h : EyeAt w B p v zs bad) : w.frozen? ⟨p, 0, none⟩ = false := by simp [World.frozen?, h.blk]
theorem EyeAt.free1 {w : World} {B p v zs bad} (h : EyeAt w B p v zs bad) : w.frozen? ⟨p, 1, none⟩ = false := by simp [World.frozen?, h.blk]
theorem EyeAt.lt {w : World} {B p v zs bad} (h : EyeAt w B p v zs bad) : p < w.heap.size := lt_of_block h.blk

theorem EyeAt.keep {w w' : World} {B p v zs bad} {S : List Nat} (h : EyeAt w B p v zs bad) (k : Keeps S w w') (hp : p ∉ S) (hv : Off S v zs) : EyeAt w' B p v zs bad :=
  ⟨by rw [k.block p h.lt hp]; exact h.blk, h.row.keep k hv, h.off, h.lo, h.fits⟩

/-- v2 lies in the block in which v lies. -/
def SameBlk (v v2 : Value) : Prop := ∀ ad n c, v2 = .slice (some ad) n c → ∃ ad' n' c', v = .slice (some ad') n' c' ∧ ad'.block = ad.block

theorem SameBlk.refl (v : Value) : SameBlk v v := fun ad n c h => ⟨ad, n, c, h, rfl⟩
theorem SameBlk.trans {v v1 v2 : Value} (h : SameBlk v v1) (k : SameBlk v1 v2) : SameBlk v v2 := fun ad n c e =>
  let ⟨ad', n', c', e', h'⟩ := k ad n c e
  let ⟨ad2, n2, c2, e2, h2⟩ := h ad' n' c' e'
  ⟨ad2, n2, c2, e2, h2.trans h'⟩
theorem Off.same {S : List Nat} {v v2 : Value} {zs zs2 : List Int} (h : Off S v zs) (hs : SameBlk v v2) (hz : zs2 ≠ [] → zs ≠ []) : Off S v2 zs2 := by
  intro ad n c e hne
  obtain ⟨ad', n', c', e', h'⟩ := hs ad n c e
  rw [← h']
  exact h ad' n' c' e' (hz hne)

def gaveUp (why : Int) : Ending := .panicked [{ v := .iface 29 (.int .i64 why), recovered := false }]

theorem heap_three {w : World} {p : Nat} {x y z : Value} {T : TypeId} (h : w.heap[p]? = some (.cells #[x, y, z] T (0, 0))) (u : Value) :
    (w.setCell ⟨p, 0, none⟩ u).heap[p]? = some (.cells #[u, y, z] T (0, 0)) ∧ (w.setCell ⟨p, 1, none⟩ u).heap[p]? = some (.cells #[x, u, z] T (0, 0)) := by
  have hlt := lt_of_block h
  have h' : w.heap[p] = .cells #[x, y, z] T (0, 0) := by simpa [Array.getElem?_eq_getElem hlt] using h
  constructor
  · show (w.heap.modify p _)[p]? = _
    rw [Array.getElem?_eq_getElem (by simpa using hlt), Array.getElem_modify_self, h']
    rfl
  · show (w.heap.modify p _)[p]? = _
    rw [Array.getElem?_eq_getElem (by simpa using hlt), Array.getElem_modify_self, h']
    rfl

def TakePost (w : World) (B p : Nat) (v : Value) (zs : List Int) (bad : Int) (n : Nat) (e : Ending) (w' : World) : Prop :=
  (zs.length < n ∧ e = gaveUp 2 ∧ w' = w) ∨
  (n ≤ zs.length ∧ ∃ a1 c1 v2, e = .returned (.slice a1 n c1) ∧ RowAt w' (.slice a1 n c1) (zs.take n) ∧ SameBlk v (.slice a1 n c1) ∧ EyeAt w' B p v2 (zs.drop n) bad ∧ SameBlk v v2 ∧ Keeps [p] w w')

set_option maxHeartbeats 400000 in
theorem take_any (w : World) (B p : Nat) (v : Value) (zs : List Int) (bad : Int) (n : Nat) (h : EyeAt w B p v zs bad) :
    Calls Try.prog 188 #[.pointer (some ⟨p, 0, none⟩), .int .i64 n] w (TakePost w B p v zs bad n) := by
  have H := hid h
  have c0 := h.cell0
  have f0 := h.free0
  have hf := h.fits
  have hr := h.row
  obtain ⟨a, cap, rfl, _⟩ := h.row
  clear h
  by_cases hn : zs.length < n
  · have hn' : (zs.length : Int) < n := by omega
    clear hr
    go_enter Try.func188, Try.ntmps188
    go_wp2_with fail
    exact ⟨rfl, Or.inl ⟨hn, rfl, rfl⟩⟩
  · have hn' : ¬ (zs.length : Int) < n := by omega
    obtain ⟨a1, t1, t2, t3, t4⟩ := row_take hr n (by omega)
    obtain ⟨a2, s1, s2, s3, s4⟩ := row_drop hr n (by omega)
    have T3 := hid t3
    have T4 := hid t4
    have S3 := hid s3
    have S4 := hid s4
    clear t3 t4 s3 s4 hr
    go_enter Try.func188, Try.ntmps188
    go_wp2_with fail
    go_ret
    have K : Keeps [p] w (w.setCell ⟨p, 0, none⟩ (.slice a2 (zs.length - n) (cap - n))) := (Keeps.refl _ _).setCell (Or.inl (by simp)) _
    have R := H.out.row.keep K H.out.off
    have hb1 : SameBlk (.slice a zs.length cap) (.slice a1 n cap) := by
      intro ad n' c' e
      injection e with e1 _ _
      obtain ⟨ad', h1, h2⟩ := T4.out ad e1
      exact ⟨ad', _, _, by rw [h1], h2⟩
    have hb2 : SameBlk (.slice a zs.length cap) (.slice a2 (zs.length - n) (cap - n)) := by
      intro ad n' c' e
      injection e with e1 _ _
      obtain ⟨ad', h1, h2⟩ := S4.out ad e1
      exact ⟨ad', _, _, by rw [h1], h2⟩
    refine Or.inr ⟨by omega, a1, cap, .slice a2 (zs.length - n) (cap - n), rfl, T3.out _ R, hb1, ⟨?_, S3.out _ R, ?_, H.out.lo, ?_⟩, hb2, K⟩
    · exact (heap_three H.out.blk _).1
    · exact H.out.off.same hb2 (by intro h1 h2; rw [h2] at h1; simp at h1)
    · rw [List.length_drop]; omega
end Go.Proofs.Ytjohikekhgcepaa
