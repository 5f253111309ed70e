/- Walks of the reference's eye: Num. -/
import Derived.Test.YtoglcohdanpciaaWrite
namespace Go.Proofs.Ytoglcohdanpciaa
open Go.RowKit

/-- The reference's eye: its two cells; its row lies in memory that was there below B. -/
structure REyeAt (w : World) (B : Nat) (q : Nat) (v : Value) (zs : List Int) (bad : Int) : Prop where
  blk : w.heap[q]? = some (.cells #[v, .int .i64 bad] 125 (0, 0))
  row : RowAt w v zs
  old : ∀ S, (∀ k ∈ S, B ≤ k) → Off S v zs
  lo : B ≤ q
  fits : zs.length ≤ 35184372088832

theorem REyeAt.cell0 {w : World} {B q v zs bad} (h : REyeAt w B q v zs bad) : w.cell? ⟨q, 0, none⟩ = some v := by simp [World.cell?, h.blk]
theorem REyeAt.cell1 {w : World} {B q v zs bad} (h : REyeAt w B q v zs bad) : w.cell? ⟨q, 1, none⟩ = some (.int .i64 bad) := by simp [World.cell?, h.blk]
theorem REyeAt.free0 {w : World} {B q v zs bad} (h : REyeAt w B q v zs bad) : w.frozen? ⟨q, 0, none⟩ = false := by simp [World.frozen?, h.blk]
theorem REyeAt.free1 {w : World} {B q v zs bad} (h : REyeAt w B q v zs bad) : w.frozen? ⟨q, 1, none⟩ = false := by simp [World.frozen?, h.blk]
theorem REyeAt.lt {w : World} {B q v zs bad} (h : REyeAt w B q v zs bad) : q < w.heap.size := lt_of_block h.blk
theorem REyeAt.off {w : World} {B q v zs bad} (h : REyeAt w B q v zs bad) : Off [q] v zs := h.old [q] (by intro k hk; simp at hk; rw [hk]; exact h.lo)

theorem REyeAt.keep {w w' : World} {B q v zs bad} {S : List Nat} (h : REyeAt w B q v zs bad) (k : Keeps S w w') (hq : q ∉ S) (hS : ∀ k ∈ S, B ≤ k) : REyeAt w' B q v zs bad :=
  ⟨by rw [k.block q h.lt hq]; exact h.blk, h.row.keep k (h.old S hS), h.old, h.lo, h.fits⟩

/-- Its error is set. -/
theorem REyeAt.setBad {w : World} {B q v zs bad} (h : REyeAt w B q v zs bad) (b : Int) : REyeAt (w.setCell ⟨q, 1, none⟩ (.int .i64 b)) B q v zs b ∧ Keeps [q] w (w.setCell ⟨q, 1, none⟩ (.int .i64 b)) := by
  have k : Keeps [q] w (w.setCell ⟨q, 1, none⟩ (.int .i64 b)) := (Keeps.refl _ _).setCell (Or.inl (by simp)) _
  exact ⟨⟨(heap_two h.blk _).2, h.row.keep k h.off, h.old, h.lo, h.fits⟩, k⟩

/-- Its row is set to another one of the same memory. -/
theorem REyeAt.setRow {w w2 : World} {B q v zs bad v2 zs2 bad2} {S : List Nat} (h : REyeAt w B q v zs bad) (k0 : Keeps S w w2) (hS : ∀ k ∈ S, B ≤ k) (h2 : REyeAt w2 B q v2 zs2 bad2) (v' : Value) (zs' : List Int) (hr : ∀ W, RowAt W v zs → RowAt W v' zs') (hs : SameBlk v v') (hz : zs' ≠ [] → zs ≠ []) (hl : zs'.length ≤ zs.length) :
    REyeAt (w2.setCell ⟨q, 0, none⟩ v') B q v' zs' bad2 ∧ Keeps [q] w2 (w2.setCell ⟨q, 0, none⟩ v') := by
  have k : Keeps [q] w2 (w2.setCell ⟨q, 0, none⟩ v') := (Keeps.refl _ _).setCell (Or.inl (by simp)) _
  exact ⟨⟨(heap_two h2.blk _).1, hr _ ((h.row.keep k0 (h.old S hS)).keep k h.off), fun S hS => (h.old S hS).same hs hz, h.lo, by have := h.fits; omega⟩, k⟩

def REyePost {α : Type} (w : World) (B q : Nat) (st : Option α × List Int × Int) (zero : Value) (ret : α → World → Ending → Prop) (e : Ending) (w' : World) : Prop :=
  (∃ v2, REyeAt w' B q v2 st.2.1 st.2.2) ∧ Keeps [q] w w' ∧ match st.1 with
    | none => e = .returned zero
    | some x => ret x w' e

set_option maxHeartbeats 1600000 in
theorem renum_ok (w : World) (B q : Nat) (v : Value) (zs : List Int) (n : Nat) (h : REyeAt w B q v zs 0) (h1 : 1 ≤ n) (h7 : n ≤ 7) (hn : n ≤ zs.length) :
    Calls Try.prog 68 #[.pointer (some ⟨q, 0, none⟩), .int .i64 n] w (REyePost w B q (some (val (zs.take n)), zs.drop n, 0) (.int .i64 0) retInt) := by
  have H := hid h
  have c0 := h.cell0
  have c1 := h.cell1
  have f0 := h.free0
  have d1 : decide ((n : Int) < 1) = false := by simp; omega
  have d2 : decide (7 < (n : Int)) = false := by simp; omega
  have d3 : decide ((zs.length : Int) < n) = false := by simp; omega
  obtain ⟨g, off, cap, rfl, _, hc⟩ := h.row.open (by omega)
  have HC := hid hc
  obtain ⟨a2, s1, s2, s3, s4⟩ := row_drop h.row n hn
  have S3 := hid s3
  have S4 := hid s4
  have HB := hid h.row.bytes
  clear hc h s3 s4
  go_enter Try.func68, Try.ntmps68
  go_wp2_with fail
  go_loop [5, 6] (fun x i => ∃ k : Nat, k ≤ n ∧ i = .int .i64 k ∧ x = .int .i64 (val (zs.take k))) (fun _ i => n - (intOf i).toNat)
  case atStart => exact ⟨0, by omega, rfl, rfl⟩
  case round =>
    obtain ⟨k, hk, rfl, rfl⟩ := hrel
    by_cases hlt : k < n
    · have hbd := val_bound k (zs.take k) (by rw [List.length_take]; omega) (fun z hz => HB.out z (List.mem_of_mem_take hz))
      have hmono : (256 : Int) ^ k ≤ 256 ^ 6 := by
        have : k ≤ 6 := by omega
        rcases k with _ | _ | _ | _ | _ | _ | _ | k <;> first | omega | decide
      have b1 : val (zs.take k) ≤ 281474976710655 := by
        have h6 : (256 : Int) ^ 6 = 281474976710656 := by decide
        omega
      have b0 : 0 ≤ val (zs.take k) := hbd.1
      have hz := HB.out (zs.getD k 0) (by rw [List.getD_eq_getElem?_getD, List.getElem?_eq_getElem (by omega)]; exact List.getElem_mem _)
      have E := hid (take_snoc zs k (by omega))
      have hcc := HC.out k (by omega)
      have hkl : (k : Int) < zs.length := by omega
      generalize zs.getD k 0 = b at *
      have z0 : 0 ≤ b := hz.1
      have z1 : b ≤ 255 := hz.2
      clear hbd hmono hz
      go_wp2_with fail
      go_round
      case rel => exact ⟨k + 1, by omega, by go_num, by rw [E.out, val_snoc, or_byte _ _ b0 b1 z0 z1]⟩
      case measure => simp [intOf]; omega
    · have : k = n := by omega
      subst this
      go_wp2_with fail
      go_ret
      have hb2 : SameBlk (.slice (some ⟨g, off, none⟩) zs.length cap) (.slice a2 (zs.length - k) (cap - k)) := by
        intro ad n' c' e
        injection e with e1 _ _
        obtain ⟨ad', h1, h2⟩ := S4.out ad e1
        exact ⟨ad', _, _, by rw [h1], h2⟩
      have hr := H.out.setRow (Keeps.refl [] w) (by simp) H.out _ (zs.drop k) S3.out hb2 (by intro h1 h2; rw [h2] at h1; simp at h1) (by rw [List.length_drop]; omega)
      exact ⟨⟨_, hr.1⟩, hr.2, rfl⟩
end Go.Proofs.Ytoglcohdanpciaa
