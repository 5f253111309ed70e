/- Walks of the eye: number, counted, truth. -/
import Derived.Test.YtjohikekhgcepaaEyeA
import Derived.Test.YtjohikekhgcepaaNums
namespace Go.Proofs.Ytjohikekhgcepaa
open Go.RowKit

def NumPost (w : World) (B p : Nat) (v : Value) (zs : List Int) (bad n : Int) (e : Ending) (w' : World) : Prop :=
  (¬ (1 ≤ n ∧ n ≤ 7) ∧ e = gaveUp 1 ∧ w' = w) ∨
  (1 ≤ n ∧ n ≤ 7 ∧ zs.length < n.toNat ∧ e = gaveUp 2 ∧ w' = w) ∨
  (1 ≤ n ∧ n ≤ 7 ∧ n.toNat ≤ zs.length ∧ ∃ v2, e = .returned (.int .i64 (val (zs.take n.toNat))) ∧ EyeAt w' B p v2 (zs.drop n.toNat) bad ∧ SameBlk v v2 ∧ Keeps [p] w w')

set_option maxHeartbeats 400000 in
theorem number_ok (w : World) (B p : Nat) (v : Value) (zs : List Int) (bad : Int) (n : Nat) (h : EyeAt w B p v zs bad) (h1 : 1 ≤ n) (h7 : n ≤ 7) :
    Calls Try.prog 141 #[.pointer (some ⟨p, 0, none⟩), .int .i64 n] w (NumPost w B p v zs bad n) := by
  have H := hid h
  have d1 : decide ((n : Int) < 1) = false := by simp; omega
  have d2 : decide (7 < (n : Int)) = false := by simp; omega
  clear h
  go_enter Try.func141, Try.ntmps141
  go_wp2_with fail
  refine (take_any _ B p v zs bad n H.out).mono ?_
  rintro e w1 (⟨q1, rfl, rfl⟩ | ⟨q1, a1, c1, v2, rfl, q2, q3, q4, q5, q6⟩)
  · have Q1 := hid q1
    clear q1
    unfold gaveUp
    go_wp2_with fail
    exact ⟨rfl, Or.inr (Or.inl ⟨by omega, by omega, Q1.out, rfl, rfl⟩)⟩
  · have Q2 := hid q2
    have Q3 := hid q3
    have Q4 := hid q4
    have Q5 := hid q5
    have Q6 := hid q6
    have HB := hid H.out.row.bytes
    have hl : (zs.take n).length = n := by rw [List.length_take]; omega
    obtain ⟨g, off, cap, hv, r1, r2⟩ := q2.open (by omega)
    injection hv with e1 e2 e3
    subst e1
    rw [hl] at r2
    have R2 := hid r2
    clear q3 q4 q5 q6 q2 r1 r2 e2 e3 hl
    go_wp2_with fail
    go_loop [5, 19] (fun x i => ∃ k : Nat, k ≤ n ∧ i = .int .i64 k ∧ x = .int .i64 (val (zs.take k))) (fun _ i => n - (intOf i).toNat)
    case atStart => exact ⟨0, by omega, rfl, rfl⟩
    case round =>
      obtain ⟨k, hk, rfl, rfl⟩ := hrel
      by_cases hlt : k < n
      · have hc := R2.out k hlt
        have hbd := val_bound k (zs.take k) (by rw [List.length_take]; omega) (fun z hz => HB.out z (List.mem_of_mem_take hz))
        have hmono : (256 : Int) ^ k ≤ 256 ^ 6 := by
          have : k ≤ 6 := by omega
          rcases k with _ | _ | _ | _ | _ | _ | _ | k <;> first | omega | decide
        have b1 : val (zs.take k) ≤ 281474976710655 := by
          have h6 : (256 : Int) ^ 6 = 281474976710656 := by decide
          omega
        have b0 : 0 ≤ val (zs.take k) := hbd.1
        have hz := HB.out (zs.getD k 0) (by rw [List.getD_eq_getElem?_getD, List.getElem?_eq_getElem (by omega)]; exact List.getElem_mem _)
        have E := hid (take_snoc zs k (by omega))
        have hcc : w1.cell? ⟨g, off + k, none⟩ = some (.int .u8 (zs.getD k 0)) := by
          rw [hc, List.getD_eq_getElem?_getD, List.getElem?_take, if_pos hlt, List.getD_eq_getElem?_getD]
        generalize zs.getD k 0 = b at *
        have z0 : 0 ≤ b := hz.1
        have z1 : b ≤ 255 := hz.2
        clear hbd hmono hz hc
        go_wp2_with fail
        go_round
        case rel => exact ⟨k + 1, by omega, by go_num, by rw [E.out, val_snoc, or_byte _ _ b0 b1 z0 z1]⟩
        case measure => simp [intOf]; omega
      · have : k = n := by omega
        subst this
        go_wp2_with fail
        go_ret
        exact Or.inr (Or.inr ⟨by omega, by omega, by omega, v2, rfl, Q4.out, Q5.out, Q6.out⟩)

set_option maxHeartbeats 400000 in
theorem number_any (w : World) (B p : Nat) (v : Value) (zs : List Int) (bad n : Int) (h : EyeAt w B p v zs bad) :
    Calls Try.prog 141 #[.pointer (some ⟨p, 0, none⟩), .int .i64 n] w (NumPost w B p v zs bad n) := by
  by_cases hn : 1 ≤ n ∧ n ≤ 7
  · obtain ⟨k, rfl⟩ := Int.eq_ofNat_of_zero_le (show 0 ≤ n by omega)
    exact number_ok w B p v zs bad k h (by omega) (by omega)
  · clear h
    by_cases a1 : n < 1
    · have d1 : decide (n < 1) = true := by simpa using a1
      have HN := hid hn
      clear hn
      go_enter Try.func141, Try.ntmps141
      go_wp2_with fail
      exact ⟨rfl, Or.inl ⟨HN.out, rfl, rfl⟩⟩
    · have d1 : decide (n < 1) = false := by simpa using a1
      have d2 : decide (7 < n) = true := by simp; omega
      have HN := hid hn
      clear hn
      go_enter Try.func141, Try.ntmps141
      go_wp2_with fail
      exact ⟨rfl, Or.inl ⟨HN.out, rfl, rfl⟩⟩
end Go.Proofs.Ytjohikekhgcepaa
