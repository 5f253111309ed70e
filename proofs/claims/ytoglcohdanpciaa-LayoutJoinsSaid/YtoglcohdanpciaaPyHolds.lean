/- parity's Holds; the reference's Holds; the laws' Small. -/
import Derived.Deep.QuietTactic
import Derived.BigQuiet
import Derived.Test.YtoglcohdanpciaaPyXor
namespace Go.Proofs.Ytoglcohdanpciaa
open Go.RowKit Go.Shelf

def zeroB (zs : List Int) : Bool := zs.all (· == 0)
theorem zeroB_of {zs : List Int} (h : allZero zs) : zeroB zs = true := by
  unfold zeroB; rw [List.all_eq_true]; intro z hz; simp [h z hz]
theorem zeroB_snoc (zs : List Int) (z : Int) : zeroB (zs ++ [z]) = (zeroB zs && z == 0) := by simp [zeroB]
theorem zeroB_take {zs : List Int} {k : Nat} (hk : k < zs.length) (hz : zs.getD k 0 ≠ 0) : zeroB zs = false := by
  rw [← Bool.not_eq_true]
  intro h
  unfold zeroB at h
  rw [List.all_eq_true] at h
  apply hz
  rw [List.getD_eq_getElem?_getD, List.getElem?_eq_getElem hk]
  simpa using h _ (List.getElem_mem hk)

theorem holdsC_any (z : Int) (w : World) :
    Calls Try.prog 166 #[.int .u8 z] w fun e w' => e = .returned (.bool (z != 0)) ∧ w = w' := by
  go_enter Try.func166, Try.ntmps166
  go_wp2
  go_ret
  exact ⟨rfl, rfl⟩

theorem ret_bool {a b : Bool} (h : a = b) : Ending.returned (.bool a) = .returned (.bool b) := by rw [h]

def IdxPost (w : World) (zs : List Int) (e : Ending) (w' : World) : Prop :=
  w = w' ∧ ((zeroB zs = true ∧ e = .returned (.int .i64 (-1))) ∨ (zeroB zs = false ∧ ∃ k : Nat, e = .returned (.int .i64 k)))

set_option maxHeartbeats 1000000 in
theorem index_any (w : World) (v : Value) (zs : List Int) (hR : RowAt w v zs) (hl : zs.length ≤ 140737488351232) :
    Calls Try.prog 187 #[v, .func (.func 166) #[] #[]] w (IdxPost w zs) := by
  have HR := hid hR
  obtain ⟨a, cap, rfl, z⟩ := hR
  clear z
  go_enter Try.func187, Try.ntmps187
  go_wp2_with fail
  go_loop [8] (fun i => ∃ k : Nat, k ≤ zs.length ∧ i = .int .i64 k ∧ Hid (zeroB (zs.take k) = true)) (fun i => zs.length - (intOf i).toNat)
  case atStart => exact ⟨0, Nat.zero_le _, rfl, by simp [Hid, zeroB]⟩
  case round =>
    obtain ⟨k, hk, rfl, HZ⟩ := hrel
    by_cases hlt : k < zs.length
    · obtain ⟨g, o, c, e1, _, hc⟩ := HR.out.open (by omega)
      injection e1 with e1 _ e3
      subst e1; subst e3
      have d1 := hc k hlt
      have HT := hid (take_snoc zs k hlt)
      have HN := hid (fun h => zeroB_take (zs := zs) hlt h)
      clear hc
      generalize zs.getD k 0 = b1 at *
      by_cases hb : b1 = 0
      · subst hb
        go_wp2_with fail
        refine (holdsC_any _ _).mono ?_
        rintro e w' ⟨rfl, rfl⟩
        go_wp2_with fail
        go_round
        case rel => exact ⟨k + 1, by omega, by go_num, by rw [HT.out]; simp [Hid, zeroB_snoc, HZ.out]⟩
        case measure => simp [intOf]; omega
      · have hb' : (b1 != 0) = true := by simpa using hb
        have HZ2 := hid (HN.out hb)
        clear hb
        go_wp2_with fail
        refine (holdsC_any _ _).mono ?_
        rw [hb']
        rintro e w' ⟨rfl, rfl⟩
        go_wp2_with fail
        go_ret
        exact ⟨rfl, .inr ⟨HZ2.out, k, rfl⟩⟩
    · have : k = zs.length := by omega
      subst this
      rw [List.take_length] at HZ
      go_wp2_with fail
      go_ret
      exact ⟨rfl, .inl ⟨HZ.out, rfl⟩⟩

set_option maxHeartbeats 1000000 in
theorem contains_any (w : World) (v : Value) (zs : List Int) (hR : RowAt w v zs) (hl : zs.length ≤ 140737488351232) :
    Calls Try.prog 165 #[v, .func (.func 166) #[] #[]] w fun e w' => e = .returned (.bool (!zeroB zs)) ∧ w = w' := by
  have HI := hid (index_any w v zs hR hl)
  obtain ⟨a, cap, rfl, z⟩ := hR
  clear z
  go_enter Try.func165, Try.ntmps165
  go_wp2_with fail
  refine HI.out.mono ?_
  rintro e w' ⟨rfl, ⟨hz, rfl⟩ | ⟨hz, k, rfl⟩⟩
  · have HZ := hid hz
    clear hz
    go_wp2_with fail
    go_ret
    exact ⟨by rw [HZ.out]; rfl, rfl⟩
  · have HZ := hid hz
    clear hz
    go_wp2_with fail
    go_ret
    exact ⟨by rw [HZ.out]; rfl, rfl⟩

set_option maxHeartbeats 1000000 in
theorem holds_any (w : World) (v : Value) (rs : List (El w)) (hR : RowsAt w v rs) (hl : rs.length ≤ 1099511627776) :
    Calls Try.prog 118 #[v] w fun e w' => e = .returned (.bool (zeroB (xorL (raws rs)))) ∧ Keeps [] w w' := by
  have HX := hid (xor_any w v rs hR hl)
  have HL := hid (raws_longest rs)
  obtain ⟨a, cap, rfl, z⟩ := hR
  clear z
  go_enter Try.func118, Try.ntmps118
  go_wp2_with fail
  refine HX.out.mono ?_
  rintro e w2 ⟨a2, c2, rfl, q1, q2, q3⟩
  have HC := hid (contains_any w2 _ _ q1 (by rw [xorL_length]; exact HL.out))
  have Q3 := hid q3
  clear q1 q2 q3
  go_wp2_with fail
  refine HC.out.mono ?_
  rintro e w' ⟨rfl, rfl⟩
  go_wp2_with fail
  go_ret
  exact ⟨by simp, Q3.out⟩

/-- The reference's Holds and Same's like: below. The laws' Small. -/
def smallB {w0 : World} (rs : List (El w0)) (most : Int) : Bool := decide (rs.length ≤ 40) && (raws rs).all (fun r => decide ((r.length : Int) ≤ most))

theorem smallB_len {w0 : World} {rs : List (El w0)} {most : Int} (h : smallB rs most = true) : rs.length ≤ 40 := by
  unfold smallB at h; simp at h; exact h.1
theorem smallB_row {w0 : World} {rs : List (El w0)} {most : Int} (h : smallB rs most = true) : ∀ r ∈ raws rs, (r.length : Int) ≤ most := by
  unfold smallB at h; simp only [Bool.and_eq_true, List.all_eq_true, decide_eq_true_eq] at h; exact h.2
theorem smallB_many {w0 : World} {rs : List (El w0)} {most : Int} (h : 40 < rs.length) : smallB rs most = false := by
  unfold smallB; simp; omega
theorem smallB_big {w0 : World} {rs : List (El w0)} {most : Int} {k : Nat} (hk : k < rs.length) (h : most < (rs[k].1.2.length : Int)) : smallB rs most = false := by
  unfold smallB
  rw [Bool.and_eq_false_iff]
  right
  rw [← Bool.not_eq_true, List.all_eq_true]
  intro hall
  have := hall rs[k].1.2 (by simp only [raws, List.mem_map]; exact ⟨rs[k], List.getElem_mem hk, rfl⟩)
  simp at this
  omega
theorem smallB_all {w0 : World} {rs : List (El w0)} {most : Int} (h : rs.length ≤ 40) (h2 : ∀ k (hk : k < rs.length), (rs[k].1.2.length : Int) ≤ most) : smallB rs most = true := by
  unfold smallB
  simp only [Bool.and_eq_true, List.all_eq_true, decide_eq_true_eq]
  refine ⟨h, fun r hr => ?_⟩
  simp only [raws, List.mem_map] at hr
  obtain ⟨x, hx, rfl⟩ := hr
  obtain ⟨k, hk, rfl⟩ := List.getElem_of_mem hx
  exact h2 k hk

set_option maxHeartbeats 1000000 in
theorem small_any {w0 : World} (w : World) (v : Value) (rs : List (El w0)) (most : Int) (hR : RowsAt w v rs) :
    Calls Try.prog 30 #[v, .int .i64 most] w fun e w' => e = .returned (.bool (smallB rs most)) ∧ w = w' := by
  have HR := hid hR
  obtain ⟨a, cap, rfl, z⟩ := hR
  clear z
  by_cases h40 : 40 < rs.length
  · have hs := smallB_many (most := most) h40
    rw [hs]
    clear hs
    have h40' : (40 : Int) < rs.length := by omega
    go_enter Try.func30, Try.ntmps30
    go_wp2_with fail
    go_ret
    exact ⟨rfl, rfl⟩
  · have h40' : (rs.length : Int) ≤ 40 := by omega
    go_enter Try.func30, Try.ntmps30
    go_wp2_with fail
    go_loop [5] (fun i => ∃ k : Nat, k ≤ rs.length ∧ i = .int .i64 k ∧ Hid (∀ j (hj : j < rs.length), j < k → (rs[j].1.2.length : Int) ≤ most)) (fun i => rs.length - (intOf i).toNat)
    case atStart => exact ⟨0, Nat.zero_le _, rfl, fun j _ h => absurd h (by omega)⟩
    case round =>
      obtain ⟨k, hk, rfl, HZ⟩ := hrel
      by_cases hlt : k < rs.length
      · obtain ⟨g, o, c, e1, _, hc⟩ := HR.out.open (by omega)
        injection e1 with e1 _ e3
        subst e1; subst e3
        have d1 := hc k hlt
        obtain ⟨a2, c2, hx⟩ := rs[k].slice
        rw [hx] at d1
        have HB := hid (fun h => smallB_big (most := most) hlt h)
        clear hc hx
        generalize hm : rs[k].1.2.length = m at *
        have HM := hid hm
        clear hm
        by_cases hb : most < (m : Int)
        · have HZ2 := hid (HB.out hb)
          go_wp2_with fail
          go_ret
          exact ⟨ret_bool HZ2.out.symm, rfl⟩
        · have hb' : (m : Int) ≤ most := by omega
          go_wp2_with fail
          go_round
          case rel => exact ⟨k + 1, by omega, by go_num, fun j hj h => by
            by_cases e : j = k
            · subst e; rw [HM.out]; exact hb'
            · exact HZ.out j hj (by omega)⟩
          case measure => simp [intOf]; omega
      · have : k = rs.length := by omega
        subst this
        have HS := hid (smallB_all (most := most) (by omega) (fun j hj => HZ.out j hj hj))
        go_wp2_with fail
        go_ret
        exact ⟨ret_bool HS.out.symm, rfl⟩
end Go.Proofs.Ytoglcohdanpciaa
