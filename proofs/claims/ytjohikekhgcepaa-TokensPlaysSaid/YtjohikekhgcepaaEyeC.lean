/- Walks of the eye: counted, truth, and the three closures that attempt is handed. -/
import Derived.Test.YtjohikekhgcepaaCatch
namespace Go.Proofs.Ytjohikekhgcepaa
open Go.RowKit

def rdNum (n : Int) (zs : List Int) : Except Int (Int × List Int) :=
  if ¬ (1 ≤ n ∧ n ≤ 7) then .error 1 else if zs.length < n.toNat then .error 2 else .ok (val (zs.take n.toNat), zs.drop n.toNat)
def rdCount (most : Int) (zs : List Int) : Except Int (List Int × List Int) :=
  if most < 0 then .error 1 else if zs.length < 2 then .error 2 else if most < val (zs.take 2) then .error 3
  else if (zs.drop 2).length < (val (zs.take 2)).toNat then .error 2 else .ok ((zs.drop 2).take (val (zs.take 2)).toNat, (zs.drop 2).drop (val (zs.take 2)).toNat)
def rdBool (zs : List Int) : Except Int (Bool × List Int) :=
  if zs.length < 1 then .error 2 else if 1 < val (zs.take 1) then .error 4 else .ok (val (zs.take 1) == 1, zs.drop 1)

/-- What a reader leaves: it gave up, or it read something, and the rest is still to be read. -/
def ReadPost {α : Type} (w : World) (B p : Nat) (v : Value) (bad : Int) (r : Except Int (α × List Int)) (ret : α → World → Ending → Prop) (e : Ending) (w' : World) : Prop :=
  Keeps [p] w w' ∧ match r with
    | .error why => e = gaveUp why ∧ ∃ v2 zs2, EyeAt w' B p v2 zs2 bad
    | .ok (x, rest) => ret x w' e ∧ ∃ v2, EyeAt w' B p v2 rest bad ∧ SameBlk v v2

def retInt (x : Int) (_ : World) (e : Ending) : Prop := e = .returned (.int .i64 x)
def retBool (x : Bool) (_ : World) (e : Ending) : Prop := e = .returned (.bool x)
def retStr (x : List Int) (_ : World) (e : Ending) : Prop := e = .returned (.string (strOfNums x))
def retOld (v : Value) (x : List Int) (w' : World) (e : Ending) : Prop := ∃ a c, e = .returned (.slice a x.length c) ∧ RowAt w' (.slice a x.length c) x ∧ SameBlk v (.slice a x.length c)
def retNew (w : World) (x : List Int) (w' : World) (e : Ending) : Prop := ∃ a c, e = .returned (.slice a x.length c) ∧ RowAt w' (.slice a x.length c) x ∧ ∀ ad, a = some ad → w.heap.size ≤ ad.block

theorem number_read (w : World) (B p : Nat) (v : Value) (zs : List Int) (bad n : Int) (h : EyeAt w B p v zs bad) :
    Calls Try.prog 141 #[.pointer (some ⟨p, 0, none⟩), .int .i64 n] w (ReadPost w B p v bad (rdNum n zs) retInt) := by
  refine (number_any w B p v zs bad n h).mono ?_
  rintro e w' (⟨q1, rfl, rfl⟩ | ⟨q1, q2, q3, rfl, rfl⟩ | ⟨q1, q2, q3, v2, rfl, q4, q5, q6⟩)
  · refine ⟨Keeps.refl _ _, ?_⟩
    rw [rdNum, if_pos q1]
    exact ⟨rfl, v, zs, h⟩
  · refine ⟨Keeps.refl _ _, ?_⟩
    rw [rdNum, if_neg (by simp only [Classical.not_not]; exact ⟨q1, q2⟩), if_pos q3]
    exact ⟨rfl, v, zs, h⟩
  · refine ⟨q6, ?_⟩
    rw [rdNum, if_neg (by simp only [Classical.not_not]; exact ⟨q1, q2⟩), if_neg (by omega)]
    exact ⟨rfl, v2, q4, q5⟩

set_option maxHeartbeats 400000 in
theorem counted_any (w : World) (B p : Nat) (v : Value) (zs : List Int) (bad most : Int) (h : EyeAt w B p v zs bad) :
    Calls Try.prog 193 #[.pointer (some ⟨p, 0, none⟩), .int .i64 most] w (ReadPost w B p v bad (rdCount most zs) (retOld v)) := by
  have H := hid h
  clear h
  by_cases hm : most < 0
  · have e1 : rdCount most zs = .error 1 := by rw [rdCount, if_pos hm]
    have E1 := hid e1
    clear e1
    go_enter Try.func193, Try.ntmps193
    go_wp2_with fail
    exact ⟨rfl, Keeps.refl _ _, by rw [E1.out]; exact ⟨rfl, v, zs, H.out⟩⟩
  · go_enter Try.func193, Try.ntmps193
    go_wp2_with fail
    refine (number_any _ B p v zs bad 2 H.out).mono ?_
    rintro e w1 (⟨q1, rfl, rfl⟩ | ⟨q1, q2, q3, rfl, rfl⟩ | ⟨q1, q2, q3, v2, rfl, q4, q5, q6⟩)
    · exact absurd ⟨by omega, by omega⟩ q1
    · have e1 : rdCount most zs = .error 2 := by rw [rdCount, if_neg (by omega), if_pos (by simpa using q3)]
      have E1 := hid e1
      clear e1 q3
      unfold gaveUp
      go_wp2_with fail
      exact ⟨rfl, Keeps.refl _ _, by rw [E1.out]; exact ⟨rfl, v, zs, H.out⟩⟩
    · have Q4 := hid q4
      have Q5 := hid q5
      have Q6 := hid q6
      have q3' : 2 ≤ zs.length := by simpa using q3
      clear q1 q2 q4 q5 q6 q3
      have hb := val_bound 2 (zs.take 2) (by rw [List.length_take]; omega) (fun z hz => H.out.row.bytes z (List.mem_of_mem_take hz))
      have b0 : 0 ≤ val (zs.take 2) := hb.1
      have b1 : val (zs.take 2) < 65536 := by have := hb.2; simpa using this
      obtain ⟨n, hn⟩ := Int.eq_ofNat_of_zero_le b0
      have HN := hid hn
      have e2 : (2 : Int).toNat = 2 := rfl
      rw [e2, hn]
      rw [hn] at b1
      by_cases hlt : most < n
      · have e1 : rdCount most zs = .error 3 := by rw [rdCount, if_neg (by omega), if_neg (by omega), if_pos (by rw [hn]; exact hlt)]
        have E1 := hid e1
        clear e1 hb b0 hn e2
        go_wp2_with fail
        exact ⟨rfl, Q6.out, by rw [E1.out]; exact ⟨rfl, v2, _, Q4.out⟩⟩
      · clear hb b0 b1 hn e2
        go_wp2_with fail
        refine (take_any _ B p v2 (zs.drop 2) bad n Q4.out).mono ?_
        rintro e w2 (⟨g1, rfl, rfl⟩ | ⟨g1, a1, c1, v3, rfl, g2, g3, g4, g5, g6⟩)
        · have e1 : rdCount most zs = .error 2 := by
            rw [rdCount, if_neg (by omega), if_neg (by omega), if_neg (by rw [HN.out]; omega), if_pos (by rw [HN.out]; exact g1)]
          have E1 := hid e1
          clear e1
          unfold gaveUp
          go_wp2_with fail
          exact ⟨rfl, Q6.out, by rw [E1.out]; exact ⟨rfl, v2, _, Q4.out⟩⟩
        · have e1 : rdCount most zs = .ok ((zs.drop 2).take n, (zs.drop 2).drop n) := by
            rw [rdCount, if_neg (by omega), if_neg (by omega), if_neg (by rw [HN.out]; omega), if_neg (by rw [HN.out]; simp only [Int.toNat_natCast]; omega), HN.out]
            rfl
          have E1 := hid e1
          have G1 := hid g1
          have G2 := hid g2
          have G3 := hid g3
          have G4 := hid g4
          have G5 := hid g5
          have G6 := hid g6
          clear e1 g1 g2 g3 g4 g5 g6
          go_wp2_with fail
          go_ret
          refine ⟨Q6.out.trans G6.out, ?_⟩
          rw [E1.out]
          have hl : ((zs.drop 2).take n).length = n := by rw [List.length_take]; have := G1.out; omega
          refine ⟨⟨a1, c1, by rw [hl]; rfl, by rw [hl]; exact G2.out, ?_⟩, v3, G4.out, Q5.out.trans G5.out⟩
          rw [hl]
          exact Q5.out.trans G3.out

set_option maxHeartbeats 400000 in
theorem truth_any (w : World) (B p : Nat) (v : Value) (zs : List Int) (bad : Int) (h : EyeAt w B p v zs bad) :
    Calls Try.prog 190 #[.pointer (some ⟨p, 0, none⟩)] w (ReadPost w B p v bad (rdBool zs) retBool) := by
  have H := hid h
  clear h
  go_enter Try.func190, Try.ntmps190
  go_wp2_with fail
  refine (number_any _ B p v zs bad 1 H.out).mono ?_
  rintro e w1 (⟨q1, rfl, rfl⟩ | ⟨q1, q2, q3, rfl, rfl⟩ | ⟨q1, q2, q3, v2, rfl, q4, q5, q6⟩)
  · exact absurd ⟨by omega, by omega⟩ q1
  · have e1 : rdBool zs = .error 2 := by rw [rdBool, if_pos (by simpa using q3)]
    have E1 := hid e1
    clear e1 q3
    unfold gaveUp
    go_wp2_with fail
    exact ⟨rfl, Keeps.refl _ _, by rw [E1.out]; exact ⟨rfl, v, zs, H.out⟩⟩
  · have Q4 := hid q4
    have Q5 := hid q5
    have Q6 := hid q6
    have q3' : 1 ≤ zs.length := by simpa using q3
    clear q1 q2 q4 q5 q6 q3
    have e2 : (1 : Int).toNat = 1 := rfl
    rw [e2]
    obtain ⟨n, hn⟩ : ∃ n, n = val (zs.take 1) := ⟨_, rfl⟩
    have HN := hid hn
    rw [← hn]
    clear hn e2
    by_cases hlt : 1 < n
    · have e1 : rdBool zs = .error 4 := by rw [rdBool, if_neg (by omega), if_pos (by rw [← HN.out]; exact hlt)]
      have E1 := hid e1
      clear e1
      go_wp2_with fail
      exact ⟨rfl, Q6.out, by rw [E1.out]; exact ⟨rfl, v2, _, Q4.out⟩⟩
    · have e1 : rdBool zs = .ok (n == 1, zs.drop 1) := by rw [rdBool, if_neg (by omega), if_neg (by rw [← HN.out]; omega), ← HN.out]
      have E1 := hid e1
      clear e1
      go_wp2_with fail
      go_ret
      refine ⟨Q6.out, ?_⟩
      rw [E1.out]
      exact ⟨rfl, v2, Q4.out, Q5.out⟩
end Go.Proofs.Ytjohikekhgcepaa
