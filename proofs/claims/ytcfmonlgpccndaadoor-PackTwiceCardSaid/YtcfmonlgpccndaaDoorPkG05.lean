/- PyRefG, Same, PyLaws, LyA. -/
import Derived.Test.YtcfmonlgpccndaaDoorPkG04
import Derived.IntWalk
import Derived.Test.YtcfmonlgpccndaaDoorPkG01
import Derived.Deep.QuietTactic
import Derived.BigQuiet
import Derived.Test.YtcfmonlgpccndaaDoorPkG02
/- The reference's Fill and Holds. -/
namespace Go.Proofs.YtcfmonlgpccndaaDoor
open Go.RowKit Go.Shelf

/-- Rows as they are in a later world. -/
def El.keep {w w' : World} (k : Keeps [] w w') (x : El w) : El w' := ⟨x.1, x.2.1.keep k (by intro _ _ _ _ _; simp), x.2.2⟩
theorem raws_keep {w w' : World} (k : Keeps [] w w') (rs : List (El w)) : raws (rs.map (El.keep k)) = raws rs := by
  simp [raws, El.keep, Function.comp_def]
theorem RowsAt.moved {w w' w2 : World} {v : Value} {rs : List (El w)} (k : Keeps [] w w') (h : RowsAt w2 v rs) : RowsAt w2 v (rs.map (El.keep k)) := by
  obtain ⟨a, cap, rfl, h1, h2, h3, h5⟩ := h
  refine ⟨a, cap, by simp, by simpa using h1, h2, h3, fun ad had j u hu => h5 ad had j u ?_⟩
  rw [← hu, List.map_map]
  rfl

theorem RowsAt.parts {w0 w : World} {a : Option Addr} {len cap : Nat} {rs : List (El w0)} (h : RowsAt w (.slice a len cap) rs) :
    rs.length = len ∧ len ≤ cap ∧ (a = none → cap = 0) ∧ ∀ ad, a = some ad → ∀ j u, (rs.map fun r => r.1.1)[j]? = some u → w.cell? (ad.add j) = some u := by
  obtain ⟨a', cap', e, h1, h2, h3, h5⟩ := h
  injection e with e1 e2 e3
  subst e1; subst e2; subst e3
  exact ⟨rfl, h1, h3, h5⟩

theorem heads_one {w0 : World} (rs : List (El w0)) : ∀ u ∈ rs.map (fun r => r.1.1), u.oneCell' = true := by
  intro u hu
  obtain ⟨x, _, rfl⟩ := List.mem_map.1 hu
  obtain ⟨a, cap, h⟩ := x.slice
  rw [h]; rfl

/-- Rows whose heads the call owns. -/
theorem rows_of_own {w0 w : World} {B : Nat} {a : Option Addr} {n cap : Nat} {rs : List (El w0)} (h : w.ownsRow B 31 1 (.slice a n cap) n (rs.map fun r => r.1.1)) : RowsAt w (.slice a n cap) rs := by
  have hl : rs.length = n := by simpa using h.1
  rcases h.2 with ⟨h', h0⟩ | ⟨g, cap', cur, h', hb, hg, hnc, hcm, hcs, ht⟩
  · injection h' with h1 h2 h3
    subst h1; subst h3; subst h0
    exact ⟨none, 0, by rw [hl], by omega, by simp, fun _ => rfl, by simp⟩
  · injection h' with h1 h2 h3
    subst h1; subst h3
    refine ⟨_, cap, by rw [hl], by omega, hcm, by simp, ?_⟩
    rintro ad had j u hu
    obtain rfl := Option.some.inj had
    exact h.cells (g := g) rfl j u hu

end Go.Proofs.YtcfmonlgpccndaaDoor


/- The walk of the reference's Same. -/
namespace Go.Proofs.YtcfmonlgpccndaaDoor
open Go.RowKit

set_option maxHeartbeats 400000 in
theorem same_any (w : World) (u v : Value) (xs ys : List Int) (hx : RowAt w u xs) (hy : RowAt w v ys) (hl : xs.length ≤ 35184372088832) (hl2 : ys.length ≤ 35184372088832) :
    Calls Tryd.prog 16 #[u, v] w fun e w' => e = .returned (.bool (decide (xs = ys))) ∧ ∃ n, w' = w.drewN n := by
  obtain ⟨a1, k1, rfl, z1⟩ := id hx
  obtain ⟨a2, k2, rfl, z2⟩ := id hy
  clear z1 z2
  have HX := hid hx
  have HY := hid hy
  clear hx hy
  by_cases hne : xs.length = ys.length
  · have hne' : ((xs.length : Int) != ys.length) = false := by simp [hne]
    by_cases h0 : xs.length = 0
    · have hx0 : xs = [] := List.eq_nil_of_length_eq_zero h0
      have hy0 : ys = [] := List.eq_nil_of_length_eq_zero (by omega)
      subst hx0; subst hy0
      clear hne hne' h0 hl hl2 HX HY
      simp only [List.length_nil]
      go_enter Tryd.func16, Tryd.ntmps16
      go_wp2_with fail
      refine wp_loop_rounds 1 ?_
      rw [rounds_succ]
      go_wp2_with fail
      go_ret
      exact ⟨by simp, 0, rfl⟩
    · obtain ⟨g1, o1, c1, e1, _, hc1⟩ := HX.out.open (by omega)
      obtain ⟨g2, o2, c2, e2, _, hc2⟩ := HY.out.open (by omega)
      injection e1 with e1 _ _
      injection e2 with e2 _ _
      subst e1; subst e2
      have HC1 := hid hc1
      have HC2 := hid hc2
      have HN := hid hne
      clear hc1 hc2 hne
      go_enter Tryd.func16, Tryd.ntmps16
      go_wp2_with fail
      go_loopw [5] (fun i wr => ∃ k n : Nat, k ≤ xs.length ∧ i = .int .i64 k ∧ wr = w.drewN n ∧ xs.take k = ys.take k) (fun i _ => xs.length - (intOf i).toNat)
      case atStart => exact ⟨0, 0, Nat.zero_le _, rfl, rfl, rfl⟩
      case round =>
        obtain ⟨k, n, hk, rfl, rfl, ht⟩ := hrel
        have HT := hid ht
        clear ht
        by_cases hlt : k < xs.length
        · have h2 : k < ys.length := by rw [← HN.out]; exact hlt
          have d1 := HC1.out k hlt
          have d2 := HC2.out k h2
          have HE := hid (show xs.getD k 0 = ys.getD k 0 ↔ xs.take (k + 1) = ys.take (k + 1) by
            rw [take_snoc xs k hlt, take_snoc ys k h2, HT.out]
            simp)
          generalize xs.getD k 0 = b1 at *
          generalize ys.getD k 0 = b2 at *
          by_cases hb : b1 = b2
          · have hb' : (b1 != b2) = false := by simp [hb]
            have HB := hid hb
            clear hb
            go_wp2_with fail
            go_quiet (fail)
            go_wp2_with fail
            go_roundw
            case rel => exact ⟨k + 1, n + nq, by omega, by go_num, rfl, HE.out.1 HB.out⟩
            case measure => simp [intOf]; omega
          · have hb' : (b1 != b2) = true := by simpa using hb
            have HB := hid hb
            clear hb
            go_wp2_with fail
            go_quiet (fail)
            go_wp2_with fail
            go_ret
            refine ⟨?_, n + nq, by simp⟩
            have hxy : xs ≠ ys := fun e => HB.out (HE.out.2 (by rw [e]))
            simp [hxy]
        · have : k = xs.length := by omega
          subst this
          go_wp2_with fail
          go_ret
          refine ⟨?_, n, rfl⟩
          have hxy : xs = ys := by
            have := HT.out
            rwa [List.take_length, List.take_of_length_le (by have := HN.out; omega)] at this
          simp [hxy]
  · have hne' : ((xs.length : Int) != ys.length) = true := by simp; omega
    have hxy : xs ≠ ys := fun e => hne (by rw [e])
    have HXY := hid hxy
    clear hxy hne
    go_enter Tryd.func16, Tryd.ntmps16
    go_wp2_with fail
    go_ret
    exact ⟨by simp [HXY.out], 0, rfl⟩
end Go.Proofs.YtcfmonlgpccndaaDoor


/- The contracts of layer 2 at rows of an earlier world; rows that a law lays itself; the laws' awake. -/
namespace Go.Proofs.YtcfmonlgpccndaaDoor
open Go.RowKit Go.Shelf

section
variable {w0 w : World} (k : Keeps [] w0 w) (v : Value) (rs : List (El w0)) (hR : RowsAt w v rs) (hl : rs.length ≤ 1099511627776)
include k hR hl

theorem xor_at : Calls Tryd.prog 58 #[v] w (RowPost w (xorL (raws rs))) := by
  have := xor_any w v (rs.map (El.keep k)) (hR.moved k) (by simpa using hl)
  rwa [raws_keep] at this
end

def El.mk' {w : World} {u : Value} {zs : List Int} (h : RowAt w u zs) (hl : zs.length ≤ 140737488351232) : El w := ⟨(u, zs), h, hl⟩

theorem rows_lit {w0 : World} (w : World) (rs : List (El w0)) (T : TypeId) (hm : rs.length ≤ maxLen) :
    RowsAt (w.alloc (.cells (rs.map fun r => r.1.1).toArray T)) (.slice (some ⟨w.heap.size, 0, none⟩) rs.length rs.length) rs := by
  refine ⟨some ⟨w.heap.size, 0, none⟩, rs.length, rfl, Nat.le_refl _, hm, by simp, ?_⟩
  rintro ad had j u hu
  obtain rfl := Option.some.inj had
  rw [Addr.add_lit, cell_of_row _ _ _ _ _ _ (heap_alloc_new w _), Nat.zero_add]
  simpa using hu

theorem els_of {w : World} : ∀ (rs : List Rw) (_ : ∀ r ∈ rs, RwOk w r), ∃ rs' : List (El w), rs'.map (fun r => r.1) = rs
  | [], _ => ⟨[], rfl⟩
  | r :: rs, h => by
    obtain ⟨rs', e⟩ := els_of rs (fun q hq => h q (by simp [hq]))
    exact ⟨⟨r, h r (by simp)⟩ :: rs', by simp [e]⟩

/-- Rows that a law lays itself. -/
theorem rows_lit' (w : World) (rs : List Rw) (h : ∀ r ∈ rs, RwOk w r) (T : TypeId) (hm : rs.length ≤ maxLen) :
    ∃ rs' : List (El w), raws rs' = rs.map Prod.snd ∧ rs'.length = rs.length ∧ RowsAt (w.alloc (.cells (rs.map Prod.fst).toArray T)) (.slice (some ⟨w.heap.size, 0, none⟩) rs.length rs.length) rs' := by
  obtain ⟨rs', e⟩ := els_of rs h
  subst e
  refine ⟨rs', by simp [raws], by simp, ?_⟩
  have := rows_lit w rs' T (by simpa using hm)
  simpa [Function.comp_def] using this

section
variable (w : World) (rs : List Rw) (h : ∀ r ∈ rs, RwOk w r) (T : TypeId) (hm : rs.length ≤ 1099511627776)
include h hm
theorem xor_lit : Calls Tryd.prog 58 #[.slice (some ⟨w.heap.size, 0, none⟩) rs.length rs.length] (w.alloc (.cells (rs.map Prod.fst).toArray T)) (RowPost (w.alloc (.cells (rs.map Prod.fst).toArray T)) (xorL (rs.map Prod.snd))) := by
  obtain ⟨rs', e, hl, hR⟩ := rows_lit' w rs h T (by unfold maxLen; omega)
  have := xor_at ((Keeps.refl _ _).alloc _) _ rs' hR (by omega)
  rwa [e] at this
end

theorem RowAt.later {w w' : World} {v : Value} {zs : List Int} (h : RowAt w v zs) (k : Keeps [] w w') : RowAt w' v zs := h.keep k (by intro _ _ _ _ _; simp)

theorem awake_xor : xorL [[1, 2], [3]] = [2, 2] := by decide +kernel

end Go.Proofs.YtcfmonlgpccndaaDoor


/- layout: the small functions: within, mayServe, mayHave, mayBe, most, Each; and the reference's. -/
namespace Go.Proofs.YtcfmonlgpccndaaDoor
open Go.RowKit
set_option maxRecDepth 100000
set_option linter.unusedSimpArgs false
set_option linter.unusedVariables false

theorem lwithin_as (w : World) (x lo hi : Int) (b : Bool) (h : btw x lo hi = b) : Calls Tryd.prog 65 #[.int .i64 x, .int .i64 lo, .int .i64 hi] w fun e w' => e = .returned (.bool b) ∧ w = w' := by
  subst h
  unfold btw
  by_cases h0 : lo ≤ x
  · by_cases h1 : x ≤ hi
    · go_enter Tryd.func65, Tryd.ntmps65
      go_wp2_with fail
      go_ret
      exact ⟨by simp [h0, h1], rfl⟩
    · go_enter Tryd.func65, Tryd.ntmps65
      go_wp2_with fail
      go_ret
      exact ⟨by simp [h1], rfl⟩
  · go_enter Tryd.func65, Tryd.ntmps65
    go_wp2_with fail
    go_ret
    exact ⟨by simp; omega, rfl⟩
theorem lserve_as (w : World) (n : Int) (b : Bool) (h : maySv n = b) : Calls Tryd.prog 52 #[.int .i64 n] w fun e w' => e = .returned (.bool b) ∧ w = w' := by
  have H := hid h
  clear h
  go_enter Tryd.func52, Tryd.ntmps52
  go_wp2_with fail
  refine (lwithin_as w n 3 16 b H.out).mono ?_
  rintro e w' ⟨rfl, rfl⟩
  go_wp2_with fail
  go_ret
  exact ⟨rfl, rfl⟩
theorem lmost_as (w : World) (n : Int) (h3 : 3 ≤ n) (h16 : n ≤ 16) : Calls Tryd.prog 54 #[.int .i64 n] w fun e w' => e = .returned (.int .i64 (400 * (n - 1))) ∧ w = w' := by
  go_enter Tryd.func54, Tryd.ntmps54
  go_wp2_with fail
  go_ret
  exact ⟨rfl, rfl⟩
set_option maxHeartbeats 1600000 in
theorem lbe_as (w : World) (s : Spe) (b : Bool) (h : mayE s = b) : Calls Tryd.prog 53 #[.agg #[.int .i64 s.c, .int .i64 s.l, .int .i64 s.n]] w fun e w' => e = .returned (.bool b) ∧ Keeps [] w w' := by
  have H := hid h
  have KB := hid ((Keeps.refl [] w).alloc (.cells #[.int .i64 s.c, .int .i64 s.l, .int .i64 s.n] 29))
  clear h
  obtain ⟨c, l, n⟩ := s
  cases h0 : btw c 0 4 with
  | false =>
    have H0 := hid h0
    clear h0
    go_enter Tryd.func53, Tryd.ntmps53
    go_wp2_with fail
    refine (lwithin_as _ c 0 4 false H0.out).mono ?_
    rintro e w' ⟨rfl, rfl⟩
    go_wp2_with fail
    go_ret
    exact ⟨ret_boolP (by rw [← H.out]; unfold mayE msB; rw [H0.out]; rfl), KB.out⟩
  | true =>
    have H0 := hid h0
    clear h0
    cases h1 : btw l 0 1048576 with
    | false =>
      have H1 := hid h1
      clear h1
      go_enter Tryd.func53, Tryd.ntmps53
      go_wp2_with fail
      refine (lwithin_as _ c 0 4 true H0.out).mono ?_
      rintro e w' ⟨rfl, rfl⟩
      go_wp2_with fail
      refine (lwithin_as _ l 0 1048576 false H1.out).mono ?_
      rintro e w' ⟨rfl, rfl⟩
      go_wp2_with fail
      go_ret
      exact ⟨ret_boolP (by rw [← H.out]; unfold mayE msB; rw [H0.out, H1.out]; rfl), KB.out⟩
    | true =>
      have H1 := hid h1
      clear h1
      go_enter Tryd.func53, Tryd.ntmps53
      go_wp2_with fail
      refine (lwithin_as _ c 0 4 true H0.out).mono ?_
      rintro e w' ⟨rfl, rfl⟩
      go_wp2_with fail
      refine (lwithin_as _ l 0 1048576 true H1.out).mono ?_
      rintro e w' ⟨rfl, rfl⟩
      go_wp2_with fail
      refine (lwithin_as _ n 0 1073741824 b (by rw [← H.out]; unfold mayE msB; rw [H0.out, H1.out]; rfl)).mono ?_
      rintro e w' ⟨rfl, rfl⟩
      go_wp2_with fail
      go_ret
      exact ⟨rfl, KB.out⟩

theorem each_b {z n : Int} (h3 : 3 ≤ n) (h1 : 1 ≤ z) : 0 ≤ (z - 1) / (n - 1) ∧ (z - 1) / (n - 1) ≤ z - 1 :=
  ⟨Int.ediv_nonneg (by omega) (by omega), Int.ediv_le_self _ (by omega)⟩
theorem eachI_b (z n : Int) : 0 ≤ eachI z n ∧ (eachI z n ≤ z ∨ eachI z n = 0) := by
  unfold eachI
  split
  · rename_i h
    have := each_b (maySv_is.1 h.1).1 h.2
    omega
  · omega
theorem leach_as (w : World) (z n : Int) (hz : z ≤ 9223372036854775807) : Calls Tryd.prog 66 #[.int .i64 z, .int .i64 n] w fun e w' => e = .returned (.int .i64 (eachI z n)) ∧ w = w' := by
  obtain ⟨r, hr⟩ : ∃ r, r = eachI z n := ⟨_, rfl⟩
  rw [← hr]
  unfold eachI at hr
  have HR := hid hr
  clear hr
  cases hm : maySv n with
  | false =>
    have HM := hid hm
    clear hm
    go_enter Tryd.func66, Tryd.ntmps66
    go_wp2_with fail
    refine (lserve_as w n false HM.out).mono ?_
    rintro e w' ⟨rfl, rfl⟩
    go_wp2_with fail
    go_ret
    exact ⟨ret_int (by rw [HR.out, HM.out, if_neg (by simp)]), rfl⟩
  | true =>
    obtain ⟨h3, h16⟩ := maySv_is.1 hm
    have HM := hid hm
    clear hm
    by_cases h1 : z < 1
    · go_enter Tryd.func66, Tryd.ntmps66
      go_wp2_with fail
      refine (lserve_as w n true HM.out).mono ?_
      rintro e w' ⟨rfl, rfl⟩
      go_wp2_with fail
      go_ret
      exact ⟨ret_int (by rw [HR.out, HM.out, if_neg (by simp; omega)]), rfl⟩
    · obtain ⟨b0, b1⟩ := each_b h3 (show 1 ≤ z by omega)
      go_enter Tryd.func66, Tryd.ntmps66
      go_wp2_with fail
      refine (lserve_as w n true HM.out).mono ?_
      rintro e w' ⟨rfl, rfl⟩
      go_wp2_with fail
      go_ret
      exact ⟨ret_int (by rw [HR.out, HM.out, if_pos ⟨rfl, by omega⟩]), rfl⟩

theorem rmayn_as (w : World) (n : Int) (b : Bool) (h : maySv n = b) : Calls Tryd.prog 31 #[.int .i64 n] w fun e w' => e = .returned (.bool b) ∧ w = w' := by
  subst h
  unfold maySv btw
  by_cases h0 : 3 ≤ n
  · by_cases h1 : n ≤ 16
    · go_enter Tryd.func31, Tryd.ntmps31
      go_wp2_with fail
      go_ret
      exact ⟨by simp [h0, h1], rfl⟩
    · go_enter Tryd.func31, Tryd.ntmps31
      go_wp2_with fail
      go_ret
      exact ⟨by simp [h1], rfl⟩
  · go_enter Tryd.func31, Tryd.ntmps31
    go_wp2_with fail
    go_ret
    exact ⟨by simp; omega, rfl⟩
end Go.Proofs.YtcfmonlgpccndaaDoor
