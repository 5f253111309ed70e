/- The reference's Fill and Holds. -/
import Derived.Test.YtpljhbgnaahmoaaPyRefF
import Derived.IntWalk
namespace Go.Proofs.Ytpljhbgnaahmoaa
open Go.RowKit Go.Shelf

/-- Rows as they are in a later world. -/
def El.keep {w w' : World} (k : Keeps [] w w') (x : El w) : El w' := ⟨x.1, x.2.1.keep k (by intro _ _ _ _ _; simp), x.2.2⟩
theorem raws_keep {w w' : World} (k : Keeps [] w w') (rs : List (El w)) : raws (rs.map (El.keep k)) = raws rs := by
  simp [raws, El.keep, Function.comp_def]
theorem RowsAt.moved {w w' w2 : World} {v : Value} {rs : List (El w)} (k : Keeps [] w w') (h : RowsAt w2 v rs) : RowsAt w2 v (rs.map (El.keep k)) := by
  obtain ⟨a, cap, rfl, h1, h2, h3, h5⟩ := h
  refine ⟨a, cap, by simp, by simpa using h1, h2, h3, fun ad had j u hu => h5 ad had j u ?_⟩
  rw [← hu, List.map_map]
  rfl

theorem RowsAt.parts {w0 w : World} {a : Option Addr} {len cap : Nat} {rs : List (El w0)} (h : RowsAt w (.slice a len cap) rs) :
    rs.length = len ∧ len ≤ cap ∧ (a = none → cap = 0) ∧ ∀ ad, a = some ad → ∀ j u, (rs.map fun r => r.1.1)[j]? = some u → w.cell? (ad.add j) = some u := by
  obtain ⟨a', cap', e, h1, h2, h3, h5⟩ := h
  injection e with e1 e2 e3
  subst e1; subst e2; subst e3
  exact ⟨rfl, h1, h3, h5⟩

theorem heads_one {w0 : World} (rs : List (El w0)) : ∀ u ∈ rs.map (fun r => r.1.1), u.oneCell' = true := by
  intro u hu
  obtain ⟨x, _, rfl⟩ := List.mem_map.1 hu
  obtain ⟨a, cap, h⟩ := x.slice
  rw [h]; rfl

/-- Rows whose heads the call owns. -/
theorem rows_of_own {w0 w : World} {B : Nat} {a : Option Addr} {n cap : Nat} {rs : List (El w0)} (h : w.ownsRow B 25 1 (.slice a n cap) n (rs.map fun r => r.1.1)) : RowsAt w (.slice a n cap) rs := by
  have hl : rs.length = n := by simpa using h.1
  rcases h.2 with ⟨h', h0⟩ | ⟨g, cap', cur, h', hb, hg, hnc, hcm, hcs, ht⟩
  · injection h' with h1 h2 h3
    subst h1; subst h3; subst h0
    exact ⟨none, 0, by rw [hl], by omega, by simp, fun _ => rfl, by simp⟩
  · injection h' with h1 h2 h3
    subst h1; subst h3
    refine ⟨_, cap, by rw [hl], by omega, hcm, by simp, ?_⟩
    rintro ad had j u hu
    obtain rfl := Option.some.inj had
    exact h.cells (g := g) rfl j u hu

set_option maxHeartbeats 2000000 in
theorem rfill_any (w : World) (v : Value) (rs : List (El w)) (hR : RowsAt w v rs) (hl : rs.length ≤ 1099511627776) (hb : longest (raws rs) ≤ 1099511627776) (i n : Int) :
    Calls Try.prog 42 #[v, .int .i64 i, .int .i64 n] w (FillPost w (fillM (raws rs) i n)) := by
  have HR := hid hR
  have hrl : (raws rs).length = rs.length := by simp [raws]
  obtain ⟨a, cap, rfl, z⟩ := hR
  clear z
  by_cases hi : i < 0
  · have hF : fillM (raws rs) i n = none := by unfold fillM; rw [if_neg (by omega)]
    rw [hF]
    clear hF hrl
    go_enter Try.func42, Try.ntmps42
    go_wp2_with fail
    go_ret2
    exact FillPost.none (Keeps.refl _ _)
  · by_cases hi2 : (rs.length : Int) ≤ i
    · have hF : fillM (raws rs) i n = none := by unfold fillM; rw [if_neg (by omega)]
      rw [hF]
      clear hF hrl
      have h0 : 0 ≤ i := by omega
      go_enter Try.func42, Try.ntmps42
      go_wp2_with fail
      go_ret2
      exact FillPost.none (Keeps.refl _ _)
    · obtain ⟨k, rfl⟩ := Int.eq_ofNat_of_zero_le (show 0 ≤ i by omega)
      have hk : k < rs.length := by omega
      by_cases hn : n < 0
      · have hF : fillM (raws rs) k n = none := by unfold fillM; rw [if_neg (by omega)]
        rw [hF]
        clear hF hrl
        go_enter Try.func42, Try.ntmps42
        go_wp2_with fail
        go_ret2
        exact FillPost.none (Keeps.refl _ _)
      · obtain ⟨m, rfl⟩ := Int.eq_ofNat_of_zero_le (show 0 ≤ n by omega)
        obtain ⟨a1, _, s1, t1⟩ := rows_take HR.out k (by omega)
        obtain ⟨a2, _, s2, t2⟩ := rows_drop HR.out (k + 1) (by omega)
        have e : ((k + 1 : Nat) : Int) = (k : Int) + 1 := by omega
        rw [e] at s2
        clear e
        have W1 := IntWalk.i64_in ((k : Int) + 1) (by omega)
        have h01 : 0 ≤ (k : Int) + 1 := by omega
        have T1 := hid (t1 w HR.out)
        have T2 := hid (t2 w HR.out)
        obtain ⟨l1, m1, n1, _⟩ := T1.out.parts
        obtain ⟨l2, m2, n2, _⟩ := T2.out.parts
        have N1 := hid n1
        have N2 := hid n2
        have L1 := hid l1
        have L2 := hid l2
        have K0 : Hid (Keeps [] w ((w.alloc (.cells #[] 25)).drew)) := ((Keeps.refl [] w).alloc _).drew
        have O0 : Hid ((w.alloc (.cells #[] 25)).drew.ownsRow w.heap.size 25 1 (.slice (some ⟨w.heap.size, 0, none⟩) 0 0) 0 []) :=
          World.ownsRow_lit (base := w.heap.size) (e := 25) (size := 1) w #[] 0 (Nat.le_refl _) (by unfold maxLen; omega) rfl
        obtain ⟨i0, hi0, hz0, hz1, hz2⟩ := info_parts info25
        have I0 := hid hi0
        have Z0 := hid hz0
        have Z1 := hid hz1
        have Z2 := hid hz2
        clear t1 t2 n1 n2 l1 l2 hi0 hz0 hz1 hz2
        go_enter Try.func42, Try.ntmps42
        go_wp2_with fail
        go_region_law (first
          | (refine step_append_src rfl (.tmp 22) (.tmp 25) 61 rfl w.heap.size 25 i0 (.slice none 0 0) 24 Try.underlying61 I0.out Z0.out Z1.out Z2.out rfl (.slice (some ⟨w.heap.size, 0, none⟩) 0 0) 0 [] rfl O0.out a1 k cap ((rs.take k).map fun r => r.1.1) rfl (by rw [List.length_map]; exact L1.out) N1.out m1 (T1.out.keep K0.out).parts.2.2.2 (heads_one _) (by unfold maxLen; omega) (by omega) (by simp) ?_; intro a3 c3 w3 O3 G3
             have K3 : Hid (Keeps [] w w3) := K0.out.grown G3.out (by intro g e; right; simp [Value.ownBlock] at e; omega)
             simp only [Nat.zero_add, List.nil_append] at O3 ⊢)
          | (refine step_append_src rfl (.tmp 26) (.tmp 30) 61 rfl w.heap.size 25 i0 (.slice none 0 0) 24 Try.underlying61 I0.out Z0.out Z1.out Z2.out rfl (.slice a3 k c3) k ((rs.take k).map fun r => r.1.1) rfl O3.out a2 (rs.length - (k + 1)) (cap - (k + 1)) ((rs.drop (k + 1)).map fun r => r.1.1) rfl (by rw [List.length_map]; exact L2.out) N2.out m2 (T2.out.keep K3.out).parts.2.2.2 (heads_one _) (by unfold maxLen; omega) (by omega) K3.out.size ?_; intro a4 c4 w4 O4 G4))
        have e4 : ((rs.take k).map fun r => r.1.1) ++ ((rs.drop (k + 1)).map fun r => r.1.1) = (rs.eraseIdx k).map fun r => r.1.1 := by
          rw [List.eraseIdx_eq_take_drop_succ, List.map_append]
        have K4 : Hid (Keeps [] w w4) := K3.out.grown G4.out (by intro g e; right; exact (O3.out.lt g e).1)
        have R4 : Hid (RowsAt w4 (.slice a4 (k + (rs.length - (k + 1))) c4) (rs.eraseIdx k)) := rows_of_own (B := w.heap.size) (by rw [← e4]; exact O4.out)
        have X4 := rxor_any w4 _ ((rs.eraseIdx k).map (El.keep K4.out)) (R4.out.moved K4.out) (by rw [List.length_map, List.length_eraseIdx]; split <;> omega) (by
          rw [raws_keep, raws_erase]
          exact Nat.le_trans (longest_sub fun q hq => List.mem_of_mem_eraseIdx hq) hb)
        rw [raws_keep] at X4
        have X := hid X4
        have HL := raws_longest (rs.eraseIdx k)
        have HE := hid (raws_erase rs k)
        clear X4 e4
        go_wp2_with fail
        refine X.out.mono ?_
        rintro e w5 ⟨a5, c5, rfl, q1, q2, q3⟩
        have Q1 := hid q1
        have Q3 := hid (K4.out.trans q3)
        have XL := hid (xorL_length (raws (rs.eraseIdx k)))
        clear q1 q2 q3
        by_cases hm : (longest (raws (rs.eraseIdx k)) : Int) < m
        · have hF : fillM (raws rs) k m = none := by unfold fillM; rw [if_neg (by rw [Int.toNat_natCast, ← HE.out]; omega)]
          have HF := hid hF
          have hm' : ((xorL (raws (rs.eraseIdx k))).length : Int) < m := by rw [XL.out]; exact hm
          clear hF hrl hm
          go_wp2_with fail
          go_ret2
          rw [HF.out]
          exact FillPost.none Q3.out
        · have hF : fillM (raws rs) k m = some (xorN m (raws (rs.eraseIdx k))) := by
            unfold fillM
            rw [if_pos (by rw [Int.toNat_natCast, ← HE.out]; omega), Int.toNat_natCast, Int.toNat_natCast, HE.out]
          have HF := hid hF
          have hm' : (m : Int) ≤ ((xorL (raws (rs.eraseIdx k))).length : Int) := by rw [XL.out]; omega
          obtain ⟨a6, t0, t1, t2, _⟩ := row_take Q1.out m (by omega)
          have T6 := hid (t2 w5 Q1.out)
          clear hF hrl t2
          go_wp2_with fail
          go_ret2
          have e : (xorL (raws (rs.eraseIdx k))).take m = xorN m (raws (rs.eraseIdx k)) := xorN_take _ _ _ (by omega)
          rw [e] at T6
          have HN := xorN_length m (raws (rs.eraseIdx k))
          rw [HF.out]
          refine ⟨a6, c5, ?_, ?_, Q3.out⟩
          · show Ending.returned _ = Ending.returned (.tuple #[.slice a6 (xorN m (raws (rs.eraseIdx k))).length c5, _])
            rw [HN]; rfl
          · show RowAt _ (.slice a6 (xorN m (raws (rs.eraseIdx k))).length c5) (xorN m (raws (rs.eraseIdx k)))
            rw [HN]; exact T6.out

set_option maxHeartbeats 1000000 in
theorem rholds_any (w : World) (v : Value) (rs : List (El w)) (hR : RowsAt w v rs) (hl : rs.length ≤ 1099511627776) (hb : longest (raws rs) ≤ 1099511627776) :
    Calls Try.prog 45 #[v] w fun e w' => e = .returned (.bool (zeroB (xorL (raws rs)))) ∧ Keeps [] w w' := by
  have HX := hid (rxor_any w v rs hR hl hb)
  have HL := hid (raws_longest rs)
  have XL := hid (xorL_length (raws rs))
  obtain ⟨a, cap, rfl, z⟩ := hR
  clear z
  go_enter Try.func45, Try.ntmps45
  go_wp2_with fail
  refine HX.out.mono ?_
  rintro e w2 ⟨a2, c2, rfl, q1, q2, q3⟩
  have HR := hid q1
  have Q3 := hid q3
  have hzl : (xorL (raws rs)).length ≤ 140737488351232 := by rw [XL.out]; exact HL.out
  obtain ⟨zs, hz⟩ : ∃ zs, xorL (raws rs) = zs := ⟨_, rfl⟩
  rw [hz] at hzl HR
  have HZE := hid hz
  rw [hz]
  clear hz XL HX
  clear q1 q2 q3
  go_wp2_with fail
  go_loop [4] (fun i => ∃ k : Nat, k ≤ zs.length ∧ i = .int .i64 k ∧ Hid (zeroB (zs.take k) = true)) (fun i => zs.length - (intOf i).toNat)
  case atStart => exact ⟨0, Nat.zero_le _, rfl, by simp [Hid, zeroB]⟩
  case round =>
    obtain ⟨k, hk, rfl, HZ⟩ := hrel
    by_cases hlt : k < zs.length
    · obtain ⟨g, o, c, e1, _, hc⟩ := HR.out.open (by omega)
      injection e1 with e1 _ e3
      subst e1; subst e3
      have d1 := hc k hlt
      have HT := hid (take_snoc zs k hlt)
      have HN := hid (fun h => zeroB_take (zs := zs) hlt h)
      clear hc
      generalize zs.getD k 0 = b1 at *
      by_cases hb : b1 = 0
      · subst hb
        go_wp2_with fail
        go_round
        case rel => exact ⟨k + 1, by omega, by go_num, by rw [HT.out]; simp [Hid, zeroB_snoc, HZ.out]⟩
        case measure => simp [intOf]; omega
      · have hb' : (b1 != 0) = true := by simpa using hb
        have HZ2 := hid (HN.out hb)
        clear hb
        go_wp2_with fail
        go_ret
        exact ⟨ret_bool (by rw [HZE.out]; exact HZ2.out.symm), Q3.out⟩
    · have : k = zs.length := by omega
      subst this
      rw [List.take_length] at HZ
      go_wp2_with fail
      go_ret
      exact ⟨ret_bool (by rw [HZE.out]; exact HZ.out.symm), Q3.out⟩
end Go.Proofs.Ytpljhbgnaahmoaa
