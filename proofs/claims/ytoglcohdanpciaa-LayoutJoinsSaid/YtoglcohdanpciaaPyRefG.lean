/- The reference's Fill and Holds. -/
import Derived.Test.YtoglcohdanpciaaPyRefF
import Derived.IntWalk
namespace Go.Proofs.Ytoglcohdanpciaa
open Go.RowKit Go.Shelf

/-- Rows as they are in a later world. -/
def El.keep {w w' : World} (k : Keeps [] w w') (x : El w) : El w' := ⟨x.1, x.2.1.keep k (by intro _ _ _ _ _; simp), x.2.2⟩
theorem raws_keep {w w' : World} (k : Keeps [] w w') (rs : List (El w)) : raws (rs.map (El.keep k)) = raws rs := by
  simp [raws, El.keep, Function.comp_def]
theorem RowsAt.moved {w w' w2 : World} {v : Value} {rs : List (El w)} (k : Keeps [] w w') (h : RowsAt w2 v rs) : RowsAt w2 v (rs.map (El.keep k)) := by
  obtain ⟨a, cap, rfl, h1, h2, h3, h5⟩ := h
  refine ⟨a, cap, by simp, by simpa using h1, h2, h3, fun ad had j u hu => h5 ad had j u ?_⟩
  rw [← hu, List.map_map]
  rfl

theorem RowsAt.parts {w0 w : World} {a : Option Addr} {len cap : Nat} {rs : List (El w0)} (h : RowsAt w (.slice a len cap) rs) :
    rs.length = len ∧ len ≤ cap ∧ (a = none → cap = 0) ∧ ∀ ad, a = some ad → ∀ j u, (rs.map fun r => r.1.1)[j]? = some u → w.cell? (ad.add j) = some u := by
  obtain ⟨a', cap', e, h1, h2, h3, h5⟩ := h
  injection e with e1 e2 e3
  subst e1; subst e2; subst e3
  exact ⟨rfl, h1, h3, h5⟩

theorem heads_one {w0 : World} (rs : List (El w0)) : ∀ u ∈ rs.map (fun r => r.1.1), u.oneCell' = true := by
  intro u hu
  obtain ⟨x, _, rfl⟩ := List.mem_map.1 hu
  obtain ⟨a, cap, h⟩ := x.slice
  rw [h]; rfl

/-- Rows whose heads the call owns. -/
theorem rows_of_own {w0 w : World} {B : Nat} {a : Option Addr} {n cap : Nat} {rs : List (El w0)} (h : w.ownsRow B 34 1 (.slice a n cap) n (rs.map fun r => r.1.1)) : RowsAt w (.slice a n cap) rs := by
  have hl : rs.length = n := by simpa using h.1
  rcases h.2 with ⟨h', h0⟩ | ⟨g, cap', cur, h', hb, hg, hnc, hcm, hcs, ht⟩
  · injection h' with h1 h2 h3
    subst h1; subst h3; subst h0
    exact ⟨none, 0, by rw [hl], by omega, by simp, fun _ => rfl, by simp⟩
  · injection h' with h1 h2 h3
    subst h1; subst h3
    refine ⟨_, cap, by rw [hl], by omega, hcm, by simp, ?_⟩
    rintro ad had j u hu
    obtain rfl := Option.some.inj had
    exact h.cells (g := g) rfl j u hu

set_option maxHeartbeats 1000000 in
theorem rholds_any (w : World) (v : Value) (rs : List (El w)) (hR : RowsAt w v rs) (hl : rs.length ≤ 1099511627776) (hb : longest (raws rs) ≤ 1099511627776) :
    Calls Try.prog 122 #[v] w fun e w' => e = .returned (.bool (zeroB (xorL (raws rs)))) ∧ Keeps [] w w' := by
  have HX := hid (rxor_any w v rs hR hl hb)
  have HL := hid (raws_longest rs)
  have XL := hid (xorL_length (raws rs))
  obtain ⟨a, cap, rfl, z⟩ := hR
  clear z
  go_enter Try.func122, Try.ntmps122
  go_wp2_with fail
  refine HX.out.mono ?_
  rintro e w2 ⟨a2, c2, rfl, q1, q2, q3⟩
  have HR := hid q1
  have Q3 := hid q3
  have hzl : (xorL (raws rs)).length ≤ 140737488351232 := by rw [XL.out]; exact HL.out
  obtain ⟨zs, hz⟩ : ∃ zs, xorL (raws rs) = zs := ⟨_, rfl⟩
  rw [hz] at hzl HR
  have HZE := hid hz
  rw [hz]
  clear hz XL HX
  clear q1 q2 q3
  go_wp2_with fail
  go_loop [4] (fun i => ∃ k : Nat, k ≤ zs.length ∧ i = .int .i64 k ∧ Hid (zeroB (zs.take k) = true)) (fun i => zs.length - (intOf i).toNat)
  case atStart => exact ⟨0, Nat.zero_le _, rfl, by simp [Hid, zeroB]⟩
  case round =>
    obtain ⟨k, hk, rfl, HZ⟩ := hrel
    by_cases hlt : k < zs.length
    · obtain ⟨g, o, c, e1, _, hc⟩ := HR.out.open (by omega)
      injection e1 with e1 _ e3
      subst e1; subst e3
      have d1 := hc k hlt
      have HT := hid (take_snoc zs k hlt)
      have HN := hid (fun h => zeroB_take (zs := zs) hlt h)
      clear hc
      generalize zs.getD k 0 = b1 at *
      by_cases hb : b1 = 0
      · subst hb
        go_wp2_with fail
        go_round
        case rel => exact ⟨k + 1, by omega, by go_num, by rw [HT.out]; simp [Hid, zeroB_snoc, HZ.out]⟩
        case measure => simp [intOf]; omega
      · have hb' : (b1 != 0) = true := by simpa using hb
        have HZ2 := hid (HN.out hb)
        clear hb
        go_wp2_with fail
        go_ret
        exact ⟨ret_bool (by rw [HZE.out]; exact HZ2.out.symm), Q3.out⟩
    · have : k = zs.length := by omega
      subst this
      rw [List.take_length] at HZ
      go_wp2_with fail
      go_ret
      exact ⟨ret_bool (by rw [HZE.out]; exact HZ.out.symm), Q3.out⟩
end Go.Proofs.Ytoglcohdanpciaa
