/- The reference's Xor. -/
import Derived.Test.YtoglcohdanpciaaPyHolds
import Derived.Test.YtoglcohdanpciaaApp
namespace Go.Proofs.Ytoglcohdanpciaa
open Go.RowKit Go.Shelf

/-- A row that the call owns, nil or not: n bytes. -/
abbrev OwnN (w : World) (B : Nat) (v : Value) (n : Nat) (xs : List Int) : Prop := w.ownsRow B 5 1 v n (xs.map (Value.int .u8))

def lenV : Value → Nat
  | .slice _ n _ => n
  | _ => 0

/-- A row that is not empty lies at its block's head. -/
theorem own_form {w : World} {B : Nat} {a : Option Addr} {n m cap : Nat} {xs : List Int} (h : OwnN w B (.slice a n cap) m xs) (hn : 0 < m) : ∃ g, a = some ⟨g, 0, none⟩ := by
  rcases h.2 with ⟨h', h0⟩ | ⟨g, cap', cur, h', _⟩
  · omega
  · injection h' with h1 h2
    exact ⟨g, h1⟩
theorem own_row {w : World} {B : Nat} {v : Value} {n : Nat} {xs : List Int} (h : OwnN w B v n xs) (hx : ∀ z ∈ xs, byteB z) : RowAt w v xs := by
  have hl : xs.length = n := by simpa using h.1
  subst hl
  exact row_of_own h hx
theorem own_new {w : World} {B : Nat} {a : Option Addr} {n m cap : Nat} {xs : List Int} (h : OwnN w B (.slice a n cap) m xs) : ∀ ad, a = some ad → B ≤ ad.block := by
  rintro ad rfl
  exact (h.lt ad.block rfl).1

theorem zero_cell (w : World) (T : TypeId) : RowAt (w.alloc (.cells #[.int .u8 0] T)) (.slice (some ⟨w.heap.size, 0, none⟩) 1 1) [0] := by
  have := row_lit (w := w) [0] T (by decide) 1 rfl (by unfold maxLen; omega)
  simpa using this

theorem Keeps.own {w w1 w2 : World} {B : Nat} {v : Value} {n : Nat} {xs : List Value} (k : Keeps [] w w1) (ho : w1.ownsRow B 5 1 v n xs) (hg : w1.grownBy w2 v.ownBlock) (hB : w.heap.size ≤ B) : Keeps [] w w2 :=
  k.grown hg (fun g e => Or.inr (by have := (ho.lt g e).1; omega))

theorem raws_take {w0 : World} (rs : List (El w0)) (k : Nat) (h : k < rs.length) : raws (rs.take (k + 1)) = raws (rs.take k) ++ [rs[k].1.2] := by
  rw [List.take_succ_eq_append_getElem h, raws_snoc]

set_option maxRecDepth 100000 in
set_option maxHeartbeats 4000000 in
theorem rxor_any (w : World) (v : Value) (rs : List (El w)) (hR : RowsAt w v rs) (hl : rs.length ≤ 1099511627776) (hb : longest (raws rs) ≤ 1099511627776) :
    Calls Try.prog 115 #[v] w (RowPost w (xorL (raws rs))) := by
  have HR := hid hR
  obtain ⟨i0, hi, hz0, hz1, hz2⟩ := info_parts info5
  have HI := hid hi
  have HZ0 := hid hz0
  have HZ1 := hid hz1
  have HZ2 := hid hz2
  clear hi hz0 hz1 hz2
  obtain ⟨a, cap, rfl, z⟩ := hR
  clear z
  go_enter Try.func115, Try.ntmps115
  go_wp2_with fail
  go_loopw [3, 4] (fun t i wr => ∃ (k : Nat) (va : Option Addr) (vc : Nat) (xs : List Int), i = .int .i64 k ∧ k ≤ rs.length ∧ t = .slice va xs.length vc ∧ Hid (xs = xorL (raws (rs.take k))) ∧ Hid (OwnN wr w.heap.size (.slice va xs.length vc) xs.length xs) ∧ Hid (Keeps [] w wr))
    (fun _ i _ => rs.length - (intOf i).toNat)
  case atStart => exact ⟨0, none, 0, [], rfl, Nat.zero_le _, rfl, by simp [Hid, raws, xorL, xorN, longest], World.ownsRow_nil _ _ _ _, Keeps.refl _ _⟩
  case round =>
    obtain ⟨k, va, vc, xs, rfl, hk, rfl, HX, HO, HK⟩ := hrel
    by_cases hlt : k < rs.length
    · obtain ⟨g, o, c, e1, _, _⟩ := HR.out.open (by omega)
      injection e1 with e1 _ e3
      subst e1; subst e3
      have HC : Hid (∀ w', Keeps [] w w' → w'.cell? ⟨g, o + k, none⟩ = some rs[k].1.1) := by
        intro w' hk'
        obtain ⟨g', o', c', e1, _, hc⟩ := (HR.out.keep hk').open (by omega)
        injection e1 with e1 _ _
        injection e1 with e1
        injection e1 with e1 e2
        subst e1; subst e2
        exact hc k hlt
      have HT := hid (raws_take rs k hlt)
      have HXL : Hid (xs.length ≤ 1099511627776) := by
        rw [Hid, HX.out, xorL_length]
        refine Nat.le_trans (longest_sub fun q hq => ?_) hb
        simp only [raws, List.mem_map] at hq ⊢
        obtain ⟨x, hx, rfl⟩ := hq
        exact ⟨x, List.mem_of_mem_take hx, rfl⟩
      obtain ⟨a2, c2, hx⟩ := rs[k].slice
      have HRow := hid rs[k].2.1
      have hr : rs[k].1.2.length ≤ 1099511627776 := Nat.le_trans (le_longest (by simp only [raws, List.mem_map]; exact ⟨rs[k], List.getElem_mem hlt, rfl⟩)) hb
      rw [hx] at HC HRow
      clear hx
      generalize rs[k].1.2 = r at *
      have d1 := HC.out wr HK.out
      go_wp2_with fail
      go_loopw [3] (fun t wr2 => ∃ (c : Nat) (va : Option Addr) (vc : Nat), t = .slice va (xs.length + c) vc ∧ (c = 0 ∨ xs.length + c ≤ r.length) ∧ Hid (OwnN wr2 w.heap.size (.slice va (xs.length + c) vc) (xs.length + c) (xs ++ List.replicate c 0)) ∧ Hid (Keeps [] w wr2))
        (fun t _ => r.length - lenV t)
      case atStart => exact ⟨0, va, vc, rfl, Or.inl rfl, by simpa [Hid] using HO.out, HK⟩
      case round =>
        obtain ⟨c, va, vc, rfl, hc, HO2, HK2⟩ := hrel
        have d1 := HC.out wr HK2.out
        by_cases hlt2 : xs.length + c < r.length
        · have RZ := hid (zero_cell wr 5)
          have HO3 := hid (HO2.out.alloc (.cells #[.int .u8 0] 5))
          have hsz := HK2.out.size
          go_wp2_with (at_builtin; refine wpList_append_row rfl _ _ 34 rfl w.heap.size 5 i0 (.int .u8 0) Try.underlying34 HI.out HZ0.out HZ1.out HZ2.out rfl (.slice va (xs.length + c) vc) (xs.length + c) ((xs ++ List.replicate c 0).map (Value.int .u8)) rfl HO3.out _ [0] rfl RZ.out (by rw [List.length_singleton]; omega) (by rw [World.size_alloc]; omega) ?_; intro a' c' w1 k1 k2 k3; simp only [List.length_singleton] at k1 k3 ⊢)
          go_roundw
          case rel =>
            refine ⟨c + 1, a', c', rfl, Or.inr (by omega), ?_, Keeps.own (HK2.out.alloc _) HO3.out k2.out (Nat.le_refl _)⟩
            have := k1.out
            rw [← List.map_append, List.append_assoc, ← List.replicate_succ'] at this
            exact this
          case measure => simp [lenV]; omega
        · have HC0 : Hid (xs ++ List.replicate c 0 = xs ++ List.replicate (r.length - xs.length) (0 : Int)) := by
            have : c = r.length - xs.length := by omega
            rw [this, Hid]
          have HYB : Hid (∀ z ∈ xs ++ List.replicate c (0 : Int), byteB z) := by
            intro z hz
            rcases List.mem_append.1 hz with hz | hz
            · rw [HX.out] at hz; exact xorL_byte (raws_byte _) z hz
            · rw [(List.mem_replicate.1 hz).2]; exact byte_zero
          have HYL := hid (show (xs ++ List.replicate c (0 : Int)).length = xs.length + c by simp)
          generalize xs ++ List.replicate c (0 : Int) = ys at *
          go_wp2_with fail
          go_loopw [5] (fun t wr3 => ∃ j : Nat, t = .int .i64 j ∧ j ≤ r.length ∧ Hid (OwnN wr3 w.heap.size (.slice va (xs.length + c) vc) (xs.length + c) (mixK ys r j)) ∧ Hid (Keeps [] w wr3))
            (fun t _ => r.length - (intOf t).toNat)
          case atStart => exact ⟨0, rfl, by omega, by rw [mixK_zero]; exact HO2, HK2⟩
          case round =>
            obtain ⟨j, rfl, hj, HO3, HK3⟩ := hrel
            have d1 := HC.out wr HK3.out
            by_cases hlt3 : j < r.length
            · obtain ⟨g1, h1⟩ := own_form HO3.out (by omega)
              subst h1
              obtain ⟨g2, o2, c3, e1, _, hc2⟩ := (HRow.out.keep HK3.out (by intro _ _ _ _ _; simp)).open (by omega)
              injection e1 with e1 _ e3
              subst e1; subst e3
              have d2 := hc2 j hlt3
              have d3 := Owned.cell HO3.out (j := j) (by omega)
              have d4 := World.ownsRow.frozenAt HO3.out j
              have HB := hid (bx_is (getD_byte HYB.out j) (getD_byte HRow.out.bytes j))
              have HM := mixK_getD ys r j j (by have := HYL.out; omega)
              rw [HM, if_neg (Nat.lt_irrefl j)] at d3
              have HS := hid (mixK_set ys r j)
              have hsz := hid HK3.out.size
              have hg1 := hid (HO3.out.lt g1 rfl)
              clear HM hc2
              generalize ys.getD j 0 = b1 at *
              generalize r.getD j 0 = b2 at *
              go_wp2_with fail
              go_region
              all_goals
                go_wp2_with fail
                go_roundw
                case rel =>
                  refine ⟨j + 1, by go_num, by omega, ?_, (HK3.out.setCell (p := ⟨g1, j, none⟩) (Or.inr hg1.out.1) _).drew⟩
                  rw [HB.out, ← HS.out]
                  exact Owned.set (show Owned _ w.heap.size g1 (xs.length + c) vc (mixK ys r j) from HO3.out) j _
                case measure => simp [intOf]; omega
            · have e : mixK ys r j = xorL (raws (rs.take (k + 1))) := by
                rw [mixK_all ys r j HYB.out (Or.inr (by omega)), HC0.out, HT.out, ← refStep_is, ← HX.out, refStep]
              have HE := hid e
              have hml := mixK_length ys r j
              rw [e] at hml
              have HL := hid hml
              clear e hml
              go_wp2_with fail
              go_roundw
              case rel =>
                refine ⟨k + 1, va, vc, xorL (raws (rs.take (k + 1))), by go_num, by omega, ?_, rfl, ?_, HK3⟩
                · rw [HL.out, HYL.out]
                · rw [← HE.out, mixK_length, HYL.out]; exact HO3
              case measure => simp [intOf]; omega
    · have : k = rs.length := by omega
      subst this
      rw [List.take_length] at HX
      have hx := HX.out
      subst hx
      go_wp2_with fail
      go_ret
      exact ⟨va, vc, rfl, own_row HO.out (xorL_byte (raws_byte _)), own_new HO.out, HK.out⟩
end Go.Proofs.Ytoglcohdanpciaa
