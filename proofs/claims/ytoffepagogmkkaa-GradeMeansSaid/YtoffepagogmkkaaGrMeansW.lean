/- The walk of the law Means. -/
import Derived.Test.YtoffepagogmkkaaGrN
import Derived.Test.YtoffepagogmkkaaGrApp
namespace Go.Proofs.Ytoffepagogmkkaa
open Go.ChangeShapes Go.WideShapes Go.ChangeAt Go.RowKit

theorem info_float : (Try.prog.info? 23).map (fun i => (i.zero, i.size, i.bytes)) = some (some (.float .f64 0), 1, 8) := by kernel_rfl

theorem I16sAt.open {w : World} {v : Value} {xs : List Int} (h : I16sAt w v xs) (hne : 0 < xs.length) :
    ∃ g off cap, v = .slice (some ⟨g, off, none⟩) xs.length cap ∧ ∀ j (_ : j < xs.length), w.cell? ⟨g, off + j, none⟩ = some (.int .i16 (xs.getD j 0)) := by
  obtain ⟨g, off, cap, e, _, h1⟩ := h.1.open (by simpa using hne)
  refine ⟨g, off, cap, by simpa using e, fun j hj => ?_⟩
  have := h1 j (by simpa using hj)
  rw [this]
  simp [hj]
theorem BoolsAt.open {w : World} {v : Value} {xs : List Bool} (h : BoolsAt w v xs) (hne : 0 < xs.length) :
    ∃ g off cap, v = .slice (some ⟨g, off, none⟩) xs.length cap ∧ ∀ j (_ : j < xs.length), w.cell? ⟨g, off + j, none⟩ = some (.bool (xs.getD j false)) := by
  obtain ⟨g, off, cap, e, _, h1⟩ := CellsAt.open h (by simpa using hne)
  refine ⟨g, off, cap, by simpa using e, fun j hj => ?_⟩
  have := h1 j (by simpa using hj)
  rw [this]
  simp [hj]
theorem I16sAt.slice {w : World} {v : Value} {xs : List Int} (h : I16sAt w v xs) : ∃ a cap, v = .slice a xs.length cap ∧ xs.length ≤ maxLen := by
  obtain ⟨a, cap, e, h1, h2, _⟩ := h.1
  exact ⟨a, cap, by simpa using e, by simp at h1; omega⟩
theorem BoolsAt.slice {w : World} {v : Value} {xs : List Bool} (h : BoolsAt w v xs) : ∃ a cap, v = .slice a xs.length cap ∧ xs.length ≤ maxLen := by
  obtain ⟨a, cap, e, h1, h2, _⟩ := h
  exact ⟨a, cap, by simpa using e, by simp at h1; omega⟩
theorem take_getD (zs : List Int) (k : Nat) (h : k < zs.length) : zs.take (k + 1) = zs.take k ++ [zs.getD k 0] := by
  rw [List.take_succ_eq_append_getElem h, List.getD_eq_getElem?_getD, List.getElem?_eq_getElem h]
  rfl

/-- The row that the law lays: behind k rounds. -/
structure Laid (w wr : World) (zs : List Int) (k : Nat) (a : Option Addr) (n c : Nat) (xs : List Nat) : Prop where
  own : wr.ownsRow w.heap.size 23 1 (.slice a n c) n (xs.map (Value.float .f64))
  len : xs.length = n
  mix : Mix (zs.take k) xs
  few : n ≤ 2 * k
  keep : Keeps [] w wr

theorem Laid.grow {w wr w2 : World} {zs : List Int} {k n c : Nat} {a : Option Addr} {xs : List Nat} (h : Laid w wr zs k a n c xs) {T : TypeId} {u : Value} {n' : Nat} {a' : Option Addr} {c' : Nat}
    (g : ((wr.drewN n').alloc (.cells #[u] T)).grownBy w2 (Value.slice a n c).ownBlock) (_o : w2.ownsRow w.heap.size 23 1 (.slice a' (n + 1) c') (n + 1) (xs.map (Value.float .f64) ++ [u])) : Keeps [] w w2 :=
  ((h.keep.drewN n').alloc _).grown g (by intro q e; right; exact (h.own.lt q e).1)
theorem Laid.int {w wr w2 : World} {zs : List Int} {k n c : Nat} {a : Option Addr} {xs : List Nat} (h : Laid w wr zs k a n c xs) (hk : k < zs.length) {T : TypeId} {a' : Option Addr} {c' : Nat}
    (g : (wr.alloc (.cells #[.float .f64 (floatOfInt .f64 (zs.getD k 0))] T)).grownBy w2 (Value.slice a n c).ownBlock) (o : w2.ownsRow w.heap.size 23 1 (.slice a' (n + 1) c') (n + 1) (xs.map (Value.float .f64) ++ [.float .f64 (floatOfInt .f64 (zs.getD k 0))])) :
    Laid w w2 zs (k + 1) a' (n + 1) c' (xs ++ [fint (zs.getD k 0)]) where
  own := by simpa [floatOfInt_is] using o
  len := by simp [h.len]
  mix := by rw [take_getD zs k hk]; exact h.mix.int _
  few := by have := h.few; omega
  keep := h.grow (n' := 0) g o
theorem Laid.nan {w wr w2 : World} {zs : List Int} {k n c : Nat} {a : Option Addr} {xs : List Nat} (h : Laid w wr zs k a n c xs) (hn : n + 1 ≤ 2 * k) {q n' : Nat} (hq : NanW q) {T : TypeId} {a' : Option Addr} {c' : Nat}
    (g : ((wr.drewN n').alloc (.cells #[.float .f64 q] T)).grownBy w2 (Value.slice a n c).ownBlock) (o : w2.ownsRow w.heap.size 23 1 (.slice a' (n + 1) c') (n + 1) (xs.map (Value.float .f64) ++ [.float .f64 q])) :
    Laid w w2 zs k a' (n + 1) c' (xs ++ [q]) where
  own := by simpa using o
  len := by simp [h.len]
  mix := h.mix.nan hq
  few := hn
  keep := h.grow g o

theorem nan_of_zero {r : Nat} (h : FAns (floatBits .quo .f64 0 0) r) : NanW r := by
  rwa [show floatBits .quo .f64 0 0 = none from by kernel_rfl] at h

theorem Laid.floats {w wr : World} {zs : List Int} {a : Option Addr} {n c : Nat} {xs : List Nat} (h : Laid w wr zs zs.length a n c xs) (hz : Sml zs) : FloatsAt wr (.slice a n c) xs := by
  have hm := h.mix
  rw [List.take_length] at hm
  refine ⟨?_, hm.words hz⟩
  have hl := h.len
  rcases h.own.2 with ⟨e, h0⟩ | ⟨g, cap, cur, e, hb, hg, hnc, hcm, hcs, ht⟩
  · rw [e]
    subst h0
    have : xs = [] := List.eq_nil_of_length_eq_zero hl
    subst this
    exact ⟨none, 0, rfl, by simp, by simp, fun _ => rfl, by simp⟩
  · have e' := e
    injection e' with ea eb ec
    subst ea; subst ec
    refine ⟨_, c, by rw [List.length_map, hl], by rw [List.length_map, hl]; exact hnc, hcm, by simp, ?_⟩
    rintro ad had j u hu
    obtain rfl := Option.some.inj had
    exact h.own.cells (g := g) rfl j u hu

set_option maxRecDepth 100000 in
set_option maxHeartbeats 8000000 in
theorem means_any (w : World) (v u : Value) (zs : List Int) (bs : List Bool) (hZ : I16sAt w v zs) (hB : BoolsAt w u bs) :
    Calls Try.prog 8 #[v, u] w fun e w' => e = .returned (.bool true) ∧ Keeps [] w w' := by
  have HZ := hid hZ
  have HB := hid hB
  have HS := hid (show Sml zs from hZ.2)
  obtain ⟨a, cap, rfl, hm⟩ := hZ.slice
  obtain ⟨a2, cap2, rfl, hm2⟩ := hB.slice
  unfold maxLen at hm hm2
  clear hZ hB
  go_enter Try.func8, Try.ntmps8
  go_wp2_with fail
  refine (awake3_any _).mono ?_
  rintro e w1 ⟨rfl, n1, rfl⟩
  by_cases hl : (60 : Int) < zs.length
  · go_wp2_with fail
    go_ret
    exact ⟨rfl, (Keeps.refl _ _).drewN _⟩
  · by_cases hb : (100 : Int) < bs.length
    · go_wp2_with fail
      go_ret
      exact ⟨rfl, (Keeps.refl _ _).drewN _⟩
    · go_wp2_with fail
      have hl60 : zs.length ≤ 60 := by omega
      obtain ⟨i0, hi0, hz0, hz1, hz2⟩ := info_parts info_float
      have I0 := hid hi0
      have Z0 := hid hz0
      have Z1 := hid hz1
      have Z2 := hid hz2
      clear hi0 hz0 hz1 hz2 hl hb
      go_loopw [6, 7, 8, 9] (fun t lo hi i wr => ∃ (k n c : Nat) (a' : Option Addr) (xs : List Nat), k ≤ zs.length ∧ i = .int .i64 k ∧ lo = .int .i64 (loK zs k) ∧ hi = .int .i64 (hiK zs k) ∧ t = .slice a' n c ∧ Laid w wr zs k a' n c xs) (fun _ _ _ i _ => zs.length - (intOf i).toNat)
      case atStart => exact ⟨0, 0, 0, none, [], Nat.zero_le _, rfl, rfl, rfl, rfl, ⟨World.ownsRow_nil _ _ _ _, rfl, .nil, by omega, (Keeps.refl _ _).drewN _⟩⟩
      case round =>
        obtain ⟨k, n, c, a', xs, hk, rfl, rfl, rfl, rfl, L⟩ := hrel
        have HL := hid L
        have hw := L.keep.size
        have hf := L.few
        clear L
        by_cases hlt : k < zs.length
        · obtain ⟨g, o, cz, e1, hcz⟩ := HZ.out.open (by omega)
          injection e1 with e1 _ e3
          subst e1; subst e3
          have HC := hid (fun W (h : Keeps [] w W) => (World.cell?_of_block (w := w) (a := ⟨g, o + k, none⟩) (h.block _ (World.block_lt_of_cell? _ _ (hcz k hlt)) (by simp))).trans (hcz k hlt))
          clear hcz
          have d1 := HC.out _ HL.out.keep
          obtain ⟨z1, z2⟩ := getD_sml HS.out k
          obtain ⟨l1, l2⟩ := (loK_bd HS.out k).1
          obtain ⟨g1, g2⟩ := (hiK_bd HS.out k).1
          have HLo := hid (show loK zs (k + 1) = if k = 0 ∨ zs.getD k 0 < loK zs k then zs.getD k 0 else loK zs k from rfl)
          have HHi := hid (show hiK zs (k + 1) = if k = 0 ∨ hiK zs k < zs.getD k 0 then zs.getD k 0 else hiK zs k from rfl)
          have HI := hid (fun (w2 : World) (T : TypeId) (a2 : Option Addr) (c2 : Nat) => HL.out.int (w2 := w2) (T := T) (a' := a2) (c' := c2) hlt)
          have HO := hid HL.out.own
          have hb0 : w.heap.size ≤ wr.heap.size := hw
          generalize zs.getD k 0 = z at *
          generalize loK zs k = lo at *
          generalize hiK zs k = hi at *
          have h0 : Hid (k = 0) ∧ ((k : Int) == 0) = true ∨ Hid (¬ k = 0) ∧ ((k : Int) == 0) = false := by
            by_cases h : k = 0
            · exact Or.inl ⟨h, by rw [beq_iff_eq]; omega⟩
            · exact Or.inr ⟨h, by rw [beq_eq_false_iff_ne]; omega⟩
          by_cases hbl : k < bs.length
          · have hbd : decide (k < bs.length) = true := by simpa using hbl
            obtain ⟨gb, ob, cb, e1, hcb⟩ := HB.out.open (by omega)
            injection e1 with e1 _ e3
            subst e1; subst e3
            have HCb := hid (fun W (h : Keeps [] w W) => (World.cell?_of_block (w := w) (a := ⟨gb, ob + k, none⟩) (h.block _ (World.block_lt_of_cell? _ _ (hcb k hbl)) (by simp))).trans (hcb k hbl))
            clear hcb
            generalize bs.getD k false = b at *
            cases b with
            | false =>
              rcases h0 with ⟨K0, k0⟩ | ⟨K0, k0⟩
              all_goals
                go_wp2_with (at_builtin; refine wpList_append_src rfl (.tmp 27) (.tmp 33) 35 rfl w.heap.size 23 i0 (.float .f64 0) 8 Try.underlying35 I0.out Z0.out Z1.out Z2.out rfl (.slice a' n c) n (xs.map (Value.float .f64)) rfl (HO.out.alloc _) (some ⟨wr.heap.size, 0, none⟩) 1 1 [.float .f64 (floatOfInt .f64 z)] rfl rfl (by simp) (by omega) (cell_new wr _ _) (by simp [Value.oneCell']) (by unfold maxLen; omega) (by omega) (by simp; omega) ?_; intro a3 c3 w2 O2 G2; have L2 := hid (HI.out _ _ _ _ G2.out O2.out); have d2 := HC.out _ L2.out.keep; have b2 := HCb.out _ L2.out.keep)
                all_goals
                  go_roundw
                  case rel =>
                    have K := K0.out
                    exact ⟨k + 1, _, _, _, _, by omega, by go_num, congrArg (Value.int .i64) (by rw [HLo.out]; split <;> omega), congrArg (Value.int .i64) (by rw [HHi.out]; split <;> omega), rfl, L2.out⟩
                  case measure => simp [intOf]; omega
            | true =>
              rcases h0 with ⟨K0, k0⟩ | ⟨K0, k0⟩
              all_goals
                go_wp2_with (first | (at_builtin; refine wpList_append_src rfl (.tmp 27) (.tmp 33) 35 rfl w.heap.size 23 i0 (.float .f64 0) 8 Try.underlying35 I0.out Z0.out Z1.out Z2.out rfl (.slice a' n c) n (xs.map (Value.float .f64)) rfl (HO.out.alloc _) (some ⟨wr.heap.size, 0, none⟩) 1 1 [.float .f64 (floatOfInt .f64 z)] rfl rfl (by simp) (by omega) (cell_new wr _ _) (by simp [Value.oneCell']) (by unfold maxLen; omega) (by omega) (by simp; omega) ?_; intro a3 c3 w2 O2 G2; have L2 := hid (HI.out _ _ _ _ G2.out O2.out); have d2 := HC.out _ L2.out.keep; have b2 := HCb.out _ L2.out.keep) | (refine wpList_float rfl .quo (by simp) _ _ _ _ rfl _ _ rfl rfl ?_; intro q m hq; have HN := hid (nan_of_zero hq.out); have O3 := hid L2.out.own; have hs2 := L2.out.keep.size) | (at_builtin; refine wpList_append_src rfl (.tmp 45) (.tmp 49) 35 rfl w.heap.size 23 i0 (.float .f64 0) 8 Try.underlying35 I0.out Z0.out Z1.out Z2.out rfl (.slice a3 (n + 1) c3) (n + 1) ((xs ++ [fint z]).map (Value.float .f64)) rfl (O3.out.alloc _) (some ⟨w2.heap.size, 0, none⟩) 1 1 [.float .f64 q] rfl rfl (by simp) (by omega) (cell_new (w2.drewN m) _ _) (by simp [Value.oneCell']) (by unfold maxLen; omega) (by omega) (by simp; omega) ?_; intro a4 c4 w4 O4 G4; have L4 := hid (L2.out.nan (by omega) HN.out G4.out O4.out); have d4 := HC.out _ L4.out.keep))
                all_goals
                  go_roundw
                  case rel =>
                    have K := K0.out
                    exact ⟨k + 1, _, _, _, _, by omega, by go_num, congrArg (Value.int .i64) (by rw [HLo.out]; split <;> omega), congrArg (Value.int .i64) (by rw [HHi.out]; split <;> omega), rfl, L4.out⟩
                  case measure => simp [intOf]; omega
          · have hbd : decide (k < bs.length) = false := by simpa using hbl
            rcases h0 with ⟨K0, k0⟩ | ⟨K0, k0⟩
            all_goals
              go_wp2_with (at_builtin; refine wpList_append_src rfl (.tmp 27) (.tmp 33) 35 rfl w.heap.size 23 i0 (.float .f64 0) 8 Try.underlying35 I0.out Z0.out Z1.out Z2.out rfl (.slice a' n c) n (xs.map (Value.float .f64)) rfl (HO.out.alloc _) (some ⟨wr.heap.size, 0, none⟩) 1 1 [.float .f64 (floatOfInt .f64 z)] rfl rfl (by simp) (by omega) (cell_new wr _ _) (by simp [Value.oneCell']) (by unfold maxLen; omega) (by omega) (by simp; omega) ?_; intro a3 c3 w2 O2 G2; have L2 := hid (HI.out _ _ _ _ G2.out O2.out); have d2 := HC.out _ L2.out.keep)
              all_goals
                go_roundw
                case rel =>
                  have K := K0.out
                  exact ⟨k + 1, _, _, _, _, by omega, by go_num, congrArg (Value.int .i64) (by rw [HLo.out]; split <;> omega), congrArg (Value.int .i64) (by rw [HHi.out]; split <;> omega), rfl, L2.out⟩
                case measure => simp [intOf]; omega
        · obtain rfl : k = zs.length := by omega
          have HF := hid (HL.out.floats HS.out)
          have HM := hid (show Mix zs xs by have := HL.out.mix; rwa [List.take_length] at this)
          have HK := hid HL.out.keep
          clear HL hf hw hlt
          by_cases hp : 0 < zs.length
          · obtain ⟨g, o, cz, e1, hcz⟩ := HZ.out.open (by omega)
            injection e1 with e1 _ e3
            subst e1; subst e3
            have d1 : wr.cell? ⟨g, o, none⟩ = some (.int .i16 (zs.getD 0 0)) := (World.cell?_of_block (w := w) (a := ⟨g, o, none⟩) (HK.out.block _ (World.block_lt_of_cell? _ _ (hcz 0 hp)) (by simp))).trans (hcz 0 hp)
            obtain ⟨z0, hz⟩ : ∃ z0, z0 = zs.getD 0 0 := ⟨_, rfl⟩
            rw [← hz] at d1
            have HZ0 := hid hz
            clear hcz hz
            have hz0 : ((zs.length : Int) == 0) = false := by rw [beq_eq_false_iff_ne]; omega
            go_wp2_with fail
            refine (mean_any _ _ _ HF.out).mono ?_
            rintro e w5 ⟨r, m, rfl, hr, rfl⟩
            have F := mean_facts HM.out HS.out hl60 hp hr
            have f1 := F.ge
            have f2 := F.le
            by_cases h1 : zs.length = 1
            · have f3 := F.one h1
              rw [← HZ0.out] at f3
              have f4 : (FloatKind.f64.format.order r (floatOfInt .f64 z0) == some .eq) = true := by rw [f3]; rfl
              have F4 := hid f4
              clear f3 f4
              have h1' : decide ((1 : Int) < zs.length) = false := by simp; omega
              have H1 := hid h1
              clear F hr h1
              go_wp2_with fail
              go_ret
              exact ⟨congrArg (fun q => Ending.returned (.bool q)) F4.out, HK.out.drewN _⟩
            · have h1' : decide ((1 : Int) < zs.length) = true := by simp; omega
              clear F hr h1
              go_wp2_with fail
              go_ret
              exact ⟨rfl, HK.out.drewN _⟩
          · have h0 : zs = [] := List.eq_nil_of_length_eq_zero (by omega)
            subst h0
            simp only [List.length_nil] at *
            go_wp2_with fail
            refine (mean_any _ _ _ HF.out).mono ?_
            rintro e w5 ⟨r, m, rfl, hr, rfl⟩
            have f1 := mean_none HM.out hr
            clear hr
            go_wp2_with fail
            go_ret
            exact ⟨rfl, HK.out.drewN _⟩
end Go.Proofs.Ytoffepagogmkkaa
