/- blocks: the walk of the law BlocksMoves. -/
import Derived.Test.YtdfhoanilbfkiaaBkCutsW
import Derived.Test.YtdfhoanilbfkiaaBkP
namespace Go.Proofs.Ytdfhoanilbfkiaa
open Go.RowKit Go.Shelf
set_option maxRecDepth 100000
set_option linter.unusedSimpArgs false

def mvL (b : Nat) (x : Pt) : List Pt := List.replicate b pZ ++ [x]
def mvS (b : Nat) (x : Pt) : Bk := ⟨(b : Int) * 64 + 1, mvL b x⟩
theorem mv_len (b : Nat) (x : Pt) : (mvL b x).length = b + 1 := by simp [mvL]
theorem mv_at (b : Nat) (x : Pt) : atB (mvL b x) (b : Int) = x := by
  unfold atB mvL
  rw [if_pos (by omega), Int.toNat_natCast, List.getD_eq_getElem?_getD, List.getElem?_append_right (by simp)]
  simp
theorem mv_set (b : Nat) (x y : Pt) : (mvL b x).set b y = mvL b y := by
  unfold mvL
  rw [List.set_append_right _ _ (by simp)]
  simp
theorem mv_first (b : Nat) (x : Pt) (hb : b < 64) (hm : mayP x = true) : mayD bk0 ⟨1, 2, (b : Int), (b : Int) * 64 + 1, x, pZ⟩ = true ∧ stepD bk0 ⟨1, 2, (b : Int), (b : Int) * 64 + 1, x, pZ⟩ = mvS b x := by
  have h1 : mayD bk0 ⟨1, 2, (b : Int), (b : Int) * 64 + 1, x, pZ⟩ = true := by
    unfold mayD
    simp only [if_true, hm, Bool.and_true]
    rw [Bool.and_eq_true]
    exact ⟨btw_is.2 ⟨by omega, by omega⟩, btw_is.2 ⟨by omega, by omega⟩⟩
  refine ⟨h1, ?_⟩
  unfold stepD
  rw [if_pos h1]
  unfold doD
  simp only [if_true]
  have e1 : max bk0.sz ((b : Int) * 64 + 1) = (b : Int) * 64 + 1 := by show max 0 _ = _; omega
  rw [e1]
  have e2 : cnt ((b : Int) * 64 + 1) = b + 1 := by unfold cnt; omega
  rw [e2, Int.toNat_natCast]
  have e3 : fitL bk0.L (b + 1) = mvL b pZ := by
    show [].take (b + 1) ++ List.replicate (b + 1 - 0) pZ = _
    simp [mvL, List.replicate_succ']
  rw [e3, mv_set]
  rfl
theorem mv_may (b : Nat) (x y : Pt) (hx : zB x = false) (hy : mayP y = true) : mayD (mvS b x) ⟨3, 2, (b : Int), 0, y, x⟩ = (y.k == x.k) := by
  unfold mayD
  simp only [show ¬ ((3 : Int) = 1) by decide, show ¬ ((3 : Int) = 2) by decide, if_false, if_true]
  show (!zB x && eqP (atB (mvL b x) (b : Int)) x && mayP y && _) = _
  rw [hx, mv_at, eqP_is.2 rfl, hy]
  simp
theorem mv_step (b : Nat) (x y : Pt) (hx : zB x = false) (hy : mayP y = true) (hk : (y.k == x.k) = true) : stepD (mvS b x) ⟨3, 2, (b : Int), 0, y, x⟩ = mvS b y := by
  unfold stepD
  rw [mv_may b x y hx hy, hk, if_pos rfl]
  unfold doD
  simp only [show ¬ ((3 : Int) = 1) by decide, show ¬ ((3 : Int) = 2) by decide, if_false]
  show Bk.mk _ ((mvL b x).set (b : Int).toNat y) = _
  rw [Int.toNat_natCast, mv_set]
  rfl
theorem mv_stay (b : Nat) (x y : Pt) (hx : zB x = false) (hy : mayP y = true) (hk : (y.k == x.k) = false) : stepD (mvS b x) ⟨3, 2, (b : Int), 0, y, x⟩ = mvS b x ∧ goneD (mvS b x) ⟨3, 2, (b : Int), 0, y, x⟩ = [] := by
  unfold stepD goneD
  rw [mv_may b x y hx hy, hk]
  exact ⟨rfl, rfl⟩
theorem gone_noughts (has : List Pt) : ∀ b, (List.replicate b pZ).foldl (goneS has) [] = []
  | 0 => rfl
  | b + 1 => by
    rw [List.replicate_succ, List.foldl_cons]
    have : goneS has [] pZ = [] := by unfold goneS; rw [show zB pZ = true by decide]; rfl
    rw [this]
    exact gone_noughts has b
theorem mv_gone (b : Nat) (x y : Pt) (hx : zB x = false) (hy : mayP y = true) (hk : (y.k == x.k) = true) (hxy : x ≠ y) : goneD (mvS b x) ⟨3, 2, (b : Int), 0, y, x⟩ = [x] := by
  unfold goneD
  rw [mv_may b x y hx hy, hk, if_pos rfl]
  have e := mv_step b x y hx hy hk
  unfold stepD at e
  rw [mv_may b x y hx hy, hk, if_pos rfl] at e
  rw [e]
  show goneL (mvL b x) (mvL b y) = [x]
  unfold goneL
  have hn : hasP (mvL b y) x = false := by
    cases hq : hasP (mvL b y) x with
    | false => rfl
    | true =>
      have := hasP_is.1 hq
      unfold mvL at this
      rcases List.mem_append.1 this with h | h
      · have := List.eq_of_mem_replicate h
        subst this
        exact absurd hx (by decide)
      · exact absurd (by simpa using h) hxy
  conv => lhs; rw [show mvL b x = List.replicate b pZ ++ [x] from rfl]
  rw [List.foldl_append, gone_noughts]
  show goneS (mvL b y) [] x = [x]
  unfold goneS
  rw [hx, hn]
  rfl
theorem mv_late (b : Nat) (x y : Pt) (hxy : x ≠ y) : mayD (mvS b y) ⟨3, 2, (b : Int), 0, y, x⟩ = false ∧ stepD (mvS b y) ⟨3, 2, (b : Int), 0, y, x⟩ = mvS b y := by
  have h1 : mayD (mvS b y) ⟨3, 2, (b : Int), 0, y, x⟩ = false := by
    unfold mayD
    simp only [show ¬ ((3 : Int) = 1) by decide, show ¬ ((3 : Int) = 2) by decide, if_false, if_true]
    show (!zB x && eqP (atB (mvL b y) (b : Int)) x && mayP y && _) = _
    rw [mv_at]
    have : eqP y x = false := by
      cases hq : eqP y x with
      | false => rfl
      | true => exact absurd (eqP_is.1 hq).symm hxy
    rw [this]
    simp
  refine ⟨h1, ?_⟩
  unfold stepD
  rw [h1]
  rfl
theorem mv_ptrs (b : Nat) (x : Pt) (hx : zB x = false) : (mvL b x).filter keepZ = [x] := by
  unfold mvL
  rw [List.filter_append]
  have e : (List.replicate b pZ).filter keepZ = [] := by
    rw [List.filter_eq_nil_iff]
    intro y hy
    rw [List.eq_of_mem_replicate hy]
    decide
  rw [e]
  simp [keepZ, hx]
theorem dl_one (x : Dl) : x.cells.toArray.all (·.oneCell') = true := by simp [Dl.cells, Pt.cells, Value.oneCell']

/-- The pointers ahead of k may be, are not zero, are unlike. -/
def Fine (l : List Pt) (k : Nat) : Prop := (∀ i (h : i < l.length), i < k → mayP l[i] = true ∧ zB l[i] = false) ∧ ∀ i j (hi : i < l.length) (hj : j < l.length), i < j → j < k → l[i] ≠ l[j]
theorem Fine.next {l : List Pt} {k : Nat} (h : Fine l k) (hk : k < l.length) (h1 : mayP l[k] = true) (h2 : zB l[k] = false) (h3 : ∀ i (hi : i < l.length), i < k → l[i] ≠ l[k]) : Fine l (k + 1) := by
  refine ⟨fun i hi hik => ?_, fun i j hi hj hij hjk => ?_⟩
  · by_cases e : i = k
    · subst e; exact ⟨h1, h2⟩
    · exact h.1 i hi (by omega)
  · by_cases e : j = k
    · subst e; exact h3 i hi hij
    · exact h.2 i j hi hj hij (by omega)

set_option maxHeartbeats 12800000 in
theorem m11Moves_any (w : World) (z : Int) (hz : 0 ≤ z ∧ z ≤ 255) (v : Value) (l : List Pt) (hv : PinAt w v l) : Calls Try.prog 9 #[.int .u8 z, v] w fun e w' => e = .returned (.bool true) ∧ Keeps [] w w' := by
  have HV := hid hv
  have HZ := hid hz
  obtain ⟨ad, c, rfl⟩ := hv.shape
  clear hv hz
  by_cases hlen : 1 ≤ l.length ∧ l.length ≤ 30
  rotate_left
  · have HL := hid hlen
    clear hlen
    by_cases h1 : l.length < 1
    · have h1' : decide ((l.length : Int) < 1) = true := decide_eq_true (by omega)
      have h1'' : decide (l.length < 1) = true := decide_eq_true (by omega)
      clear h1
      go_enter Try.func9, Try.ntmps9
      go_wp2_with fail
      refine (bkAwake_any w).mono ?_
      rintro e w1 ⟨rfl, k1⟩
      have K1 := hid k1
      clear k1
      go_wp2_with fail
      go_ret
      exact ⟨rfl, K1.out⟩
    · have h1' : decide ((l.length : Int) < 1) = false := decide_eq_false (by omega)
      have h2 : decide ((30 : Int) < l.length) = true := decide_eq_true (by have := HL.out; omega)
      clear h1
      go_enter Try.func9, Try.ntmps9
      go_wp2_with fail
      refine (bkAwake_any w).mono ?_
      rintro e w1 ⟨rfl, k1⟩
      have K1 := hid k1
      clear k1
      go_wp2_with fail
      go_ret
      exact ⟨rfl, K1.out⟩
  have h1' : decide ((l.length : Int) < 1) = false := decide_eq_false (by omega)
  have h2 : decide ((30 : Int) < l.length) = false := decide_eq_false (by omega)
  have HL := hid hlen
  obtain ⟨b, hb⟩ : ∃ b : Nat, z % 64 = (b : Int) := ⟨(z % 64).toNat, by have := HZ.out; omega⟩
  have hb64 : b < 64 := by omega
  obtain ⟨z0, z1⟩ := HZ.out
  clear hlen
  go_enter Try.func9, Try.ntmps9
  go_wp2_with fail
  refine (bkAwake_any w).mono ?_
  rintro e w1 ⟨rfl, k1⟩
  have K1 := hid k1
  clear k1
  have B0 := hid (bk_new w1 [])
  have K0 : Hid (Keeps [] w1 (w1.alloc (.cells #[.bool true, .int .i64 0, .slice none 0 0] 66))) := hid ((Keeps.refl [] w1).alloc _)
  have N := hid (zNew_any w1)
  go_wp2_with fail
  rw [hb]
  clear h1' h2 hb z0 z1
  refine N.out.mono ?_
  rintro e w2 ⟨rfl, hw⟩
  rw [← hw] at B0 K0
  clear hw N
  obtain ⟨m, hm⟩ : ∃ m, m = w1.heap.size := ⟨_, rfl⟩
  have K2 := hid (K1.out.trans K0.out)
  have HWM := hid (show w.heap.size ≤ m by rw [hm]; exact K1.out.size)
  rw [← hm] at B0 ⊢
  clear hm K0 K1
  go_wp2_with fail
  go_loopw [7] (fun iv wr => ∃ i : Nat, iv = .int .i64 i ∧ i ≤ l.length ∧ Fine l i ∧ Keeps [] w2 wr) (fun iv _ => l.length - (intOf iv).toNat)
  case atStart => exact ⟨0, rfl, Nat.zero_le _, ⟨fun _ _ h => absurd h (Nat.not_lt_zero _), fun _ _ _ _ _ h => absurd h (Nat.not_lt_zero _)⟩, Keeps.refl _ _⟩
  case round =>
    obtain ⟨i, rfl, hi, hfine, hkp⟩ := hrel
    have FN := hid hfine
    have K := hid hkp
    clear hkp hfine
    by_cases hlt : i < l.length
    · have hi30 : i < 30 := by have := HL.out; omega
      obtain ⟨g, off, rfl, hg, hr⟩ := (HV.out.keep (K2.out.trans K.out)).at i hlt
      obtain ⟨y, hy⟩ : ∃ y, y = l[i] := ⟨_, rfl⟩
      rw [← hy] at hr
      have R := hid hr
      have HY := hid hy
      have ka : Keeps [] wr (wr.alloc (.cells y.cells.toArray 28)) := (Keeps.refl [] wr).alloc _
      have KA := hid (K.out.trans ka)
      have RA := hid (range_new wr y.cells 28)
      clear hr hg hy ka
      go_wp2_with (first | (refine wpList_isW rfl _ _ (exec_load _ _ _ _ rfl rfl (loadPt_run _ g (off + i * 5) y R.out)) ?_) | (refine wpList_is rfl _ _ (exec_alloc 28 pZ.cells.toArray iPtr2 rfl) ?_) | (refine wpList_noval rfl _ (exec_storeNew 28 _ _ rfl wr pZ.cells.toArray y.cells.toArray rfl rfl rfl iPtr2 rfl (cells_one _)) ?_) | (refine wpList_isW rfl _ _ (exec_load _ _ _ _ rfl rfl (loadPt_run _ wr.heap.size 0 y RA.out)) ?_) | fail)
      refine (rMayPtr_any _ y).mono ?_
      rintro e wb ⟨rfl, kb⟩
      have KB := hid (KA.out.trans kb)
      have RB := hid (range_keep RA.out kb (by simp))
      have HGB := hid (show wr.heap.size < wb.heap.size by have := kb.size; simp at this; omega)
      clear kb
      cases hmy : mayP y with
      | false =>
        clear hmy
        go_wp2_with fail
        go_ret
        exact ⟨rfl, K2.out.trans KB.out⟩
      | true =>
        have MY := hid hmy
        clear hmy
        cases hzy : zB y with
        | true =>
          have Z2 := hid (show eqP y pZ = true from eqP_is.2 (zB_is.1 hzy))
          clear hzy
          go_wp2_with (first | (refine wpList_isW rfl _ _ (exec_load _ _ _ _ rfl rfl (loadPt_run _ wr.heap.size 0 y RB.out)) ?_) | (refine wpList_isW rfl _ _ (exec_buildPtZ rfl) ?_) | (refine wpList_isW rfl _ _ ((exec_eqPts _ _ _ y pZ rfl rfl rfl).trans (by rw [Z2.out])) ?_) | fail)
          go_ret
          exact ⟨rfl, K2.out.trans KB.out⟩
        | false =>
          have ZY := hid hzy
          have Z2 := hid (show eqP y pZ = false from by
            cases hq : eqP y pZ with
            | false => rfl
            | true => rw [zB_is.2 (eqP_is.1 hq)] at hzy; cases hzy)
          clear hzy
          go_wp2_with (first | (refine wpList_isW rfl _ _ (exec_load _ _ _ _ rfl rfl (loadPt_run _ wr.heap.size 0 y RB.out)) ?_) | (refine wpList_isW rfl _ _ (exec_buildPtZ rfl) ?_) | (refine wpList_isW rfl _ _ ((exec_eqPts _ _ _ y pZ rfl rfl rfl).trans (by rw [Z2.out])) ?_) | fail)
          obtain ⟨gy, hgy⟩ : ∃ gy, gy = wr.heap.size := ⟨_, rfl⟩
          rw [← hgy] at RB HGB ⊢
          clear hgy RA KA R K
          go_loopw [9] (fun jv wr => ∃ j : Nat, jv = .int .i64 j ∧ j ≤ i ∧ (∀ a (ha : a < l.length), a < j → l[a] ≠ y) ∧ Keeps [] wb wr) (fun jv _ => i - (intOf jv).toNat)
          case atStart => exact ⟨0, rfl, Nat.zero_le _, fun _ _ h => absurd h (Nat.not_lt_zero _), Keeps.refl _ _⟩
          case round =>
            obtain ⟨j, rfl, hj, hno, hkj⟩ := hrel
            have KJ := hid hkj
            have NO := hid hno
            clear hkj hno
            by_cases hji : j < i
            · have hjl : j < l.length := by omega
              obtain ⟨g2, off2, e2, hg2, hr2⟩ := (HV.out.keep (K2.out.trans (KB.out.trans KJ.out))).at j hjl
              injection e2 with e2
              injection e2 with e2 e3
              subst e2; subst e3
              obtain ⟨x, hx⟩ : ∃ x, x = l[j] := ⟨_, rfl⟩
              rw [← hx] at hr2
              have RJ := hid hr2
              have HX := hid hx
              have RY := hid (range_keep RB.out KJ.out (by simp))
              have HG := hid (And.intro hg2 (show gy < wr.heap.size by have := HGB.out; have := KJ.out.size; omega))
              clear hr2 hx hg2
              cases heq : eqP x y with
              | true =>
                have EQ := hid heq
                clear heq
                go_wp2_with fail
                refine wp_region_any (by kernel_rfl) (wpAny_of_held (S := KpS [] wr.heap.size wr.drew) _ _ _ _ ?_)
                change wpAnyH _ _ _ _ _ _ _ _ wr.drew
                have cX : ∀ W1, KpS [] wr.heap.size wr.drew W1 → W1.rangeAt g (off + j * 5) x.cells := fun W1 h i v hv => h.cell (by rw [World.cell?_drew]; exact RJ.out i v hv) HG.out.1 (by simp)
                have cY : ∀ W1, KpS [] wr.heap.size wr.drew W1 → W1.rangeAt gy 0 y.cells := fun W1 h i v hv => h.cell (by rw [World.cell?_drew]; exact RY.out i v hv) HG.out.2 (by simp)
                refine held_take (i := 0) (v := .slice (some ⟨g, off, none⟩) l.length c) rfl (by kernel_rfl) (by kernel_rfl) (by kernel_rfl) (fun _ _ _ h => h) rfl (fun W1 hW1 => rfl) (KpS.refl _ _ _) ?_
                simp only [Act.put, List.setIfInBounds_toArray, List.set_cons_zero, List.set_cons_succ]
                refine held_take (i := 1) (v := .int .i64 (j : Int)) rfl (by kernel_rfl) (by kernel_rfl) (by kernel_rfl) (fun _ _ _ h => h) rfl (fun W1 hW1 => rfl) (KpS.refl _ _ _) ?_
                simp only [Act.put, List.setIfInBounds_toArray, List.set_cons_zero, List.set_cons_succ]
                refine held_take (i := 2) (v := .pointer (some ⟨g, off + j * 5, none⟩)) rfl (by kernel_rfl) (by kernel_rfl) (by kernel_rfl) (fun _ _ _ h => h) rfl (fun W1 hW1 => by go_simp) (KpS.refl _ _ _) ?_
                simp only [Act.put, List.setIfInBounds_toArray, List.set_cons_zero, List.set_cons_succ]
                refine held_take (i := 3) (v := ptV x) rfl (by kernel_rfl) (by kernel_rfl) (by kernel_rfl) (fun _ _ _ h => h) rfl (fun W1 hW1 => exec_load _ _ _ _ rfl rfl (loadPt_run W1 g (off + j * 5) x (cX W1 hW1))) (KpS.refl _ _ _) ?_
                simp only [Act.put, List.setIfInBounds_toArray, List.set_cons_zero, List.set_cons_succ]
                refine held_take (i := 4) (v := ptV y) rfl (by kernel_rfl) (by kernel_rfl) (by kernel_rfl) (fun _ _ _ h => h) rfl (fun W1 hW1 => exec_load _ _ _ _ rfl rfl (loadPt_run W1 gy 0 y (cY W1 hW1))) (KpS.refl _ _ _) ?_
                simp only [Act.put, List.setIfInBounds_toArray, List.set_cons_zero, List.set_cons_succ]
                refine held_take (i := 5) (v := .bool true) rfl (by kernel_rfl) (by kernel_rfl) (by kernel_rfl) (fun _ _ _ h => h) rfl (fun W1 hW1 => (exec_eqPts _ _ _ x y rfl rfl rfl).trans (by rw [EQ.out])) (KpS.refl _ _ _) ?_
                simp only [Act.put, List.setIfInBounds_toArray, List.set_cons_zero, List.set_cons_succ]
                refine wpAnyH_done (by kernel_rfl) ?_ _
                clear cX cY
                go_wp2_with fail
                go_ret
                exact ⟨rfl, K2.out.trans (KB.out.trans KJ.out.drew)⟩
              | false =>
                have EQ := hid heq
                clear heq
                go_wp2_with fail
                refine wp_region_any (by kernel_rfl) (wpAny_of_held (S := KpS [] wr.heap.size wr.drew) _ _ _ _ ?_)
                change wpAnyH _ _ _ _ _ _ _ _ wr.drew
                have cX : ∀ W1, KpS [] wr.heap.size wr.drew W1 → W1.rangeAt g (off + j * 5) x.cells := fun W1 h i v hv => h.cell (by rw [World.cell?_drew]; exact RJ.out i v hv) HG.out.1 (by simp)
                have cY : ∀ W1, KpS [] wr.heap.size wr.drew W1 → W1.rangeAt gy 0 y.cells := fun W1 h i v hv => h.cell (by rw [World.cell?_drew]; exact RY.out i v hv) HG.out.2 (by simp)
                refine held_take (i := 0) (v := .slice (some ⟨g, off, none⟩) l.length c) rfl (by kernel_rfl) (by kernel_rfl) (by kernel_rfl) (fun _ _ _ h => h) rfl (fun W1 hW1 => rfl) (KpS.refl _ _ _) ?_
                simp only [Act.put, List.setIfInBounds_toArray, List.set_cons_zero, List.set_cons_succ]
                refine held_take (i := 1) (v := .int .i64 (j : Int)) rfl (by kernel_rfl) (by kernel_rfl) (by kernel_rfl) (fun _ _ _ h => h) rfl (fun W1 hW1 => rfl) (KpS.refl _ _ _) ?_
                simp only [Act.put, List.setIfInBounds_toArray, List.set_cons_zero, List.set_cons_succ]
                refine held_take (i := 2) (v := .pointer (some ⟨g, off + j * 5, none⟩)) rfl (by kernel_rfl) (by kernel_rfl) (by kernel_rfl) (fun _ _ _ h => h) rfl (fun W1 hW1 => by go_simp) (KpS.refl _ _ _) ?_
                simp only [Act.put, List.setIfInBounds_toArray, List.set_cons_zero, List.set_cons_succ]
                refine held_take (i := 3) (v := ptV x) rfl (by kernel_rfl) (by kernel_rfl) (by kernel_rfl) (fun _ _ _ h => h) rfl (fun W1 hW1 => exec_load _ _ _ _ rfl rfl (loadPt_run W1 g (off + j * 5) x (cX W1 hW1))) (KpS.refl _ _ _) ?_
                simp only [Act.put, List.setIfInBounds_toArray, List.set_cons_zero, List.set_cons_succ]
                refine held_take (i := 4) (v := ptV y) rfl (by kernel_rfl) (by kernel_rfl) (by kernel_rfl) (fun _ _ _ h => h) rfl (fun W1 hW1 => exec_load _ _ _ _ rfl rfl (loadPt_run W1 gy 0 y (cY W1 hW1))) (KpS.refl _ _ _) ?_
                simp only [Act.put, List.setIfInBounds_toArray, List.set_cons_zero, List.set_cons_succ]
                refine held_take (i := 5) (v := .bool false) rfl (by kernel_rfl) (by kernel_rfl) (by kernel_rfl) (fun _ _ _ h => h) rfl (fun W1 hW1 => (exec_eqPts _ _ _ x y rfl rfl rfl).trans (by rw [EQ.out])) (KpS.refl _ _ _) ?_
                simp only [Act.put, List.setIfInBounds_toArray, List.set_cons_zero, List.set_cons_succ]
                refine wpAnyH_done (by kernel_rfl) ?_ _
                clear cX cY
                go_wp2_with fail
                go_roundw
                case rel =>
                  refine ⟨j + 1, by go_num, by omega, fun a ha haj => ?_, KJ.out.drew⟩
                  by_cases e : a = j
                  · subst e
                    rw [← HX.out]
                    intro he
                    rw [eqP_is.2 he] at EQ
                    exact absurd EQ.out (by simp)
                  · exact NO.out a ha (by omega)
                case measure => simp [intOf]; omega
            · obtain rfl : j = i := by omega
              go_wp2_with fail
              go_roundw
              case rel => exact ⟨j + 1, by go_num, by omega, FN.out.next hlt (by rw [← HY.out]; exact MY.out) (by rw [← HY.out]; exact ZY.out) (fun a ha haj => by rw [← HY.out]; exact NO.out a ha haj), KB.out.trans KJ.out⟩
              case measure => simp [intOf]; omega
    · obtain rfl : i = l.length := by omega
      have B := hid (B0.out.later K.out)
      have KK := hid (K2.out.trans K.out)
      have HL1 := hid (show 0 < l.length from HL.out.1)
      obtain ⟨x0, hx0⟩ : ∃ x, x = l[0]'HL1.out := ⟨_, rfl⟩
      have F0 := hid (FN.out.1 0 HL1.out HL1.out)
      rw [← hx0] at F0
      obtain ⟨g, off, rfl, hg, hr⟩ := (HV.out.keep KK.out).at 0 HL1.out
      rw [← hx0] at hr
      have R := hid (show wr.rangeAt g (off + 0) x0.cells by simpa using hr)
      have HX0 := hid hx0
      have hl1 : 0 < l.length := HL1.out
      have M1 := hid (mv_first b x0 hb64 F0.out.1)
      clear hlt hi hr hg hx0 K
      go_wp2_with (first | (refine wpList_isW rfl _ _ (exec_load _ _ _ _ rfl rfl (loadPt_run _ g (off + 0) x0 R.out)) ?_) | (refine wpList_isW rfl _ _ (exec_load _ _ _ _ rfl rfl (loadPt_run _ g off x0 R.out)) ?_) | (refine wpList_is rfl _ _ (exec_buildPut _ _ _ _ _ 1 2 (b : Int) ((b : Int) * 64 + 1) x0 rfl rfl rfl rfl rfl rfl) ?_) | fail)
      clear hl1
      have A1 := apply_new (w := w) KK.out B.out (fun b hb => by simp at hb; rw [hb]; exact B.out.lt) HWM.out ⟨1, 2, (b : Int), (b : Int) * 64 + 1, x0, pZ⟩
      refine A1.mono ?_
      rintro e w3 ⟨a3, c3, rfl, o3, b3, k3, z3, q3⟩
      rw [M1.out.2] at b3
      have B3 := hid b3
      have K3 := hid k3
      clear A1 o3 b3 k3 z3 q3 B KK M1 B0
      go_wp2_with fail
      go_loopw [10, 11] (fun av iv wr => ∃ (t i : Nat) (ht : t < l.length), av = .int .i64 t ∧ iv = .int .i64 i ∧ t < i ∧ i ≤ l.length ∧ BkAt wr [m] m (mvS b l[t]) ∧ Keeps [] w wr) (fun _ iv _ => l.length - (intOf iv).toNat)
      case atStart => exact ⟨0, 1, HL1.out, rfl, rfl, by omega, HL1.out, by rw [← HX0.out]; exact B3.out, K3.out⟩
      case round =>
        obtain ⟨t, i, htl, rfl, rfl, hti, hil, hbk, hkp⟩ := hrel
        have B := hid hbk
        have K := hid hkp
        have HTI := hid hti
        clear hbk hkp hti
        obtain ⟨x, hx⟩ : ∃ x, x = l[t] := ⟨_, rfl⟩
        rw [← hx] at B
        have FT := hid (FN.out.1 t htl htl)
        rw [← hx] at FT
        obtain ⟨g1, off1, e1, hg1, hr1⟩ := (HV.out.keep K.out).at t htl
        injection e1 with e1
        injection e1 with e1 e2
        subst e1; subst e2
        rw [← hx] at hr1
        have RT := hid hr1
        have HX := hid hx
        have HG1 := hid hg1
        clear hr1 hx hg1
        have ht30 : t < 30 := by have := HL.out; omega
        by_cases hlt : i < l.length
        · have hi30 : i < 30 := by have := HL.out; omega
          obtain ⟨y, hy⟩ : ∃ y, y = l[i] := ⟨_, rfl⟩
          have FI := hid (FN.out.1 i hlt hlt)
          rw [← hy] at FI
          have XY := hid (FN.out.2 t i htl hlt HTI.out hlt)
          rw [← HX.out, ← hy] at XY
          obtain ⟨g2, off2, e2, hg2, hr2⟩ := (HV.out.keep K.out).at i hlt
          injection e2 with e2
          injection e2 with e2 e3
          subst e2; subst e3
          rw [← hy] at hr2
          have RI := hid hr2
          have HY := hid hy
          clear hr2 hy hg2
          go_wp2_with fail
          refine wp_region_any (by kernel_rfl) (wpAny_of_held (S := KpS [] wr.heap.size wr.drew) _ _ _ _ ?_)
          change wpAnyH _ _ _ _ _ _ _ _ wr.drew
          have s0 : KpS [] wr.heap.size wr.drew wr.drew := KpS.refl _ _ _
          have cT : ∀ W1, KpS [] wr.heap.size wr.drew W1 → W1.rangeAt g (off + t * 5) x.cells := fun W1 h i v hv => h.cell (by rw [World.cell?_drew]; exact RT.out i v hv) HG1.out (by simp)
          have cI : ∀ W1, KpS [] wr.heap.size wr.drew W1 → W1.rangeAt g (off + i * 5) y.cells := fun W1 h i v hv => h.cell (by rw [World.cell?_drew]; exact RI.out i v hv) HG1.out (by simp)
          refine held_take (i := 0) (v := .int .i64 (b : Int)) rfl (by kernel_rfl) (by kernel_rfl) (by kernel_rfl) (fun _ _ _ h => h) rfl (fun W1 hW1 => rfl) (KpS.refl _ _ _) ?_
          simp only [Act.put, List.setIfInBounds_toArray, List.set_cons_zero, List.set_cons_succ]
          refine held_take (i := 1) (v := .slice (some ⟨g, off, none⟩) l.length c) rfl (by kernel_rfl) (by kernel_rfl) (by kernel_rfl) (fun _ _ _ h => h) rfl (fun W1 hW1 => rfl) (KpS.refl _ _ _) ?_
          simp only [Act.put, List.setIfInBounds_toArray, List.set_cons_zero, List.set_cons_succ]
          refine held_take (i := 2) (v := .int .i64 (t : Int)) rfl (by kernel_rfl) (by kernel_rfl) (by kernel_rfl) (fun _ _ _ h => h) rfl (fun W1 hW1 => rfl) (KpS.refl _ _ _) ?_
          simp only [Act.put, List.setIfInBounds_toArray, List.set_cons_zero, List.set_cons_succ]
          refine held_take (i := 3) (v := .pointer (some ⟨g, off + t * 5, none⟩)) rfl (by kernel_rfl) (by kernel_rfl) (by kernel_rfl) (fun _ _ _ h => h) rfl (fun W1 hW1 => by go_simp) (KpS.refl _ _ _) ?_
          simp only [Act.put, List.setIfInBounds_toArray, List.set_cons_zero, List.set_cons_succ]
          refine held_take (i := 4) (v := ptV x) rfl (by kernel_rfl) (by kernel_rfl) (by kernel_rfl) (fun _ _ _ h => h) rfl (fun W1 hW1 => exec_load _ _ _ _ rfl rfl (loadPt_run W1 g (off + t * 5) x (cT W1 hW1))) (KpS.refl _ _ _) ?_
          simp only [Act.put, List.setIfInBounds_toArray, List.set_cons_zero, List.set_cons_succ]
          refine held_take (i := 5) (v := .slice (some ⟨g, off, none⟩) l.length c) rfl (by kernel_rfl) (by kernel_rfl) (by kernel_rfl) (fun _ _ _ h => h) rfl (fun W1 hW1 => rfl) (KpS.refl _ _ _) ?_
          simp only [Act.put, List.setIfInBounds_toArray, List.set_cons_zero, List.set_cons_succ]
          refine held_take (i := 6) (v := .int .i64 (i : Int)) rfl (by kernel_rfl) (by kernel_rfl) (by kernel_rfl) (fun _ _ _ h => h) rfl (fun W1 hW1 => rfl) (KpS.refl _ _ _) ?_
          simp only [Act.put, List.setIfInBounds_toArray, List.set_cons_zero, List.set_cons_succ]
          refine held_take (i := 7) (v := .pointer (some ⟨g, off + i * 5, none⟩)) rfl (by kernel_rfl) (by kernel_rfl) (by kernel_rfl) (fun _ _ _ h => h) rfl (fun W1 hW1 => by go_simp) (KpS.refl _ _ _) ?_
          simp only [Act.put, List.setIfInBounds_toArray, List.set_cons_zero, List.set_cons_succ]
          refine held_take (i := 8) (v := ptV y) rfl (by kernel_rfl) (by kernel_rfl) (by kernel_rfl) (fun _ _ _ h => h) rfl (fun W1 hW1 => exec_load _ _ _ _ rfl rfl (loadPt_run W1 g (off + i * 5) y (cI W1 hW1))) (KpS.refl _ _ _) ?_
          simp only [Act.put, List.setIfInBounds_toArray, List.set_cons_zero, List.set_cons_succ]
          refine held_take (i := 9) (v := dlV ⟨3, 2, (b : Int), 0, y, x⟩) rfl (by kernel_rfl) (by kernel_rfl) (by kernel_rfl) (fun _ _ _ h => h) rfl (fun W1 hW1 => exec_buildMove _ _ _ _ _ 3 2 (b : Int) y x rfl rfl rfl rfl rfl rfl) (KpS.refl _ _ _) ?_
          simp only [Act.put, List.setIfInBounds_toArray, List.set_cons_zero, List.set_cons_succ]
          refine held_do (i := 10) (by kernel_rfl) rfl rfl (wp_value (exec_alloc 34 (Dl.cells ⟨0, 0, 0, 0, pZ, pZ⟩).toArray iDelta rfl) ?_)
          have kD : Keeps [] wr.drew (wr.drew.alloc (.cells (Dl.cells ⟨0, 0, 0, 0, pZ, pZ⟩).toArray 34)) := (Keeps.refl [] _).alloc _
          refine ⟨s0.keeps kD s0.size (by simp), ?_⟩
          simp only [Act.put, List.setIfInBounds_toArray, List.set_cons_zero, List.set_cons_succ]
          have kE : Keeps [] wr.drew (wr.drew.alloc (.cells (Dl.cells ⟨3, 2, (b : Int), 0, y, x⟩).toArray 34)) := (Keeps.refl [] _).alloc _
          refine held_do (i := 11) (by kernel_rfl) rfl rfl (wp_stored (exec_storeNew 34 _ _ rfl wr.drew (Dl.cells ⟨0, 0, 0, 0, pZ, pZ⟩).toArray (Dl.cells ⟨3, 2, (b : Int), 0, y, x⟩).toArray rfl rfl rfl iDelta rfl (dl_one _)) ⟨s0.keeps kE s0.size (by simp), ?_⟩)
          simp only [Act.put]
          refine wpAnyH_done (by kernel_rfl) ?_ _
          obtain ⟨wa, hwa⟩ : ∃ W, W = wr.drew.alloc (.cells (Dl.cells ⟨3, 2, (b : Int), 0, y, x⟩).toArray 34) := ⟨_, rfl⟩
          have RD0 := range_new wr.drew (Dl.cells ⟨3, 2, (b : Int), 0, y, x⟩) 34
          have hwz : wr.heap.size < wa.heap.size := by rw [hwa]; simp
          rw [← hwa] at RD0 kE ⊢
          obtain ⟨gd, hgd⟩ : ∃ n, n = wr.drew.heap.size := ⟨_, rfl⟩
          rw [← hgd] at RD0 ⊢
          have RD := hid RD0
          have HGD := hid (show gd ≠ m ∧ gd < wa.heap.size by
            have e : wr.drew.heap.size = wr.heap.size := rfl
            have := B.out.lt
            omega)
          have kWA : Keeps [] wr wa := ((Keeps.refl [] wr).drew).trans kE
          have BA := hid (B.out.later kWA)
          have KA := hid (K.out.trans kWA)
          have RTA := hid (range_keep RT.out kWA (by simp))
          have RIA := hid (range_keep RI.out kWA (by simp))
          have HGA := hid (show g < wa.heap.size by have := HG1.out; have := kWA.size; omega)
          clear cT cI s0 kD kE hwa hwz hgd kWA RD0 B RT RI
          go_wp2_with (first | (refine wpList_isW rfl _ _ (exec_load _ _ _ _ rfl rfl (loadDl_run _ gd 0 ⟨3, 2, (b : Int), 0, y, x⟩ RD.out)) ?_) | fail)
          have A1 := apply_new (w := w) KA.out BA.out (fun b hb => by simp at hb; rw [hb]; exact BA.out.lt) HWM.out ⟨3, 2, (b : Int), 0, y, x⟩
          refine A1.mono ?_
          rintro e wb ⟨a4, c4, rfl, o4, b4, k4, z4, q4⟩
          rw [mv_may b x y FT.out.2 FI.out.1]
          have HGM := hid (show g ≠ m from fun e => by
            have := HWM.out
            have := HV.out.at t htl
            obtain ⟨g9, off9, e9, h9, _⟩ := this
            injection e9 with e9
            injection e9 with e9 _
            omega)
          have RTB := hid (range_keep RTA.out q4 (by simpa using HGM.out))
          have RIB := hid (range_keep RIA.out q4 (by simpa using HGM.out))
          have RDB := hid (range_keep RD.out q4 (by simpa using HGD.out.1))
          have HGB := hid (show g < wb.heap.size by have := HGA.out; omega)
          have HDB := hid (show gd < wb.heap.size by have := HGD.out.2; omega)
          have KB := hid k4
          cases hk : (y.k == x.k) with
          | true =>
            have HK := hid hk
            rw [mv_step b x y FT.out.2 FI.out.1 hk] at b4
            rw [mv_gone b x y FT.out.2 FI.out.1 hk XY.out] at o4 ⊢
            have BB := hid b4
            have OB := hid o4.at
            clear hk
            clear A1 o4 b4 k4 z4 q4 KA BA RTA RIA RD HGA
            go_wp2_with fail
            refine wp_region_any (by kernel_rfl) (wpAny_of_held (S := KpS [] wb.heap.size wb.drew) _ _ _ _ ?_)
            change wpAnyH _ _ _ _ _ _ _ _ wb.drew
            have s0 : KpS [] wb.heap.size wb.drew wb.drew := KpS.refl _ _ _
            have cT : ∀ W1, KpS [] wb.heap.size wb.drew W1 → W1.rangeAt g (off + t * 5) x.cells := fun W1 h i v hv => h.cell (by rw [World.cell?_drew]; exact RTB.out i v hv) HGB.out (by simp)
            have cI : ∀ W1, KpS [] wb.heap.size wb.drew W1 → W1.rangeAt g (off + i * 5) y.cells := fun W1 h i v hv => h.cell (by rw [World.cell?_drew]; exact RIB.out i v hv) HGB.out (by simp)
            refine held_take (i := 0) (v := .bool true) rfl (by kernel_rfl) (by kernel_rfl) (by kernel_rfl) (fun _ _ _ h => h) rfl (fun W1 hW1 => rfl) (KpS.refl _ _ _) ?_
            simp only [Act.put, List.setIfInBounds_toArray, List.set_cons_zero, List.set_cons_succ]
            refine held_take (i := 1) (v := .slice (some ⟨g, off, none⟩) l.length c) rfl (by kernel_rfl) (by kernel_rfl) (by kernel_rfl) (fun _ _ _ h => h) rfl (fun W1 hW1 => rfl) (KpS.refl _ _ _) ?_
            simp only [Act.put, List.setIfInBounds_toArray, List.set_cons_zero, List.set_cons_succ]
            refine held_take (i := 2) (v := .int .i64 (i : Int)) rfl (by kernel_rfl) (by kernel_rfl) (by kernel_rfl) (fun _ _ _ h => h) rfl (fun W1 hW1 => rfl) (KpS.refl _ _ _) ?_
            simp only [Act.put, List.setIfInBounds_toArray, List.set_cons_zero, List.set_cons_succ]
            refine held_take (i := 3) (v := .pointer (some ⟨g, off + i * 5, none⟩)) rfl (by kernel_rfl) (by kernel_rfl) (by kernel_rfl) (fun _ _ _ h => h) rfl (fun W1 hW1 => by go_simp) (KpS.refl _ _ _) ?_
            simp only [Act.put, List.setIfInBounds_toArray, List.set_cons_zero, List.set_cons_succ]
            refine held_take (i := 4) (v := .pointer (some ⟨g, off + i * 5 + 4, none⟩)) rfl (by kernel_rfl) (by kernel_rfl) (by kernel_rfl) (fun _ _ _ h => h) rfl (fun W1 hW1 => by go_simp) (KpS.refl _ _ _) ?_
            simp only [Act.put, List.setIfInBounds_toArray, List.set_cons_zero, List.set_cons_succ]
            refine held_take (i := 5) (v := .int .i64 y.k) rfl (by kernel_rfl) (by kernel_rfl) (by kernel_rfl) (fun _ _ _ h => h) rfl (fun W1 hW1 => exec_load _ _ _ _ rfl rfl (run_loadCell W1 _ _ _ ((range_at (cI W1 hW1)).2.2.2.2) (agg_no _ (by kernel_rfl)))) (KpS.refl _ _ _) ?_
            simp only [Act.put, List.setIfInBounds_toArray, List.set_cons_zero, List.set_cons_succ]
            refine held_take (i := 6) (v := .slice (some ⟨g, off, none⟩) l.length c) rfl (by kernel_rfl) (by kernel_rfl) (by kernel_rfl) (fun _ _ _ h => h) rfl (fun W1 hW1 => rfl) (KpS.refl _ _ _) ?_
            simp only [Act.put, List.setIfInBounds_toArray, List.set_cons_zero, List.set_cons_succ]
            refine held_take (i := 7) (v := .int .i64 (t : Int)) rfl (by kernel_rfl) (by kernel_rfl) (by kernel_rfl) (fun _ _ _ h => h) rfl (fun W1 hW1 => rfl) (KpS.refl _ _ _) ?_
            simp only [Act.put, List.setIfInBounds_toArray, List.set_cons_zero, List.set_cons_succ]
            refine held_take (i := 8) (v := .pointer (some ⟨g, off + t * 5, none⟩)) rfl (by kernel_rfl) (by kernel_rfl) (by kernel_rfl) (fun _ _ _ h => h) rfl (fun W1 hW1 => by go_simp) (KpS.refl _ _ _) ?_
            simp only [Act.put, List.setIfInBounds_toArray, List.set_cons_zero, List.set_cons_succ]
            refine held_take (i := 9) (v := .pointer (some ⟨g, off + t * 5 + 4, none⟩)) rfl (by kernel_rfl) (by kernel_rfl) (by kernel_rfl) (fun _ _ _ h => h) rfl (fun W1 hW1 => by go_simp) (KpS.refl _ _ _) ?_
            simp only [Act.put, List.setIfInBounds_toArray, List.set_cons_zero, List.set_cons_succ]
            refine held_take (i := 10) (v := .int .i64 x.k) rfl (by kernel_rfl) (by kernel_rfl) (by kernel_rfl) (fun _ _ _ h => h) rfl (fun W1 hW1 => exec_load _ _ _ _ rfl rfl (run_loadCell W1 _ _ _ ((range_at (cT W1 hW1)).2.2.2.2) (agg_no _ (by kernel_rfl)))) (KpS.refl _ _ _) ?_
            simp only [Act.put, List.setIfInBounds_toArray, List.set_cons_zero, List.set_cons_succ]
            refine held_take (i := 11) (v := .bool true) rfl (by kernel_rfl) (by kernel_rfl) (by kernel_rfl) (fun _ _ _ h => h) rfl (fun W1 hW1 => by have := HK.out; go_simp) (KpS.refl _ _ _) ?_
            simp only [Act.put, List.setIfInBounds_toArray, List.set_cons_zero, List.set_cons_succ]
            refine held_take (i := 12) (v := .bool false) rfl (by kernel_rfl) (by kernel_rfl) (by kernel_rfl) (fun _ _ _ h => h) rfl (fun W1 hW1 => by go_simp) (KpS.refl _ _ _) ?_
            simp only [Act.put, List.setIfInBounds_toArray, List.set_cons_zero, List.set_cons_succ]
            refine held_take (i := 13) (v := .bool false) rfl (by kernel_rfl) (by kernel_rfl) (by kernel_rfl) (fun _ _ _ h => h) rfl (fun W1 hW1 => rfl) (KpS.refl _ _ _) ?_
            simp only [Act.put, List.setIfInBounds_toArray, List.set_cons_zero, List.set_cons_succ]
            refine held_takeW (i := 14) (v := .bool true) rfl (by kernel_rfl) (by kernel_rfl) (by kernel_rfl) (fun _ _ _ h => h) rfl (fun W1 hW1 => rfl) (KpS.refl _ _ _) ?_
            simp only [Act.put, List.setIfInBounds_toArray, List.set_cons_zero, List.set_cons_succ]
            refine held_takeW (i := 15) (v := .bool true) rfl (by kernel_rfl) (by kernel_rfl) (by kernel_rfl) (fun _ _ _ h => h) rfl (fun W1 hW1 => rfl) (KpS.refl _ _ _) ?_
            simp only [Act.put, List.setIfInBounds_toArray, List.set_cons_zero, List.set_cons_succ]
            refine held_takeW (i := 16) (v := .slice a4 1 c4) rfl (by kernel_rfl) (by kernel_rfl) (by kernel_rfl) (fun _ _ _ h => h) rfl (fun W1 hW1 => rfl) (KpS.refl _ _ _) ?_
            simp only [Act.put, List.setIfInBounds_toArray, List.set_cons_zero, List.set_cons_succ]
            refine held_takeW (i := 17) (v := .slice (some ⟨g, off, none⟩) l.length c) rfl (by kernel_rfl) (by kernel_rfl) (by kernel_rfl) (fun _ _ _ h => h) rfl (fun W1 hW1 => rfl) (KpS.refl _ _ _) ?_
            simp only [Act.put, List.setIfInBounds_toArray, List.set_cons_zero, List.set_cons_succ]
            refine held_takeW (i := 18) (v := .int .i64 (t : Int)) rfl (by kernel_rfl) (by kernel_rfl) (by kernel_rfl) (fun _ _ _ h => h) rfl (fun W1 hW1 => rfl) (KpS.refl _ _ _) ?_
            simp only [Act.put, List.setIfInBounds_toArray, List.set_cons_zero, List.set_cons_succ]
            refine held_takeW (i := 19) (v := .pointer (some ⟨g, off + t * 5, none⟩)) rfl (by kernel_rfl) (by kernel_rfl) (by kernel_rfl) (fun _ _ _ h => h) rfl (fun W1 hW1 => by go_simp) (KpS.refl _ _ _) ?_
            simp only [Act.put, List.setIfInBounds_toArray, List.set_cons_zero, List.set_cons_succ]
            refine held_takeW (i := 20) (v := ptV x) rfl (by kernel_rfl) (by kernel_rfl) (by kernel_rfl) (fun _ _ _ h => h) rfl (fun W1 hW1 => exec_load _ _ _ _ rfl rfl (loadPt_run W1 g (off + t * 5) x (cT W1 hW1))) (KpS.refl _ _ _) ?_
            simp only [Act.put, List.setIfInBounds_toArray, List.set_cons_zero, List.set_cons_succ]
            refine held_doW (i := 21) (by kernel_rfl) rfl rfl (wp_value (exec_onePt _ x rfl rfl) ?_)
            have kC : Keeps [] wb.drew (wb.drew.alloc (.cells x.cells.toArray 28)) := (Keeps.refl [] _).alloc _
            have sC : KpS [] wb.heap.size wb.drew (wb.drew.alloc (.cells x.cells.toArray 28)) := s0.keeps kC s0.size (by simp)
            refine ⟨sC, ?_⟩
            simp only [Act.put, List.setIfInBounds_toArray, List.set_cons_zero, List.set_cons_succ]
            have onP := one_pts wb.drew [] (by simp) x
            refine held_doW (i := 22) (by kernel_rfl) rfl rfl (wp_enter (f := 17) (args := #[.slice a4 1 c4, .slice (some ⟨wb.drew.heap.size, 0, none⟩) 1 1]) (by go_simp) (lPtrs_any _ [m] [] _ _ [x] [x] (OB.out.later (((Keeps.refl [] wb).drew).trans kC)) onP (by simp) (by simp)) ?_)
            rintro e wd ⟨rfl, kd⟩
            rw [show eqL [x] [x] = true from decide_eq_true rfl]
            have sD : KpS [] wb.heap.size wb.drew wd := sC.keeps kd sC.size (by simp)
            refine ⟨_, rfl, sD, ?_⟩
            simp only [Act.put, List.setIfInBounds_toArray, List.set_cons_zero, List.set_cons_succ]
            refine held_takeW (i := 23) (v := .bool false) rfl (by kernel_rfl) (by kernel_rfl) (by kernel_rfl) (fun _ _ _ h => h) rfl (fun W1 hW1 => by go_simp) (sD) ?_
            simp only [Act.put, List.setIfInBounds_toArray, List.set_cons_zero, List.set_cons_succ]
            refine held_takeW (i := 24) (v := .bool false) rfl (by kernel_rfl) (by kernel_rfl) (by kernel_rfl) (fun _ _ _ h => h) rfl (fun W1 hW1 => by go_simp) (sD) ?_
            simp only [Act.put, List.setIfInBounds_toArray, List.set_cons_zero, List.set_cons_succ]
            refine held_take (i := 25) (v := .bool false) rfl (by kernel_rfl) (by kernel_rfl) (by kernel_rfl) (fun _ _ _ h => h) rfl (fun W1 hW1 => by go_simp) (sD) ?_
            simp only [Act.put, List.setIfInBounds_toArray, List.set_cons_zero, List.set_cons_succ]
            refine wpAnyH_done (by kernel_rfl) ?_ _
            have kwd : Keeps [] wb wd := ((Keeps.refl [] wb).drew).trans (kC.trans kd)
            have BD := hid (BB.out.later kwd)
            have KD := hid (KB.out.trans kwd)
            have RDD := hid (range_keep RDB.out kwd (by simp))
            have HDD := hid (show gd < wd.heap.size by have := HDB.out; have := kwd.size; omega)
            clear cT cI s0 kC sC onP kd sD kwd
            go_wp2_with (first | (refine wpList_isW rfl _ _ (exec_load _ _ _ _ rfl rfl (loadDl_run _ gd 0 ⟨3, 2, (b : Int), 0, y, x⟩ RDD.out)) ?_) | fail)
            have A1 := apply_new (w := w) KD.out BD.out (fun b hb => by simp at hb; rw [hb]; exact BD.out.lt) HWM.out ⟨3, 2, (b : Int), 0, y, x⟩
            refine A1.mono ?_
            rintro e we ⟨a5, c5, rfl, o5, b5, k5, z5, q5⟩
            rw [(mv_late b x y XY.out).1]
            rw [(mv_late b x y XY.out).2] at b5
            have BE := hid b5
            have KE := hid k5
            clear A1 o5 b5 k5 z5 q5
            go_wp2_with fail
            go_roundw
            case rel => exact ⟨i, i + 1, hlt, rfl, by go_num, by omega, hlt, by rw [← HY.out]; exact BE.out, KE.out⟩
            case measure => simp [intOf]; omega
          | false =>
            have HK := hid hk
            rw [(mv_stay b x y FT.out.2 FI.out.1 hk).1] at b4
            rw [(mv_stay b x y FT.out.2 FI.out.1 hk).2] at o4 ⊢
            have BB := hid b4
            have OB := hid o4.at
            clear hk
            clear A1 o4 b4 k4 z4 q4 KA BA RTA RIA RD HGA
            go_wp2_with fail
            refine wp_region_any (by kernel_rfl) (wpAny_of_held (S := KpS [] wb.heap.size wb.drew) _ _ _ _ ?_)
            change wpAnyH _ _ _ _ _ _ _ _ wb.drew
            have s0 : KpS [] wb.heap.size wb.drew wb.drew := KpS.refl _ _ _
            have cT : ∀ W1, KpS [] wb.heap.size wb.drew W1 → W1.rangeAt g (off + t * 5) x.cells := fun W1 h i v hv => h.cell (by rw [World.cell?_drew]; exact RTB.out i v hv) HGB.out (by simp)
            have cI : ∀ W1, KpS [] wb.heap.size wb.drew W1 → W1.rangeAt g (off + i * 5) y.cells := fun W1 h i v hv => h.cell (by rw [World.cell?_drew]; exact RIB.out i v hv) HGB.out (by simp)
            refine held_take (i := 0) (v := .bool false) rfl (by kernel_rfl) (by kernel_rfl) (by kernel_rfl) (fun _ _ _ h => h) rfl (fun W1 hW1 => rfl) (KpS.refl _ _ _) ?_
            simp only [Act.put, List.setIfInBounds_toArray, List.set_cons_zero, List.set_cons_succ]
            refine held_take (i := 1) (v := .slice (some ⟨g, off, none⟩) l.length c) rfl (by kernel_rfl) (by kernel_rfl) (by kernel_rfl) (fun _ _ _ h => h) rfl (fun W1 hW1 => rfl) (KpS.refl _ _ _) ?_
            simp only [Act.put, List.setIfInBounds_toArray, List.set_cons_zero, List.set_cons_succ]
            refine held_take (i := 2) (v := .int .i64 (i : Int)) rfl (by kernel_rfl) (by kernel_rfl) (by kernel_rfl) (fun _ _ _ h => h) rfl (fun W1 hW1 => rfl) (KpS.refl _ _ _) ?_
            simp only [Act.put, List.setIfInBounds_toArray, List.set_cons_zero, List.set_cons_succ]
            refine held_take (i := 3) (v := .pointer (some ⟨g, off + i * 5, none⟩)) rfl (by kernel_rfl) (by kernel_rfl) (by kernel_rfl) (fun _ _ _ h => h) rfl (fun W1 hW1 => by go_simp) (KpS.refl _ _ _) ?_
            simp only [Act.put, List.setIfInBounds_toArray, List.set_cons_zero, List.set_cons_succ]
            refine held_take (i := 4) (v := .pointer (some ⟨g, off + i * 5 + 4, none⟩)) rfl (by kernel_rfl) (by kernel_rfl) (by kernel_rfl) (fun _ _ _ h => h) rfl (fun W1 hW1 => by go_simp) (KpS.refl _ _ _) ?_
            simp only [Act.put, List.setIfInBounds_toArray, List.set_cons_zero, List.set_cons_succ]
            refine held_take (i := 5) (v := .int .i64 y.k) rfl (by kernel_rfl) (by kernel_rfl) (by kernel_rfl) (fun _ _ _ h => h) rfl (fun W1 hW1 => exec_load _ _ _ _ rfl rfl (run_loadCell W1 _ _ _ ((range_at (cI W1 hW1)).2.2.2.2) (agg_no _ (by kernel_rfl)))) (KpS.refl _ _ _) ?_
            simp only [Act.put, List.setIfInBounds_toArray, List.set_cons_zero, List.set_cons_succ]
            refine held_take (i := 6) (v := .slice (some ⟨g, off, none⟩) l.length c) rfl (by kernel_rfl) (by kernel_rfl) (by kernel_rfl) (fun _ _ _ h => h) rfl (fun W1 hW1 => rfl) (KpS.refl _ _ _) ?_
            simp only [Act.put, List.setIfInBounds_toArray, List.set_cons_zero, List.set_cons_succ]
            refine held_take (i := 7) (v := .int .i64 (t : Int)) rfl (by kernel_rfl) (by kernel_rfl) (by kernel_rfl) (fun _ _ _ h => h) rfl (fun W1 hW1 => rfl) (KpS.refl _ _ _) ?_
            simp only [Act.put, List.setIfInBounds_toArray, List.set_cons_zero, List.set_cons_succ]
            refine held_take (i := 8) (v := .pointer (some ⟨g, off + t * 5, none⟩)) rfl (by kernel_rfl) (by kernel_rfl) (by kernel_rfl) (fun _ _ _ h => h) rfl (fun W1 hW1 => by go_simp) (KpS.refl _ _ _) ?_
            simp only [Act.put, List.setIfInBounds_toArray, List.set_cons_zero, List.set_cons_succ]
            refine held_take (i := 9) (v := .pointer (some ⟨g, off + t * 5 + 4, none⟩)) rfl (by kernel_rfl) (by kernel_rfl) (by kernel_rfl) (fun _ _ _ h => h) rfl (fun W1 hW1 => by go_simp) (KpS.refl _ _ _) ?_
            simp only [Act.put, List.setIfInBounds_toArray, List.set_cons_zero, List.set_cons_succ]
            refine held_take (i := 10) (v := .int .i64 x.k) rfl (by kernel_rfl) (by kernel_rfl) (by kernel_rfl) (fun _ _ _ h => h) rfl (fun W1 hW1 => exec_load _ _ _ _ rfl rfl (run_loadCell W1 _ _ _ ((range_at (cT W1 hW1)).2.2.2.2) (agg_no _ (by kernel_rfl)))) (KpS.refl _ _ _) ?_
            simp only [Act.put, List.setIfInBounds_toArray, List.set_cons_zero, List.set_cons_succ]
            refine held_take (i := 11) (v := .bool false) rfl (by kernel_rfl) (by kernel_rfl) (by kernel_rfl) (fun _ _ _ h => h) rfl (fun W1 hW1 => by have := HK.out; go_simp) (KpS.refl _ _ _) ?_
            simp only [Act.put, List.setIfInBounds_toArray, List.set_cons_zero, List.set_cons_succ]
            refine held_take (i := 12) (v := .bool false) rfl (by kernel_rfl) (by kernel_rfl) (by kernel_rfl) (fun _ _ _ h => h) rfl (fun W1 hW1 => by go_simp) (KpS.refl _ _ _) ?_
            simp only [Act.put, List.setIfInBounds_toArray, List.set_cons_zero, List.set_cons_succ]
            refine held_take (i := 13) (v := .bool false) rfl (by kernel_rfl) (by kernel_rfl) (by kernel_rfl) (fun _ _ _ h => h) rfl (fun W1 hW1 => rfl) (KpS.refl _ _ _) ?_
            simp only [Act.put, List.setIfInBounds_toArray, List.set_cons_zero, List.set_cons_succ]
            refine held_takeW (i := 14) (v := .bool false) rfl (by kernel_rfl) (by kernel_rfl) (by kernel_rfl) (fun _ _ _ h => h) rfl (fun W1 hW1 => rfl) (KpS.refl _ _ _) ?_
            simp only [Act.put, List.setIfInBounds_toArray, List.set_cons_zero, List.set_cons_succ]
            refine held_takeW (i := 15) (v := .bool false) rfl (by kernel_rfl) (by kernel_rfl) (by kernel_rfl) (fun _ _ _ h => h) rfl (fun W1 hW1 => rfl) (KpS.refl _ _ _) ?_
            simp only [Act.put, List.setIfInBounds_toArray, List.set_cons_zero, List.set_cons_succ]
            refine held_skip (i := 16) rfl (by kernel_rfl) (by kernel_rfl) (by kernel_rfl) (fun _ _ _ h => h) rfl (s0) ?_
            simp only [Act.put, List.setIfInBounds_toArray, List.set_cons_zero, List.set_cons_succ]
            refine held_skip (i := 17) rfl (by kernel_rfl) (by kernel_rfl) (by kernel_rfl) (fun _ _ _ h => h) rfl (s0) ?_
            simp only [Act.put, List.setIfInBounds_toArray, List.set_cons_zero, List.set_cons_succ]
            refine held_skip (i := 18) rfl (by kernel_rfl) (by kernel_rfl) (by kernel_rfl) (fun _ _ _ h => h) rfl (s0) ?_
            simp only [Act.put, List.setIfInBounds_toArray, List.set_cons_zero, List.set_cons_succ]
            refine held_skip (i := 19) rfl (by kernel_rfl) (by kernel_rfl) (by kernel_rfl) (fun _ _ _ h => h) rfl (s0) ?_
            simp only [Act.put, List.setIfInBounds_toArray, List.set_cons_zero, List.set_cons_succ]
            refine held_skip (i := 20) rfl (by kernel_rfl) (by kernel_rfl) (by kernel_rfl) (fun _ _ _ h => h) rfl (s0) ?_
            simp only [Act.put, List.setIfInBounds_toArray, List.set_cons_zero, List.set_cons_succ]
            refine held_skip (i := 21) rfl (by kernel_rfl) (by kernel_rfl) (by kernel_rfl) (fun _ _ _ h => h) rfl (s0) ?_
            simp only [Act.put, List.setIfInBounds_toArray, List.set_cons_zero, List.set_cons_succ]
            refine held_skip (i := 22) rfl (by kernel_rfl) (by kernel_rfl) (by kernel_rfl) (fun _ _ _ h => h) rfl (s0) ?_
            simp only [Act.put, List.setIfInBounds_toArray, List.set_cons_zero, List.set_cons_succ]
            refine held_skip (i := 23) rfl (by kernel_rfl) (by kernel_rfl) (by kernel_rfl) (fun _ _ _ h => h) rfl (s0) ?_
            simp only [Act.put, List.setIfInBounds_toArray, List.set_cons_zero, List.set_cons_succ]
            refine held_takeW (i := 24) (v := .bool false) rfl (by kernel_rfl) (by kernel_rfl) (by kernel_rfl) (fun _ _ _ h => h) rfl (fun W1 hW1 => by go_simp) (s0) ?_
            simp only [Act.put, List.setIfInBounds_toArray, List.set_cons_zero, List.set_cons_succ]
            refine held_take (i := 25) (v := .bool false) rfl (by kernel_rfl) (by kernel_rfl) (by kernel_rfl) (fun _ _ _ h => h) rfl (fun W1 hW1 => by go_simp) (s0) ?_
            simp only [Act.put, List.setIfInBounds_toArray, List.set_cons_zero, List.set_cons_succ]
            refine wpAnyH_done (by kernel_rfl) ?_ _
            have BD := hid (BB.out.later ((Keeps.refl [] wb).drew))
            have KD := hid KB.out.drew
            clear cT cI s0
            go_wp2_with fail
            go_roundw
            case rel => exact ⟨t, i + 1, htl, rfl, by go_num, by have := HTI.out; omega, hlt, by rw [← HX.out]; exact BD.out, KD.out⟩
            case measure => simp [intOf]; omega
        · obtain rfl : i = l.length := by omega
          clear hlt hil
          go_wp2_with fail
          refine wp_region_any (by kernel_rfl) (wpAny_of_held (S := KpS [] wr.heap.size wr.drew) _ _ _ _ ?_)
          change wpAnyH _ _ _ _ _ _ _ _ wr.drew
          have s0 : KpS [] wr.heap.size wr.drew wr.drew := KpS.refl _ _ _
          have cT : ∀ W1, KpS [] wr.heap.size wr.drew W1 → W1.rangeAt g (off + t * 5) x.cells := fun W1 h i v hv => h.cell (by rw [World.cell?_drew]; exact RT.out i v hv) HG1.out (by simp)
          refine held_take (i := 0) (v := .pointer (some ⟨m, 0, none⟩)) rfl (by kernel_rfl) (by kernel_rfl) (by kernel_rfl) (fun _ _ _ h => h) rfl (fun W1 hW1 => rfl) (KpS.refl _ _ _) ?_
          simp only [Act.put, List.setIfInBounds_toArray, List.set_cons_zero, List.set_cons_succ]
          refine held_take (i := 1) (v := .int .i64 (b : Int)) rfl (by kernel_rfl) (by kernel_rfl) (by kernel_rfl) (fun _ _ _ h => h) rfl (fun W1 hW1 => rfl) (KpS.refl _ _ _) ?_
          simp only [Act.put, List.setIfInBounds_toArray, List.set_cons_zero, List.set_cons_succ]
          refine held_take (i := 3) (v := .slice (some ⟨g, off, none⟩) l.length c) rfl (by kernel_rfl) (by kernel_rfl) (by kernel_rfl) (fun _ _ _ h => h) rfl (fun W1 hW1 => rfl) (KpS.refl _ _ _) ?_
          simp only [Act.put, List.setIfInBounds_toArray, List.set_cons_zero, List.set_cons_succ]
          refine held_take (i := 4) (v := .int .i64 (t : Int)) rfl (by kernel_rfl) (by kernel_rfl) (by kernel_rfl) (fun _ _ _ h => h) rfl (fun W1 hW1 => rfl) (KpS.refl _ _ _) ?_
          simp only [Act.put, List.setIfInBounds_toArray, List.set_cons_zero, List.set_cons_succ]
          refine held_take (i := 5) (v := .pointer (some ⟨g, off + t * 5, none⟩)) rfl (by kernel_rfl) (by kernel_rfl) (by kernel_rfl) (fun _ _ _ h => h) rfl (fun W1 hW1 => by go_simp) (KpS.refl _ _ _) ?_
          simp only [Act.put, List.setIfInBounds_toArray, List.set_cons_zero, List.set_cons_succ]
          refine held_take (i := 6) (v := ptV x) rfl (by kernel_rfl) (by kernel_rfl) (by kernel_rfl) (fun _ _ _ h => h) rfl (fun W1 hW1 => exec_load _ _ _ _ rfl rfl (loadPt_run W1 g (off + t * 5) x (cT W1 hW1))) (KpS.refl _ _ _) ?_
          simp only [Act.put, List.setIfInBounds_toArray, List.set_cons_zero, List.set_cons_succ]
          have bD := B.out.later ((Keeps.refl [] wr).drew)
          refine held_do (i := 2) (by kernel_rfl) rfl rfl (wp_enter (f := 16) (args := #[.pointer (some ⟨m, 0, none⟩), .int .i64 (b : Int)]) (by go_simp) (zAt_any bD (b : Int)) ?_)
          rintro e wa ⟨rfl, ka⟩
          rw [show atB (mvS b x).L (b : Int) = x from mv_at b x]
          have s1 : KpS [] wr.heap.size wr.drew wa := s0.keeps ka s0.size (by simp)
          refine ⟨_, rfl, s1, ?_⟩
          simp only [Act.put, List.setIfInBounds_toArray, List.set_cons_zero, List.set_cons_succ]
          refine held_take (i := 7) (v := .bool true) rfl (by kernel_rfl) (by kernel_rfl) (by kernel_rfl) (fun _ _ _ h => h) rfl (fun W1 hW1 => (exec_eqPts _ _ _ x x rfl rfl rfl).trans (by rw [eqP_is.2 (rfl : x = x)])) (s1) ?_
          simp only [Act.put, List.setIfInBounds_toArray, List.set_cons_zero, List.set_cons_succ]
          refine held_take (i := 8) (v := .bool true) rfl (by kernel_rfl) (by kernel_rfl) (by kernel_rfl) (fun _ _ _ h => h) rfl (fun W1 hW1 => rfl) (s1) ?_
          simp only [Act.put, List.setIfInBounds_toArray, List.set_cons_zero, List.set_cons_succ]
          refine held_takeW (i := 9) (v := .pointer (some ⟨m, 0, none⟩)) rfl (by kernel_rfl) (by kernel_rfl) (by kernel_rfl) (fun _ _ _ h => h) rfl (fun W1 hW1 => rfl) (s1) ?_
          simp only [Act.put, List.setIfInBounds_toArray, List.set_cons_zero, List.set_cons_succ]
          have bA := bD.later ka
          refine held_doW (i := 10) (by kernel_rfl) rfl rfl (wp_enter (f := 29) (args := #[.pointer (some ⟨m, 0, none⟩)]) (by go_simp) (zPtrs_any bA (fun b hb => by simp at hb; rw [hb]; exact bA.lt)) ?_)
          rintro e wb ⟨a6, c6, rfl, o6, k6⟩
          rw [show (mvS b x).L.filter keepZ = [x] from mv_ptrs b x FT.out.2] at o6 ⊢
          have s2 : KpS [] wr.heap.size wr.drew wb := s1.keeps k6 s1.size (by simp)
          refine ⟨_, rfl, s2, ?_⟩
          simp only [Act.put, List.setIfInBounds_toArray, List.set_cons_zero, List.set_cons_succ]
          refine held_takeW (i := 11) (v := .int .i64 1) rfl (by kernel_rfl) (by kernel_rfl) (by kernel_rfl) (fun _ _ _ h => h) rfl (fun W1 hW1 => by go_simp) (s2) ?_
          simp only [Act.put, List.setIfInBounds_toArray, List.set_cons_zero, List.set_cons_succ]
          refine held_takeW (i := 12) (v := .bool true) rfl (by kernel_rfl) (by kernel_rfl) (by kernel_rfl) (fun _ _ _ h => h) rfl (fun W1 hW1 => by go_simp) (s2) ?_
          simp only [Act.put, List.setIfInBounds_toArray, List.set_cons_zero, List.set_cons_succ]
          refine held_take (i := 13) (v := .bool true) rfl (by kernel_rfl) (by kernel_rfl) (by kernel_rfl) (fun _ _ _ h => h) rfl (fun W1 hW1 => by go_simp) (s2) ?_
          simp only [Act.put, List.setIfInBounds_toArray, List.set_cons_zero, List.set_cons_succ]
          refine held_take (i := 14) (v := .bool true) rfl (by kernel_rfl) (by kernel_rfl) (by kernel_rfl) (fun _ _ _ h => h) rfl (fun W1 hW1 => rfl) (s2) ?_
          simp only [Act.put, List.setIfInBounds_toArray, List.set_cons_zero, List.set_cons_succ]
          refine wpAnyH_done (by kernel_rfl) ?_ _
          have KF := hid (K.out.drew.trans (ka.trans k6))
          clear cT s0 s1 s2 ka k6 bD bA o6
          go_wp2_with fail
          go_ret
          exact ⟨rfl, KF.out⟩
end Go.Proofs.Ytdfhoanilbfkiaa
