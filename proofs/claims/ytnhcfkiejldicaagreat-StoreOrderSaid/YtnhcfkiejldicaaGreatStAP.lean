/- StAP. -/
import Derived.Test.YtnhcfkiejldicaaGreatSlP
import Derived.Test.YtnhcfkiejldicaaGreatDkC
import Derived.DeepKeys4
import Derived.Test.YtnhcfkiejldicaaGreatDkT
import Derived.Maps.RangeWalk
import Derived.RangeFuncGives
import Derived.RangeFuncStops
import Derived.RangeFuncKeeps
import Derived.RangeFuncNested
import Derived.Test.YtnhcfkiejldicaaGreatDkN

/- store: what an id is; whether it may be; its key. -/
namespace Go.Proofs.YtnhcfkiejldicaaGreat
open Go.RowKit Go.Shelf
set_option maxRecDepth 100000

structure Idn where
  c : Int
  l : Int
  n : Int
  i : Int
deriving DecidableEq
def Idn.cells (x : Idn) : List Value := [.int .i64 x.c, .int .i64 x.l, .int .i64 x.n, .int .i64 x.i]
def idV (x : Idn) : Value := .agg #[.int .i64 x.c, .int .i64 x.l, .int .i64 x.n, .int .i64 x.i]
def withinB (x most : Int) : Bool := decide (0 ≤ x) && decide (x ≤ most)
/-- May the id be? -/
def mayI (x : Idn) : Bool := withinB x.c 4 && withinB x.l 1048576 && withinB x.n 1073741824 && withinB x.i 15
/-- Its key. -/
def keyI (x : Idn) : List Int := be x.c 1 ++ be x.l 3 ++ be x.n 4 ++ be x.i 1
theorem keyI_len (x : Idn) : (keyI x).length = 9 := by simp [keyI, be_length]
theorem mayI_is {x : Idn} : mayI x = true ↔ (0 ≤ x.c ∧ x.c ≤ 4) ∧ (0 ≤ x.l ∧ x.l ≤ 1048576) ∧ (0 ≤ x.n ∧ x.n ≤ 1073741824) ∧ 0 ≤ x.i ∧ x.i ≤ 15 := by
  simp only [mayI, withinB, Bool.and_eq_true, decide_eq_true_eq]
  omega

theorem within_any (w : World) (x most : Int) : Calls Tryz.prog 80 #[.int .i64 x, .int .i64 most] w fun e w' => e = .returned (.bool (withinB x most)) ∧ w = w' := by
  unfold withinB
  by_cases h0 : 0 ≤ x
  · by_cases h1 : x ≤ most
    · go_enter Tryz.func80, Tryz.ntmps80
      go_wp2_with fail
      go_ret
      exact ⟨by simp [h0, h1], rfl⟩
    · go_enter Tryz.func80, Tryz.ntmps80
      go_wp2_with fail
      go_ret
      exact ⟨by simp [h1], rfl⟩
  · go_enter Tryz.func80, Tryz.ntmps80
    go_wp2_with fail
    go_ret
    exact ⟨by simp; omega, rfl⟩

theorem may_any (w : World) (x : Idn) : Calls Tryz.prog 48 #[idV x] w fun e w' => e = .returned (.bool (mayI x)) ∧ Keeps [] w w' := by
  unfold idV mayI
  have KB := hid ((Keeps.refl [] w).alloc (.cells #[.int .i64 x.c, .int .i64 x.l, .int .i64 x.n, .int .i64 x.i] 36))
  cases h1 : withinB x.c 4 with
  | false =>
    go_enter Tryz.func48, Tryz.ntmps48
    go_wp2_with fail
    refine (within_any _ x.c 4).mono ?_
    rw [h1]
    rintro e _ ⟨rfl, rfl⟩
    go_wp2_with fail
    go_ret
    exact ⟨rfl, KB.out⟩
  | true =>
    cases h2 : withinB x.l 1048576 with
    | false =>
      go_enter Tryz.func48, Tryz.ntmps48
      go_wp2_with fail
      refine (within_any _ x.c 4).mono ?_
      rw [h1]
      rintro e _ ⟨rfl, rfl⟩
      go_wp2_with fail
      refine (within_any _ x.l 1048576).mono ?_
      rw [h2]
      rintro e _ ⟨rfl, rfl⟩
      go_wp2_with fail
      go_ret
      exact ⟨rfl, KB.out⟩
    | true =>
      cases h3 : withinB x.n 1073741824 with
      | false =>
        go_enter Tryz.func48, Tryz.ntmps48
        go_wp2_with fail
        refine (within_any _ x.c 4).mono ?_
        rw [h1]
        rintro e _ ⟨rfl, rfl⟩
        go_wp2_with fail
        refine (within_any _ x.l 1048576).mono ?_
        rw [h2]
        rintro e _ ⟨rfl, rfl⟩
        go_wp2_with fail
        refine (within_any _ x.n 1073741824).mono ?_
        rw [h3]
        rintro e _ ⟨rfl, rfl⟩
        go_wp2_with fail
        go_ret
        exact ⟨rfl, KB.out⟩
      | true =>
        go_enter Tryz.func48, Tryz.ntmps48
        go_wp2_with fail
        refine (within_any _ x.c 4).mono ?_
        rw [h1]
        rintro e _ ⟨rfl, rfl⟩
        go_wp2_with fail
        refine (within_any _ x.l 1048576).mono ?_
        rw [h2]
        rintro e _ ⟨rfl, rfl⟩
        go_wp2_with fail
        refine (within_any _ x.n 1073741824).mono ?_
        rw [h3]
        rintro e _ ⟨rfl, rfl⟩
        go_wp2_with fail
        refine (within_any _ x.i 15).mono ?_
        rintro e _ ⟨rfl, rfl⟩
        go_wp2_with fail
        go_ret
        exact ⟨by simp, KB.out⟩

theorem keyP1 {x : Int} (h : 0 ≤ x ∧ x ≤ 4) : penNum x 1 ([], 0) = (be x 1, 0) := by
  have e : (2 : Int) ^ (8 * (1 : Int).toNat) = 256 := by decide
  rw [penNum_ok (by omega) (by omega) (by omega) (by rw [e]; omega) rfl (by simp)]
  rfl
theorem keyP2 {x : Int} (h : 0 ≤ x ∧ x ≤ 1048576) (s : List Int) (hs : s.length ≤ 100) : penNum x 3 (s, 0) = (s ++ be x 3, 0) := by
  have e : (2 : Int) ^ (8 * (3 : Int).toNat) = 16777216 := by decide
  rw [penNum_ok (by omega) (by omega) (by omega) (by rw [e]; omega) rfl (by have : (3 : Int).toNat = 3 := rfl; show s.length + _ ≤ _; omega)]
  rfl
theorem keyP3 {x : Int} (h : 0 ≤ x ∧ x ≤ 1073741824) (s : List Int) (hs : s.length ≤ 100) : penNum x 4 (s, 0) = (s ++ be x 4, 0) := by
  have e : (2 : Int) ^ (8 * (4 : Int).toNat) = 4294967296 := by decide
  rw [penNum_ok (by omega) (by omega) (by omega) (by rw [e]; omega) rfl (by have : (4 : Int).toNat = 4 := rfl; show s.length + _ ≤ _; omega)]
  rfl
theorem keyP4 {x : Int} (h : 0 ≤ x ∧ x ≤ 15) (s : List Int) (hs : s.length ≤ 100) : penNum x 1 (s, 0) = (s ++ be x 1, 0) := by
  have e : (2 : Int) ^ (8 * (1 : Int).toNat) = 256 := by decide
  rw [penNum_ok (by omega) (by omega) (by omega) (by rw [e]; omega) rfl (by have : (1 : Int).toNat = 1 := rfl; show s.length + _ ≤ _; omega)]
  rfl

/-- Key. -/
theorem key_any (w : World) (x : Idn) : Calls Tryz.prog 25 #[idV x] w fun e w' => ∃ a c, e = .returned (.tuple #[.slice a (if mayI x then keyI x else []).length c, .int .i64 (if mayI x then 0 else 1)]) ∧
    RowAt w' (.slice a (if mayI x then keyI x else []).length c) (if mayI x then keyI x else []) ∧ (∀ ad, a = some ad → w.heap.size ≤ ad.block) ∧ Keeps [] w w' := by
  cases hm : mayI x with
  | false =>
    simp only [Bool.false_eq_true, if_false]
    unfold idV
    have KB := hid ((Keeps.refl [] w).alloc (.cells #[.int .i64 x.c, .int .i64 x.l, .int .i64 x.n, .int .i64 x.i] 36))
    go_enter Tryz.func25, Tryz.ntmps25
    go_wp2_with fail
    have my := may_any (w.alloc (.cells #[.int .i64 x.c, .int .i64 x.l, .int .i64 x.n, .int .i64 x.i] 36)) x
    rw [hm] at my
    unfold idV at my
    refine my.mono ?_
    rintro e w2 ⟨rfl, k2⟩
    have K2 := hid (KB.out.trans k2)
    clear k2 my
    go_wp2_with fail
    go_ret2
    exact ⟨none, 0, rfl, RowAt.nil w2, (fun ad h => by cases h), K2.out⟩
  | true =>
    simp only [if_true]
    obtain ⟨h1, h2, h3, h4⟩ := mayI_is.1 hm
    obtain ⟨s1, e1⟩ : ∃ s, s = be x.c 1 := ⟨_, rfl⟩
    obtain ⟨s2, e2⟩ : ∃ s, s = s1 ++ be x.l 3 := ⟨_, rfl⟩
    obtain ⟨s3, e3⟩ : ∃ s, s = s2 ++ be x.n 4 := ⟨_, rfl⟩
    have e4 : keyI x = s3 ++ be x.i 1 := by rw [e3, e2, e1]; rfl
    have l1 : s1.length = 1 := by rw [e1, be_length]
    have l2 : s2.length = 4 := by rw [e2, List.length_append, be_length, l1]
    have l3 : s3.length = 8 := by rw [e3, List.length_append, be_length, l2]
    have Q1 := hid (keyP1 h1)
    have Q2 := hid (keyP2 h2 s1 (by omega))
    have Q3 := hid (keyP3 h3 s2 (by omega))
    have Q4 := hid (keyP4 h4 s3 (by omega))
    rw [← e1] at Q1
    rw [← e2] at Q2
    rw [← e3] at Q3
    rw [← e4] at Q4
    generalize keyI x = s4 at Q4 ⊢
    clear e1 e2 e3 e4 l1 l2 l3 h1 h2 h3 h4
    unfold idV
    have KB := hid ((Keeps.refl [] w).alloc (.cells #[.int .i64 x.c, .int .i64 x.l, .int .i64 x.n, .int .i64 x.i] 36))
    have B1 := hid (heap_alloc_new w (.cells #[.int .i64 x.c, .int .i64 x.l, .int .i64 x.n, .int .i64 x.i] 36))
    go_enter Tryz.func25, Tryz.ntmps25
    go_wp2_with fail
    have my := may_any (w.alloc (.cells #[.int .i64 x.c, .int .i64 x.l, .int .i64 x.n, .int .i64 x.i] 36)) x
    rw [hm] at my
    unfold idV at my
    refine my.mono ?_
    rintro e wb ⟨rfl, k2⟩
    have K2 := hid (KB.out.trans k2)
    have B2 : Hid (wb.heap[w.heap.size]? = some (.cells #[.int .i64 x.c, .int .i64 x.l, .int .i64 x.n, .int .i64 x.i] 36 (0, 0))) := hid ((k2.block _ (lt_of_block B1.out) (by simp)).trans B1.out)
    clear k2 my KB B1
    have HZ := hid (lt_of_block B2.out)
    have c0 : (wb.alloc (.cells #[.slice none 0 0, .int .i64 0] 95)).cell? ⟨w.heap.size, 0, none⟩ = some (.int .i64 x.c) := by
      have := (((Keeps.refl [] wb).alloc (.cells #[.slice none 0 0, .int .i64 0] 95)).block _ HZ.out (by simp)).trans B2.out
      simp [World.cell?, this]
    go_wp2_with fail
    have P1 := hid (PenSince.new wb (Keeps.refl [] wb) 95)
    refine (num_any _ wb.heap.size wb.heap.size _ [] 0 x.c 1 P1.out.pen P1.out.kept.size).mono ?_
    intro e w2 hq
    obtain ⟨rfl, v2, q2⟩ := P1.out.step hq
    rw [Q1.out] at q2
    simp only at q2
    have P2 := hid q2
    have c1 : w2.cell? ⟨w.heap.size, 1, none⟩ = some (.int .i64 x.l) := by
      have := (q2.kept.block w.heap.size HZ.out (by simp)).trans B2.out
      simp [World.cell?, this]
    clear q2 hq c0
    go_wp2_with fail
    refine (num_any w2 wb.heap.size wb.heap.size v2 s1 0 x.l 3 P2.out.pen P2.out.kept.size).mono ?_
    intro e w3 hq
    obtain ⟨rfl, v3, q2⟩ := P2.out.step hq
    rw [Q2.out] at q2
    simp only at q2
    have P3 := hid q2
    have c2 : w3.cell? ⟨w.heap.size, 2, none⟩ = some (.int .i64 x.n) := by
      have := (q2.kept.block w.heap.size HZ.out (by simp)).trans B2.out
      simp [World.cell?, this]
    clear q2 hq c1
    go_wp2_with fail
    refine (num_any w3 wb.heap.size wb.heap.size v3 s2 0 x.n 4 P3.out.pen P3.out.kept.size).mono ?_
    intro e w4 hq
    obtain ⟨rfl, v4, q2⟩ := P3.out.step hq
    rw [Q3.out] at q2
    simp only at q2
    have P4 := hid q2
    have c3 : w4.cell? ⟨w.heap.size, 3, none⟩ = some (.int .i64 x.i) := by
      have := (q2.kept.block w.heap.size HZ.out (by simp)).trans B2.out
      simp [World.cell?, this]
    clear q2 hq c2
    go_wp2_with fail
    refine (num_any w4 wb.heap.size wb.heap.size v4 s3 0 x.i 1 P4.out.pen P4.out.kept.size).mono ?_
    intro e w5 hq
    obtain ⟨rfl, v5, q2⟩ := P4.out.step hq
    rw [Q4.out] at q2
    simp only at q2
    have P5 := hid q2
    clear q2 hq c3
    go_wp2_with fail
    refine (bytes_any w5 wb.heap.size wb.heap.size v5 s4 0 P5.out.pen).mono ?_
    intro e w6 hq
    obtain ⟨a, c, rfl, q1, q2, q3⟩ := hq.good
    have R5 := hid q1
    have K5 := hid (P5.out.kept.trans q3)
    have N5 := hid (fun ad (h : a = some ad) => Nat.le_trans (Nat.le_trans K2.out.size P5.out.kept.size) (q2 ad h))
    clear q1 q2 q3 hq
    go_wp2_with fail
    go_ret2
    exact ⟨_, _, rfl, R5.out, N5.out, K2.out.trans K5.out⟩
end Go.Proofs.YtnhcfkiejldicaaGreat


/- store: the map of ids: what it reads as; a look-up, a store, a delete. -/
namespace Go.Proofs.YtnhcfkiejldicaaGreat
open Go.RowKit Go.Shelf Go.Maps
set_option maxRecDepth 100000

theorem idKeyed : Keyed Tryz.prog 36 := Keyed.of_law (deep_law_laid laidOut (m := 3) (by omega) (of_decide_eq_true (by kernel_rfl)) (by kernel_rfl) (by rw [Tryz.underlying36]))
/-- Numbers that are Go's. -/
def Idn.In (x : Idn) : Prop := i64 x.c ∧ i64 x.l ∧ i64 x.n ∧ i64 x.i
theorem cellsId : Tryz.prog.cellsOf 36 = 4 := by kernel_rfl
theorem cellsStripe : Tryz.prog.cellsOf 34 = 3 := by kernel_rfl
theorem cellsInt1 : Tryz.prog.cellsOf 3 = 1 := by kernel_rfl
theorem keyId : Tryz.prog.keyType 36 = true := by kernel_rfl
theorem key_some (x : Idn) (h : x.In) : ∃ l, keyOf Tryz.prog 36 (idV x) = some l := by
  obtain ⟨h1, h2, h3, h4⟩ := h
  obtain ⟨n, hn⟩ : ∃ n, Tryz.prog.types.size + 1 = n + 4 := ⟨Tryz.prog.types.size + 1 - 4, by have : 4 ≤ Tryz.prog.types.size + 1 := of_decide_eq_true (by kernel_rfl); omega⟩
  have w1 : (Lit.int .i64 x.c).wf = true := WalkArith.wf_i64 h1
  have w2 : (Lit.int .i64 x.l).wf = true := WalkArith.wf_i64 h2
  have w3 : (Lit.int .i64 x.n).wf = true := WalkArith.wf_i64 h3
  have w4 : (Lit.int .i64 x.i).wf = true := WalkArith.wf_i64 h4
  unfold keyOf
  rw [Tryz.underlying36, hn]
  simp [keyId, idV, Value.formed, Tryz.underlying36, Tryz.underlying34, Tryz.underlying3, cellsId, cellsStripe, cellsInt1, Program.keyLits, Value.cells, w1, w2, w3, w4]
  rw [if_pos (by intro i hi; match i, hi with | 0, _ => simp | 1, _ => simp | 2, _ => simp)]
  exact ⟨_, rfl⟩
noncomputable def kI (x : Idn) : Lit := (keyOf Tryz.prog 36 (idV x)).getD .nil
theorem key_id {x : Idn} (h : x.In) : keyOf Tryz.prog 36 (idV x) = some (kI x) := by
  obtain ⟨l, hl⟩ := key_some x h
  unfold kI
  rw [hl]
  rfl
theorem idV_inj {x y : Idn} (h : idV x = idV y) : x = y := by
  obtain ⟨a, b, c, d⟩ := x
  obtain ⟨a', b', c', d'⟩ := y
  simp [idV] at h
  obtain ⟨rfl, rfl, rfl, rfl⟩ := h
  rfl
theorem kI_inj {x y : Idn} (hx : x.In) (hy : y.In) (h : kI x = kI y) : x = y := idV_inj (idKeyed.inj (key_id hx) (by rw [h]; exact key_id hy))

def RV (v : Value) : Option (DataW Value × List MemPlace) := some (.held v, [])
abbrev vnil : Value := .slice none 0 0
/-- Block m is a map of at most n entries: under x it has f x, where that is not nil. -/
def MapW (w : World) (m n c : Nat) (f : Idn → Value) : Prop :=
  ∃ D : DataW Value, w.ownsMap Tryz.prog 36 RV m n D ∧ (∀ x, x.In → D.atKey (kI x) (.held vnil) = .held (f x)) ∧ (∀ x, x.In → (Maps.has D (kI x) = true ↔ f x ≠ vnil)) ∧ (∀ k, Maps.has D k = true → ∃ x, x.In ∧ k = kI x) ∧ Maps.size D = c

def updI (f : Idn → Value) (x : Idn) (v : Value) : Idn → Value := fun y => if y = x then v else f y
theorem updI_same (f : Idn → Value) (x : Idn) (v : Value) : updI f x v x = v := by simp [updI]
theorem updI_ne (f : Idn → Value) {x y : Idn} (v : Value) (h : y ≠ x) : updI f x v y = f y := by simp [updI, h]

theorem MapW.made (w : World) : MapW (w.alloc (.map #[] 0)) w.heap.size 0 0 fun _ => vnil :=
  ⟨.map [], World.ownsMap_made _ _ _ _, fun x _ => by simp [DataW.atKey], fun x _ => by simp [Maps.has], fun k h => by simp [Maps.has] at h, rfl⟩
theorem MapW.lt {w : World} {m n c : Nat} {f} (h : MapW w m n c f) : m < w.heap.size := by
  obtain ⟨D, ho, _⟩ := h
  exact ho.lt
theorem MapW.mono {w : World} {m n n' c : Nat} {f} (h : MapW w m n c f) (hn : n ≤ n') : MapW w m n' c f := by
  obtain ⟨D, ho, r⟩ := h
  exact ⟨D, ho.mono hn, r⟩
theorem MapW.block {w w' : World} {m n c : Nat} {f} (h : MapW w m n c f) (hb : w'.heap[m]? = w.heap[m]?) : MapW w' m n c f := by
  obtain ⟨D, ⟨es, clock, h1, h2⟩, r⟩ := h
  exact ⟨D, ⟨es, clock, hb.trans h1, h2⟩, r⟩
theorem MapW.keep {w w' : World} {m n c : Nat} {f} {S : List Nat} (h : MapW w m n c f) (k : Keeps S w w') (hm : m ∉ S) : MapW w' m n c f := h.block (k.block m h.lt hm)

theorem iInts : (Tryz.prog.info? 58).map (fun i => (i.zero, i.size)) = some (some vnil, 1) := by kernel_rfl
theorem zeroInts (w : World) : (zeroValue 58).run Tryz.prog w = .ok vnil w := by
  cases hq : Tryz.prog.info? 58 with
  | none => have := iInts; simp [hq] at this
  | some i => have := iInts; simp [hq] at this; simp [zeroValue, typeInfo, hq, this, Result.andThen]

theorem MapW.look {w : World} {m n c : Nat} {f} (h : MapW w m n c f) {x : Idn} (hx : x.In) : (Instr.lookup 55 (.map (some m)) (idV x) false).run Tryz.prog w = .ok (f x) w := by
  obtain ⟨D, ho, hr, _⟩ := h
  obtain ⟨v, ps, hrun, hv⟩ := ho.lookup idKeyed Tryz.underlying55 (zeroInts w) (show RV vnil = some (.held vnil, []) from rfl) (key_id hx)
  rw [hr x hx] at hv
  have hv2 : RV v = some (.held (f x), ps) := hv
  unfold RV at hv2
  injection hv2 with hv2
  injection hv2 with hv2 _
  injection hv2 with hv2
  rw [hrun, hv2]

theorem MapW.store {w : World} {m n c : Nat} {f} (h : MapW w m n c f) {x : Idn} (hx : x.In) (hn : n < 140737488351232) (v : Value) (hv : v ≠ vnil) :
    ∃ w' c', (Instr.mapUpdate 55 (.map (some m)) (idV x) v).run Tryz.prog w = .ok () w' ∧ MapW w' m (n + 1) c' (updI f x v) ∧ (f x = vnil → c' = c + 1) ∧ (f x ≠ vnil → c' = c) ∧ Keeps [m] w w' := by
  obtain ⟨D, ho, hr, hh, hk, hc⟩ := h
  obtain ⟨w', hrun, ho', hg⟩ := ho.update idKeyed Tryz.underlying55 (by unfold maxLen; omega) (key_id hx) (show RV v = some (.held v, []) from rfl)
  refine ⟨w', _, hrun, ⟨_, ho', fun y hy => ?_, fun y hy => ?_, fun k hk' => ?_, rfl⟩, fun hz => ?_, fun hz => ?_, (Keeps.refl _ _).grown hg fun k hk => Or.inl (by injection hk with hk; simp [hk])⟩
  · by_cases e : y = x
    · subst e
      rw [updI_same]
      exact atKey_put_same (k := kI y) ho.isMap (idKeyed.key (key_id hx)) _ _
    · rw [updI_ne _ _ e, ← hr y hy]
      exact atKey_put_other (fun e' => e (kI_inj hy hx e')) _ _
  · by_cases e : y = x
    · subst e
      rw [updI_same]
      exact ⟨fun _ => hv, fun _ => has_put_same ho.isMap (idKeyed.key (key_id hx)) _⟩
    · rw [updI_ne _ _ e, ← hh y hy, has_put_other (fun e' => e (kI_inj hy hx e'))]
  · by_cases e : k = kI x
    · exact ⟨x, hx, e⟩
    · rw [has_put_other e] at hk'
      exact hk k hk'
  · rw [size_put (ho.tidy idKeyed), hc, if_neg (fun hb => (hh x hx).1 hb hz)]
  · rw [size_put (ho.tidy idKeyed), hc, if_pos ((hh x hx).2 hz)]

theorem MapW.drop {w : World} {m n c : Nat} {f} (h : MapW w m n c f) {x : Idn} (hx : x.In) (ty : TypeId) :
    ∃ w' c', (Builtin.delete_ #[55, 36] ty #[.map (some m), idV x]).run Tryz.prog w = .ok (.tuple #[]) w' ∧ MapW w' m n c' (updI f x vnil) ∧ (f x = vnil → c' = c) ∧ (f x ≠ vnil → c' + 1 = c) ∧ Keeps [m] w w' := by
  obtain ⟨D, ho, hr, hh, hk, hc⟩ := h
  obtain ⟨w', hrun, ho', ht⟩ := ho.drop idKeyed Tryz.underlying55 (key_id hx) ty
  refine ⟨w', _, hrun, ⟨_, ho', fun y hy => ?_, fun y hy => ?_, fun k hk' => ?_, rfl⟩, fun hz => ?_, fun hz => ?_, (Keeps.refl _ _).grown ht.grown fun k hk => Or.inl (by injection hk with hk; simp [hk])⟩
  · by_cases e : y = x
    · subst e
      rw [updI_same]
      exact atKey_del_same _
    · rw [updI_ne _ _ e, ← hr y hy]
      exact atKey_del_other (fun e' => e (kI_inj hy hx e')) _
  · by_cases e : y = x
    · subst e
      rw [updI_same, has_del_same]
      simp
    · rw [updI_ne _ _ e, ← hh y hy, has_del_other (fun e' => e (kI_inj hy hx e'))]
  · by_cases e : k = kI x
    · rw [e, has_del_same] at hk'
      cases hk'
    · rw [has_del_other e] at hk'
      exact hk k hk'
  · have hs := size_del (ho.tidy idKeyed) (k := kI x)
    rw [hc, if_neg (fun hb => (hh x hx).1 hb hz)] at hs
    omega
  · have hs := size_del (ho.tidy idKeyed) (k := kI x)
    rw [hc, if_pos ((hh x hx).2 hz)] at hs
    omega
end Go.Proofs.YtnhcfkiejldicaaGreat


/- store: the sector that says that there is a store; the heads are made noughts. -/
namespace Go.Proofs.YtnhcfkiejldicaaGreat
open Go.RowKit Go.Shelf
set_option maxRecDepth 100000

theorem iMark : (Tryz.prog.info? 81).map (fun i => (i.zero, i.size)) = some (some (rowV zrow), 64) := by kernel_rfl
theorem sMark : (Tryz.prog.info? 81).map (·.size) = some 64 := by kernel_rfl
theorem zeroMark (w : World) : (zeroValue 81).run Tryz.prog w = .ok (rowV zrow) w := by
  cases hq : Tryz.prog.info? 81 with
  | none => have := iMark; simp [hq] at this
  | some i => have := iMark; simp [hq] at this; simp [zeroValue, typeInfo, hq, this.1]
/-- The sector that begins with n. -/
def mrow : Bool → Row
  | false => ⟨1 :: List.replicate 63 0, by simp, by intro z hz; simp at hz; omega⟩
  | true => ⟨2 :: List.replicate 63 0, by simp, by intro z hz; simp at hz; omega⟩
def mnum (b : Bool) : Int := if b then 2 else 1
theorem built1 (w : World) : (Instr.build 81 #[(0, .int .u8 1)]).run Tryz.prog w = .ok (rowV (mrow false)) w := by kernel_rfl
theorem built2 (w : World) : (Instr.build 81 #[(0, .int .u8 2)]).run Tryz.prog w = .ok (rowV (mrow true)) w := by kernel_rfl
theorem built_mark (b : Bool) (w : World) : (Instr.build 81 #[(0, .int .u8 (mnum b))]).run Tryz.prog w = .ok (rowV (mrow b)) w := by
  cases b
  · exact built1 w
  · exact built2 w
theorem arrLenMark : Tryz.prog.arrayLen 81 = 64 := by kernel_rfl
theorem arrElemMark : Tryz.prog.elem 81 = 5 := by kernel_rfl
theorem run_sliceMark (b : Nat) (w : World) : (Instr.sliceAt 81 (.pointer (some ⟨b, 0, none⟩)) none none none).run Tryz.prog w = .ok (.slice (some ⟨b, 0, none⟩) 64 64) w := by
  obtain ⟨i0, hi, hz0, hz1, hz2⟩ := info_parts info5
  rw [run_sliceAt_array_all w 81 ⟨b, 0, none⟩ (by rw [arrLenMark, arrElemMark]; exact Tryz.underlying81), arrElemMark, arrLenMark]
  simp [sizeOf, typeInfo, hi, Result.andThen, slicedAt, Addr.add]
section
variable {ops : Array Oper} {rest : List Oper} {o : Oper} {a : Act} {w : World} {Q : Exit → Act → World → Prop}
theorem wpList_allocMark (hgd : o.guard = none) (ho : o.op = .alloc 81)
    (h : wpList Tryz.prog ops Q rest (a.put o.dst (.pointer (some ⟨w.heap.size, 0, none⟩))) (w.alloc (.cells zrow.cells.toArray 81))) : wpList Tryz.prog ops Q (o :: rest) a w := by
  refine wpList_is hgd _ _ ?_ h
  simp only [execOp, ho, Instr.alloc, newVar, newRow, Sem.run_bind, zeroMark, rowV_cells, Result.andThen_ok, Sem.run_pure, run_newObj_alloc]
theorem wpList_buildMark (hgd : o.guard = none) (x : Operand) (ho : o.op = .build 81 #[(0, x)]) (b : Bool) (hx : a.eval x = .int .u8 (mnum b))
    (h : wpList Tryz.prog ops Q rest (a.put o.dst (rowV (mrow b))) w) : wpList Tryz.prog ops Q (o :: rest) a w := by
  refine wpList_is hgd _ _ ?_ h
  have := built_mark b w
  simp only [execOp, ho, List.map_toArray, List.map_cons, List.map_nil, hx, Sem.run_bind, this, Result.andThen_ok, Sem.run_pure]
theorem wpList_storeMarkNew (hgd : o.guard = none) (x y : Operand) (ho : o.op = .store 81 x y) (W : World) (p r : Row) (hw : w = W.alloc (.cells p.cells.toArray 81)) (N : Nat) (hx : a.eval x = .pointer (some ⟨N, 0, none⟩)) (hN : N = W.heap.size)
    (hy : a.eval y = rowV r) (h : wpList Tryz.prog ops Q rest (a.put o.dst undef) (W.alloc (.cells r.cells.toArray 81))) : wpList Tryz.prog ops Q (o :: rest) a w := by
  subst hN
  exact wpList_storeNew hgd 81 x y ho W _ _ hw hx hy (by rw [sMark]; simp) (by simp) (all_oneCell_toArray r.one) h
end

/-- Sector 0 says that there is a store. -/
def sealS (s : DS) (b : Bool) : DS := syncS (writeS s 0 (mrow b).1)
theorem sealS_cnt (s : DS) (b : Bool) : (sealS s b).cnt = s.cnt := by rw [sealS, syncS_cnt, writeS_cnt]
theorem readMarkRow (w : World) (b : Bool) : RowAt (w.alloc (.cells (mrow b).cells.toArray 81)) (.slice (some ⟨w.heap.size, 0, none⟩) 64 64) (mrow b).1 := by
  refine ⟨_, 64, by rw [(mrow b).2.1], by rw [(mrow b).2.1]; omega, by unfold maxLen; omega, by simp, (mrow b).2.2, fun ad had j u hu => ?_⟩
  obtain rfl := Option.some.inj had
  rw [Addr.add_mid, Nat.zero_add, cell_of_row _ _ j _ _ (0, 0) (heap_alloc_new w _)]
  simpa [Row.cells] using hu

set_option maxHeartbeats 3200000 in
theorem mark_any (w : World) (p : Nat) (s : DS) (F : List Nat) (K : Nat) (D : DiskAt w p s F K) (hK : K ≤ 100000000) (b : Bool) :
    Calls Tryz.prog 21 #[.pointer (some ⟨p, 0, none⟩), .int .u8 (mnum b)] w fun e w' => e = .returned (.int .i64 (deadE (sealS s b))) ∧ ∃ F', DiskAt w' p (sealS s b) F' (K + 4) ∧ Keeps F w w' ∧ Fresh w F F' := by
  have HD := hid D
  have hlo := D.1.lo
  have SLM := run_sliceMark
  have we : writeE s 0 (mrow b).1.length = deadE (writeS s 0 (mrow b).1) := writeE_is (s := s) (k := 0) (zs := (mrow b).1) (by omega) (mrow b).2.1
  have SY := hid (syncE_is (writeS s 0 (mrow b).1))
  rw [show sealS s b = syncS (writeS s 0 (mrow b).1) from rfl]
  obtain ⟨s1, hs1⟩ : ∃ x, x = writeS s 0 (mrow b).1 := ⟨_, rfl⟩
  rw [← hs1] at we SY ⊢
  have HS1 := hid hs1
  have WE := hid we
  have hW : Hid (∀ (e : Ending) (w' : World), (e = .returned (.int .i64 (writeE s 0 (mrow b).1.length)) ∧ ∃ F', DiskAt w' p (writeS s 0 (mrow b).1) F' (K + 2) ∧ Keeps F (w.alloc (.cells (mrow b).cells.toArray 81)) w' ∧ Fresh (w.alloc (.cells (mrow b).cells.toArray 81)) F F') →
      e = .returned (.int .i64 (deadE s1)) ∧ ∃ F', DiskAt w' p s1 F' (K + 2) ∧ Keeps F w w' ∧ Fresh w F F') := hid (by
    rintro e w' ⟨rfl, F', h1, h2, h3⟩
    have kA : Keeps [] w (w.alloc (.cells (mrow b).cells.toArray 81)) := (Keeps.refl [] w).alloc _
    exact ⟨by rw [WE.out], F', by rw [HS1.out]; exact h1, (kA.mono (by simp)).trans h2, fun j hj => (h3 j hj).imp id (fun h => Nat.le_trans kA.size h)⟩)
  clear D hlo we hs1
  cases hd : s1.dead with
  | true =>
    have e1 : deadE s1 = 14 := by simp [deadE, hd]
    have e2 : syncS s1 = s1 := syncS_dead hd
    rw [e2, e1]
    rw [e1] at hW
    clear hd e1 e2
    go_enter Tryz.func21, Tryz.ntmps21
    go_wp2_with (first | (refine wpList_allocMark rfl rfl ?_) | (refine wpList_buildMark rfl _ rfl b rfl ?_) | (refine wpList_storeMarkNew rfl _ _ rfl _ _ _ rfl _ rfl rfl rfl ?_) | fail)
    refine (write_any _ p s F K (HD.out.keep ((Keeps.refl [] w).alloc _) (by simp)) (by omega) 0 _ (mrow b).1 (readMarkRow w b)).mono ?_
    intro e w1 hp
    obtain ⟨rfl, F1, d1, k1, f1⟩ := hW.out e w1 hp
    have R := hid (And.intro d1 (And.intro k1 f1))
    clear d1 k1 f1 hp
    go_wp2_with fail
    go_ret
    exact ⟨rfl, F1, R.out.1.mono (by omega), R.out.2.1, R.out.2.2⟩
  | false =>
    have e1 : deadE s1 = 0 := by simp [deadE, hd]
    rw [e1] at hW
    clear hd e1
    rw [← SY.out]
    go_enter Tryz.func21, Tryz.ntmps21
    go_wp2_with (first | (refine wpList_allocMark rfl rfl ?_) | (refine wpList_buildMark rfl _ rfl b rfl ?_) | (refine wpList_storeMarkNew rfl _ _ rfl _ _ _ rfl _ rfl rfl rfl ?_) | fail)
    refine (write_any _ p s F K (HD.out.keep ((Keeps.refl [] w).alloc _) (by simp)) (by omega) 0 _ (mrow b).1 (readMarkRow w b)).mono ?_
    intro e w1 hp
    obtain ⟨rfl, F1, d1, k1, f1⟩ := hW.out e w1 hp
    have R := hid (And.intro d1 (And.intro k1 f1))
    clear d1 k1 f1 hp
    go_wp2_with fail
    refine (sync_any w1 p s1 F1 _ R.out.1 (by omega)).mono ?_
    rintro e w2 ⟨rfl, F2, d2, k2, f2⟩
    have Q2 := hid (And.intro d2 (And.intro k2 f2))
    clear d2 k2 f2
    go_wp2_with fail
    go_ret
    refine ⟨rfl, F2, Q2.out.1.mono (by omega), R.out.2.1.trans' Q2.out.2.1 (fun i hi hm => ?_), fun j hj => ?_⟩
    · rcases R.out.2.2 i hm with h | h
      · exact h
      · omega
    · rcases Q2.out.2.2 j hj with h | h
      · exact R.out.2.2 j h
      · exact .inr (Nat.le_trans R.out.2.1.size h)

theorem small_any (w : World) (p : Nat) (s : DS) (F : List Nat) (K : Nat) (D : DiskAt w p s F K) : Calls Tryz.prog 19 #[.pointer (some ⟨p, 0, none⟩)] w fun e w' => e = .returned (.bool (decide (s.cnt < 9))) ∧ w = w' := by
  have SC := hid (sectorsAt_any w p s F K D)
  clear D
  by_cases h : s.cnt < 9
  · have h' : (s.cnt : Int) < 9 := by omega
    go_enter Tryz.func19, Tryz.ntmps19
    go_wp2_with fail
    refine SC.out.mono ?_
    rintro e _ ⟨rfl, rfl⟩
    go_wp2_with fail
    go_ret
    exact ⟨by simp [h], rfl⟩
  · have h' : ¬ (s.cnt : Int) < 9 := by omega
    go_enter Tryz.func19, Tryz.ntmps19
    go_wp2_with fail
    refine SC.out.mono ?_
    rintro e _ ⟨rfl, rfl⟩
    go_wp2_with fail
    go_ret
    exact ⟨by simp; omega, rfl⟩
end Go.Proofs.YtnhcfkiejldicaaGreat


/- store: what sector 0 says. -/
namespace Go.Proofs.YtnhcfkiejldicaaGreat
open Go.RowKit Go.Shelf
set_option maxRecDepth 100000

theorem aggMark (w : World) : (isAgg 81).run Tryz.prog w = .ok true w := by
  unfold isAgg
  rw [Sem.run_bind, run_underlying Tryz.underlying81 w]
  rfl
theorem sizeMark (w : World) : (sizeOf 81).run Tryz.prog w = .ok 64 w := by
  cases hq : Tryz.prog.info? 81 with
  | none => have := sMark; simp [hq] at this
  | some i => have := sMark; simp [hq] at this; simp [sizeOf, typeInfo, hq, this]
theorem run_eqMark (d : Nat) (a b : Row) (w : World) : (Op.equalIn (d + 2) 81 (rowV a) (rowV b)).run Tryz.prog w = .ok (decide (a = b)) w := by
  unfold rowV
  rw [Op.equalIn]
  simp only [Sem.run_bind, run_underlying Tryz.underlying81, Result.andThen_ok, size_u8, Std.Legacy.Range.forIn_eq_forIn_range', Std.Legacy.Range.size]
  have key : ∀ l : List Nat, (∀ i ∈ l, i < 64) →
      Sem.run Tryz.prog (forIn l ((none : Option Bool), ()) fun i (_ : Option Bool × Unit) => do
            let x ← part 5 a.cells.toArray (i * 1)
            let y ← part 5 b.cells.toArray (i * 1)
            let z ← Op.equalIn (d + 1) 5 x y
            if (!z) = true then pure (ForInStep.done (some false, ())) else pure (ForInStep.yield (none, ()))) w =
      .ok (if l.all (fun i => a.1.getD i 0 == b.1.getD i 0) then (none, ()) else (some false, ())) w := by
    intro l
    induction l with
    | nil => intro _; simp
    | cons x xs ih =>
      intro hx
      have h0 := hx x (by simp)
      have u8 : Tryz.prog.underlying 5 = some (.int .u8) := by kernel_rfl
      simp only [List.forIn_cons, Sem.run_bind, Nat.mul_one, run_partByte a x h0, run_partByte b x h0, Result.andThen_ok, run_equalIn_int w d 5 .u8 .u8 _ _ u8]
      by_cases e : a.1.getD x 0 = b.1.getD x 0
      · simp only [e, beq_self_eq_true, Bool.not_true, Bool.false_eq_true, if_false, Sem.run_pure, Result.andThen_ok, List.all_cons, Bool.true_and]
        have := ih (fun i hi => hx i (by simp [hi]))
        simpa only [Nat.mul_one] using this
      · have e' : (a.1.getD x 0 == b.1.getD x 0) = false := by simpa using e
        simp only [e', Bool.not_false, if_true, Sem.run_pure, Result.andThen_ok, List.all_cons, Bool.false_and, Bool.false_eq_true, if_false]
  rw [key _ (by intro i hi; simp at hi; omega)]
  have hall : (List.range' 0 ((64 - 0 + 1 - 1) / 1)).all (fun i => a.1.getD i 0 == b.1.getD i 0) = decide (a = b) := by
    rw [Bool.eq_iff_iff]
    simp only [List.all_eq_true, beq_iff_eq, decide_eq_true_eq, row_eq]
    constructor
    · intro h i hi; exact h i (by simp; omega)
    · intro h i hi; exact h i (by simp at hi; omega)
  rw [hall]
  by_cases e : a = b <;> simp [e, Result.andThen]
section
variable {ops : Array Oper} {rest : List Oper} {o : Oper} {a : Act} {w : World} {Q : Exit → Act → World → Prop}
theorem wpList_toArrM (hgd : o.guard = none) (x : Operand) (ho : o.op = .sliceToArrayPointer 81 x) (ad : Option Addr) (c : Nat) (hx : a.eval x = .slice ad 64 c)
    (h : wpList Tryz.prog ops Q rest (a.put o.dst (.pointer ad)) w) : wpList Tryz.prog ops Q (o :: rest) a w := by
  refine wpList_is hgd _ _ ?_ h
  simp [execOp, ho, hx, Instr.arrayAt, run_underlying Tryz.underlying81, Result.andThen]
theorem wpList_loadAdM (hgd : o.guard = none) (x : Operand) (ho : o.op = .load 81 x) (ad : Addr) (hx : a.eval x = .pointer (some ad)) (r : Row) (hc : ∀ j u, r.cells[j]? = some u → w.cell? (ad.add j) = some u)
    (h : wpList Tryz.prog ops Q rest (a.put o.dst (rowV r)) w) : wpList Tryz.prog ops Q (o :: rest) a w := by
  refine wpList_is hgd _ _ ?_ h
  have hl := run_loadCells_list (P := Tryz.prog) w ad r.cells hc
  rw [r.len] at hl
  simp only [execOp, ho, hx, Instr.loadAt, Instr.sureAddr, loadVar, Sem.run_bind, Sem.run_pure, Result.andThen_ok, aggMark, sizeMark, if_true, hl]
  rfl
theorem guardMark (r s : Row) (x y : Operand) (w : World) : (eqGuard .eql 81 x y (rowV r) (rowV s)).run Tryz.prog w = .ok () w := run_eqGuard_agg w .eql 81 x y _ _ (by kernel_rfl)
theorem run_eqlMark (r s : Row) (w : World) : (binOp .eql 81 (rowV r) (rowV s)).run Tryz.prog w = .ok (.bool (decide (r = s))) w := by
  have e1 := run_eqMark 9998 r s w
  unfold rowV at e1 ⊢
  rw [run_eql_struct, e1]
  rfl
theorem wpList_eqMark (hgd : o.guard = none) (x y : Operand) (u : TypeId) (ho : o.op = .binOp .eql 81 x y u) (r s : Row) (hx : a.eval x = rowV r) (hy : a.eval y = rowV s) (t : Bool) (ht : decide (r = s) = t)
    (h : wpList Tryz.prog ops Q rest (a.put o.dst (.bool t)) w) : wpList Tryz.prog ops Q (o :: rest) a w := by
  refine wpList_is hgd _ _ ?_ h
  simp only [execOp, ho, hx, hy, Sem.run_bind, guardMark r s x y w, run_eqlMark r s w, Result.andThen_ok, Sem.run_pure, ht]
theorem wpList_buildM1 (hgd : o.guard = none) (ho : o.op = .build 81 #[(0, .const (.int .u8 1))])
    (h : wpList Tryz.prog ops Q rest (a.put o.dst (rowV (mrow false))) w) : wpList Tryz.prog ops Q (o :: rest) a w :=
  wpList_buildMark hgd _ ho false rfl h
theorem wpList_buildM2 (hgd : o.guard = none) (ho : o.op = .build 81 #[(0, .const (.int .u8 2))])
    (h : wpList Tryz.prog ops Q rest (a.put o.dst (rowV (mrow true))) w) : wpList Tryz.prog ops Q (o :: rest) a w :=
  wpList_buildMark hgd _ ho true rfl h
end

def rmB (s : DS) : Bool := if s.dead then false else decide (s.now 0 = mrow true)
def rmE (s : DS) : Int := if s.dead then 14 else if s.now 0 = mrow false ∨ s.now 0 = mrow true then 0 else 4
theorem mrow_ne : mrow false ≠ mrow true := fun h => by
  have := congrArg (fun r : Row => r.1.head?) h
  simp [mrow] at this

set_option maxHeartbeats 3200000 in
theorem readMark_any (w : World) (p : Nat) (s : DS) (F : List Nat) (K : Nat) (D : DiskAt w p s F K) :
    Calls Tryz.prog 45 #[.pointer (some ⟨p, 0, none⟩)] w fun e w' => e = .returned (.tuple #[.bool (rmB s), .int .i64 (rmE s)]) ∧ Keeps [] w w' := by
  have hlo := D.1.lo
  have RD := hid (readAt_any w p s F K D 0)
  cases hd : s.dead with
  | true =>
    have e1 : rmB s = false := by simp [rmB, hd]
    have e2 : rmE s = 14 := by simp [rmE, hd]
    have e3 : readE s 0 = 14 := by simp [readE, hd]
    rw [e1, e2]
    rw [e3] at RD
    clear hd e1 e2 e3 D hlo
    go_enter Tryz.func45, Tryz.ntmps45
    go_wp2_with fail
    refine RD.out.mono ?_
    rintro e w1 ⟨v, rfl, -, -, k1⟩
    have K1 := hid k1
    clear k1
    go_wp2_with fail
    go_ret2
    exact ⟨rfl, K1.out⟩
  | false =>
    have e3 : readE s 0 = 0 := by simp [readE, hd]; omega
    have e4 : readB s 0 = (s.now 0).1 := by simp [readB, hd]; omega
    rw [e3, e4] at RD
    have e1 : rmB s = decide (s.now 0 = mrow true) := by simp [rmB, hd]
    have e2 : rmE s = if s.now 0 = mrow false ∨ s.now 0 = mrow true then 0 else 4 := by simp [rmE, hd]
    rw [e1, e2]
    clear hd e1 e2 e3 e4 D hlo
    obtain ⟨r, hr⟩ : ∃ x, x = s.now 0 := ⟨_, rfl⟩
    rw [← hr] at RD ⊢
    clear hr
    have RL := r.2.1
    have go : ∀ (w1 : World) (v : Value), RowAt w1 v r.1 → ∃ ad c, v = .slice (some ad) 64 c ∧ ∀ j u, r.cells[j]? = some u → w1.cell? (ad.add j) = some u := fun w1 v h => by
      obtain ⟨a, cap, e, h1, h2, h3, h4, h5⟩ := h
      rw [RL] at e h1
      cases a with
      | none => have := h3 rfl; omega
      | some ad => exact ⟨ad, cap, e, h5 ad rfl⟩
    have GO := hid go
    clear go RL
    by_cases h1 : r = mrow false
    · have t1 : decide (r = mrow false) = true := by simpa using h1
      have t2 : decide (r = mrow true) = false := by rw [h1]; simpa using mrow_ne
      rw [t2, if_pos (.inl h1)]
      have H1 := hid h1
      clear h1 t2
      go_enter Tryz.func45, Tryz.ntmps45
      go_wp2_with fail
      refine RD.out.mono ?_
      rintro e w1 ⟨v, rfl, rv, -, k1⟩
      obtain ⟨ad, c, rfl, hc⟩ := GO.out w1 v rv
      have K1 := hid k1
      have HC := hid hc
      clear k1 rv hc
      go_wp2_with (first | (refine wpList_toArrM rfl _ rfl _ _ rfl ?_) | (refine wpList_loadAdM rfl _ rfl _ rfl r HC.out ?_) | (refine wpList_buildM1 rfl rfl ?_) | (refine wpList_buildM2 rfl rfl ?_) | (refine wpList_eqMark rfl _ _ _ rfl _ _ rfl rfl true t1 ?_) | fail)
      go_ret2
      exact ⟨rfl, K1.out⟩
    · have t1 : decide (r = mrow false) = false := by simpa using h1
      by_cases h2 : r = mrow true
      · have t2 : decide (r = mrow true) = true := by simpa using h2
        rw [t2, if_pos (.inr h2)]
        have H1 := hid (And.intro h1 h2)
        clear h1 h2
        go_enter Tryz.func45, Tryz.ntmps45
        go_wp2_with fail
        refine RD.out.mono ?_
        rintro e w1 ⟨v, rfl, rv, -, k1⟩
        obtain ⟨ad, c, rfl, hc⟩ := GO.out w1 v rv
        have K1 := hid k1
        have HC := hid hc
        clear k1 rv hc
        go_wp2_with (first | (refine wpList_toArrM rfl _ rfl _ _ rfl ?_) | (refine wpList_loadAdM rfl _ rfl _ rfl r HC.out ?_) | (refine wpList_buildM1 rfl rfl ?_) | (refine wpList_buildM2 rfl rfl ?_) | (refine wpList_eqMark rfl _ _ _ rfl _ _ rfl rfl false t1 ?_) | (refine wpList_eqMark rfl _ _ _ rfl _ _ rfl rfl true t2 ?_) | fail)
        go_ret2
        exact ⟨rfl, K1.out⟩
      · have t2 : decide (r = mrow true) = false := by simpa using h2
        rw [t2, if_neg (by rintro (h | h); exact h1 h; exact h2 h)]
        have H1 := hid (And.intro h1 h2)
        clear h1 h2
        go_enter Tryz.func45, Tryz.ntmps45
        go_wp2_with fail
        refine RD.out.mono ?_
        rintro e w1 ⟨v, rfl, rv, -, k1⟩
        obtain ⟨ad, c, rfl, hc⟩ := GO.out w1 v rv
        have K1 := hid k1
        have HC := hid hc
        clear k1 rv hc
        go_wp2_with (first | (refine wpList_toArrM rfl _ rfl _ _ rfl ?_) | (refine wpList_loadAdM rfl _ rfl _ rfl r HC.out ?_) | (refine wpList_buildM1 rfl rfl ?_) | (refine wpList_buildM2 rfl rfl ?_) | (refine wpList_eqMark rfl _ _ _ rfl _ _ rfl rfl false t1 ?_) | (refine wpList_eqMark rfl _ _ _ rfl _ _ rfl rfl false t2 ?_) | fail)
        go_ret2
        exact ⟨rfl, K1.out⟩
end Go.Proofs.YtnhcfkiejldicaaGreat


/- store: all slots' heads are made noughts. -/
namespace Go.Proofs.YtnhcfkiejldicaaGreat
open Go.RowKit Go.Shelf
set_option maxRecDepth 100000

/-- The first k heads are written as noughts. -/
def clrW (s : DS) : Nat → DS
  | 0 => s
  | k + 1 => writeS (clrW s k) ((1 + k * 8 : Nat) : Int) zrow.1
theorem clrW_cnt (s : DS) : ∀ k, (clrW s k).cnt = s.cnt
  | 0 => rfl
  | k + 1 => by rw [clrW, writeS_cnt, clrW_cnt s k]
theorem clrW_dead {s : DS} {k : Nat} (h : (clrW s k).dead = true) : ∀ j, k ≤ j → clrW s j = clrW s k
  | 0, hj => by
    have : k = 0 := by omega
    subst this; rfl
  | j + 1, hj => by
    by_cases e : k = j + 1
    · rw [e]
    · have ih := clrW_dead h j (by omega)
      rw [clrW, ih, writeS_dead h]
def clrS (s : DS) : DS := syncS (clrW s ((s.cnt - 1) / 8))
theorem clrS_cnt (s : DS) : (clrS s).cnt = s.cnt := by rw [clrS, syncS_cnt, clrW_cnt]
theorem clrS_dead {s : DS} {k : Nat} (hk : k ≤ (s.cnt - 1) / 8) (h : (clrW s k).dead = true) : clrS s = clrW s k := by
  rw [clrS, clrW_dead h _ hk, syncS_dead h]

theorem zslice_row {w : World} {g : Nat} (h : w.heap[g]? = some (.cells zrow.cells.toArray 81 (0, 0))) : RowAt w (.slice (some ⟨g, 0, none⟩) 64 64) zrow.1 := by
  refine ⟨_, 64, by rw [zrow.2.1], by rw [zrow.2.1]; omega, by unfold maxLen; omega, by simp, zrow.2.2, fun ad had j u hu => ?_⟩
  obtain rfl := Option.some.inj had
  rw [Addr.add_mid, Nat.zero_add, cell_of_row _ _ j _ _ (0, 0) h]
  simpa [Row.cells] using hu

/-- While the heads are written. -/
def ClrAt (w wr : World) (p gz : Nat) (s : DS) (F : List Nat) (K k : Nat) : Prop :=
  ∃ F', DiskAt wr p (clrW s k) F' (K + k * 2) ∧ Keeps F w wr ∧ Fresh w F F' ∧ wr.heap[gz]? = some (.cells zrow.cells.toArray 81 (0, 0)) ∧ gz ∉ F'

set_option maxHeartbeats 6400000 in
theorem clear_any (w : World) (p : Nat) (s : DS) (F : List Nat) (K : Nat) (D : DiskAt w p s F K) (hK : K ≤ 100000000) :
    Calls Tryz.prog 20 #[.pointer (some ⟨p, 0, none⟩)] w fun e w' => e = .returned (.int .i64 (deadE (clrS s))) ∧ ∃ F', DiskAt w' p (clrS s) F' (K + 2000) ∧ Keeps F w w' ∧ Fresh w F F' := by
  have hlo := D.1.lo
  have hhi := D.1.hi
  have SLM := run_sliceMark
  obtain ⟨nn, hnn⟩ : ∃ n, n = (s.cnt - 1) / 8 := ⟨_, rfl⟩
  have hn8 : 1 + nn * 8 ≤ s.cnt := by omega
  have hn9 : ∀ k, k < nn ↔ 1 + k * 8 + 8 ≤ s.cnt := fun k => by omega
  have NN := hid hnn
  have N9 := hid hn9
  have lF : ∀ j ∈ F, j < w.heap.size := fun j hj => by obtain ⟨m, dm⟩ := D.dm; exact dm.lt j hj
  have A0 : Hid (ClrAt w (w.alloc (.cells zrow.cells.toArray 81)) p w.heap.size s F K 0) := hid
    ⟨F, D.keep ((Keeps.refl [] w).alloc _) (by simp), (Keeps.refl F w).alloc _, fun j hj => .inl hj, heap_alloc_new w _, fun hm => by have := lF _ hm; omega⟩
  clear D lF hnn hn9
  go_enter Tryz.func20, Tryz.ntmps20
  go_wp2_with (first | (refine wpList_allocMark rfl rfl ?_) | fail)
  generalize w.alloc (.cells zrow.cells.toArray 81) = wA at A0 ⊢
  obtain ⟨gz, hgz⟩ : ∃ x, x = w.heap.size := ⟨_, rfl⟩
  rw [← hgz] at A0 ⊢
  have GZ := hid hgz
  clear hgz
  go_loopw [4] (fun i wr => ∃ k : Nat, k ≤ nn ∧ i = .int .i64 ((1 + k * 8 : Nat) : Int) ∧ ClrAt w wr p gz s F K k) (fun i _ => s.cnt + 9 - (intOf i).toNat)
  case atStart => exact ⟨0, by omega, rfl, A0.out⟩
  case round =>
    obtain ⟨k, hk, rfl, F1, d1, k1, f1, z1, g1⟩ := hrel
    have D1 := hid d1
    have K1 := hid k1
    have Fr1 := hid f1
    have Z1 := hid z1
    have G1 := hid g1
    have SC := hid (sectorsAt_any wr p _ F1 _ d1)
    rw [clrW_cnt] at SC
    clear d1 k1 f1 z1 g1
    go_wp2_with fail
    refine SC.out.mono ?_
    rintro e _ ⟨rfl, rfl⟩
    by_cases hlt : k < nn
    · have hle : 1 + k * 8 + 8 ≤ s.cnt := (N9.out k).1 hlt
      have hle' : 1 + (k : Int) * 8 + 8 ≤ (s.cnt : Int) := by omega
      have WE := hid (writeE_is (s := clrW s k) (k := 1 + k * 8) (zs := zrow.1) (by rw [clrW_cnt]; omega) zrow.2.1)
      go_wp2_with fail
      refine (write_any wr p (clrW s k) F1 _ D1.out (by omega) ((1 + k * 8 : Nat) : Int) _ zrow.1 (zslice_row Z1.out)).mono ?_
      rintro e w2 ⟨rfl, F2, d2, k2, f2⟩
      rw [WE.out]
      have hst : writeS (clrW s k) ((1 + k * 8 : Nat) : Int) zrow.1 = clrW s (k + 1) := rfl
      rw [hst] at d2 ⊢
      have gzlt := lt_of_block Z1.out
      have R2 : Hid (ClrAt w w2 p gz s F K (k + 1)) := hid ⟨F2, d2.mono (by omega), K1.out.trans' k2 (fun i hi hm => by
          rcases Fr1.out i hm with h | h
          · exact h
          · omega), fun j hj => (by
          rcases f2 j hj with h | h
          · exact Fr1.out j h
          · exact .inr (Nat.le_trans K1.out.size h)), (k2.block _ gzlt G1.out).trans Z1.out, fun hm => (by
          rcases f2 gz hm with h | h
          · exact G1.out h
          · omega)⟩
      clear d2 k2 f2 hst WE SC gzlt
      cases hd : (clrW s (k + 1)).dead with
      | true =>
        have e1 : deadE (clrW s (k + 1)) = 14 := by simp [deadE, hd]
        have e2 : clrS s = clrW s (k + 1) := clrS_dead (by rw [← NN.out]; omega) hd
        rw [e1]
        have E1 := hid e1
        have E2 := hid e2
        clear hd e1 e2
        go_wp2_with fail
        go_ret
        obtain ⟨F3, d3, k3, f3, -, -⟩ := R2.out
        exact ⟨by rw [E2.out, E1.out]; rfl, F3, by rw [E2.out]; exact d3.mono (by omega), k3, f3⟩
      | false =>
        have e1 : deadE (clrW s (k + 1)) = 0 := by simp [deadE, hd]
        rw [e1]
        clear hd e1
        go_wp2_with fail
        go_roundw
        case rel => exact ⟨k + 1, by omega, by go_num, R2.out⟩
        case measure => simp [intOf]; omega
    · have hge : ¬ 1 + k * 8 + 8 ≤ s.cnt := fun h => hlt ((N9.out k).2 h)
      have hle' : ¬ 1 + (k : Int) * 8 + 8 ≤ (s.cnt : Int) := by omega
      have hkn : k = nn := by omega
      have HKN := hid hkn
      clear hkn
      have SY := hid (syncE_is (clrW s k))
      go_wp2_with fail
      refine (sync_any wr p (clrW s k) F1 _ D1.out (by omega)).mono ?_
      rintro e w2 ⟨rfl, F2, d2, k2, f2⟩
      have hcs : syncS (clrW s k) = clrS s := by rw [clrS, ← NN.out, HKN.out]
      rw [hcs] at d2
      have HCS := hid hcs
      have R2 := hid (And.intro d2 (And.intro k2 f2))
      clear d2 k2 f2 hcs
      go_wp2_with fail
      go_ret
      refine ⟨by rw [SY.out, HCS.out]; rfl, F2, R2.out.1.mono (by omega), K1.out.trans' R2.out.2.1 (fun i hi hm => ?_), fun j hj => ?_⟩
      · rcases Fr1.out i hm with h | h
        · exact h
        · omega
      · rcases R2.out.2.2 j hj with h | h
        · exact Fr1.out j h
        · exact .inr (Nat.le_trans K1.out.size h)
end Go.Proofs.YtnhcfkiejldicaaGreat


/- store: a store in memory; which slot has a fragment. -/
namespace Go.Proofs.YtnhcfkiejldicaaGreat
open Go.RowKit Go.Shelf Go.Maps
set_option maxRecDepth 100000

/-- The map of a store: under each id the slot that has it. -/
def WhAt (w : World) (m K c : Nat) (ok : Nat → Prop) (G : Idn → Option Nat) : Prop :=
  ∃ f, MapW w m K c f ∧ ∀ x, x.In → (G x = none ∧ f x = vnil) ∨ ∃ i b cap cs, G x = some i ∧ f x = .slice (some ⟨b, 0, none⟩) 1 cap ∧ 1 ≤ cap ∧ w.heap[b]? = some (.cells cs 3 (0, 0)) ∧ cs[0]? = some (.int .i64 (i : Int)) ∧ ok b
theorem WhAt.keep {w w' : World} {m K c : Nat} {ok ok' : Nat → Prop} {G : Idn → Option Nat} {S : List Nat} (h : WhAt w m K c ok G) (k : Keeps S w w') (hm : m ∉ S) (hS : ∀ b, ok b → b < w.heap.size → b ∉ S ∧ ok' b) : WhAt w' m K c ok' G := by
  obtain ⟨f, h1, h2⟩ := h
  refine ⟨f, h1.keep k hm, fun x hx => ?_⟩
  rcases h2 x hx with h | ⟨i, b, cap, cs, e1, e2, e3, e4, e5, e6⟩
  · exact .inl h
  · have hl := lt_of_block e4
    exact .inr ⟨i, b, cap, cs, e1, e2, e3, (k.block b hl (hS b e6 hl).1).trans e4, e5, (hS b e6 hl).2⟩
/-- A store at t: its disk p, its slots q, its map m. -/
def StBlk (w : World) (t p q m : Nat) (wh : Bool) : Prop := w.heap[t]? = some (.cells #[.pointer (some ⟨p, 0, none⟩), .pointer (some ⟨q, 0, none⟩), .map (some m), .bool wh] 57 (0, 0))
theorem StBlk.keep {w w' : World} {t p q m : Nat} {wh : Bool} {S : List Nat} (h : StBlk w t p q m wh) (k : Keeps S w w') (ht : t ∉ S) : StBlk w' t p q m wh := (k.block t (lt_of_block h) ht).trans h
theorem StBlk.c0 {w : World} {t p q m : Nat} {wh : Bool} (h : StBlk w t p q m wh) : w.cell? ⟨t, 0, none⟩ = some (.pointer (some ⟨p, 0, none⟩)) := by rw [cell_of_row _ _ 0 _ _ (0, 0) h]; rfl
theorem StBlk.c1 {w : World} {t p q m : Nat} {wh : Bool} (h : StBlk w t p q m wh) : w.cell? ⟨t, 1, none⟩ = some (.pointer (some ⟨q, 0, none⟩)) := by rw [cell_of_row _ _ 1 _ _ (0, 0) h]; rfl
theorem StBlk.c2 {w : World} {t p q m : Nat} {wh : Bool} (h : StBlk w t p q m wh) : w.cell? ⟨t, 2, none⟩ = some (.map (some m)) := by rw [cell_of_row _ _ 2 _ _ (0, 0) h]; rfl
theorem StBlk.c3 {w : World} {t p q m : Nat} {wh : Bool} (h : StBlk w t p q m wh) : w.cell? ⟨t, 3, none⟩ = some (.bool wh) := by rw [cell_of_row _ _ 3 _ _ (0, 0) h]; rfl

theorem made6_any (w : World) (t p q m : Nat) (wh : Bool) (B : StBlk w t p q m wh) : Calls Tryz.prog 23 #[.pointer (some ⟨t, 0, none⟩)] w fun e w' => e = .returned (.bool true) ∧ w = w' := by
  have c0 := B.c0
  clear B
  go_enter Tryz.func23, Tryz.ntmps23
  go_wp2_with fail
  go_ret
  exact ⟨rfl, rfl⟩
theorem sId : (Tryz.prog.info? 36).map (·.size) = some 4 := by kernel_rfl
theorem loadId_run {w : World} {b : Nat} {x : Idn} (h : w.heap[b]? = some (.cells #[.int .i64 x.c, .int .i64 x.l, .int .i64 x.n, .int .i64 x.i] 36 (0, 0))) :
    (Instr.loadAt 36 (.pointer (some ⟨b, 0, none⟩))).run Tryz.prog w = .ok (idV x) w := by
  refine run_loadAt_mid w b 0 36 x.cells _ (fun j v hv => ?_) Tryz.underlying36 rfl (by rw [sId]; rfl)
  rw [Nat.zero_add, cell_of_row _ _ j _ _ (0, 0) h]
  simpa [Idn.cells] using hv
theorem exec_lookup {ρ : Operand → Value} {o : Oper} {w : World} (x y : Operand) (ho : o.op = .lookup 55 x y false) (m n c : Nat) (f : Idn → Value) (h : MapW w m n c f) (hx : ρ x = .map (some m)) (z : Idn) (hz : z.In) (hy : ρ y = idV z) :
    (execOp ρ o).run Tryz.prog w = .ok (.value (f z)) w := by
  simp only [execOp, ho, hx, hy, Sem.run_bind, h.look hz, Result.andThen_ok, Sem.run_pure]

set_option maxHeartbeats 3200000 in
theorem has_any6 (w : World) (t p q m : Nat) (wh : Bool) (B : StBlk w t p q m wh) (K c : Nat) (ok : Nat → Prop) (G : Idn → Option Nat) (M : WhAt w m K c ok G) (x : Idn) (hx : x.In) :
    Calls Tryz.prog 26 #[.pointer (some ⟨t, 0, none⟩), idV x] w fun e w' => e = .returned (.bool (G x).isSome) ∧ Keeps [] w w' := by
  obtain ⟨f, hm, hf⟩ := M
  have KA := hid ((Keeps.refl [] w).alloc (.cells #[.int .i64 x.c, .int .i64 x.l, .int .i64 x.n, .int .i64 x.i] 36))
  have B1 := hid (heap_alloc_new w (.cells #[.int .i64 x.c, .int .i64 x.l, .int .i64 x.n, .int .i64 x.i] 36))
  have HB := hid (B.keep KA.out (by simp))
  have HM := hid (hm.keep KA.out (by simp))
  have hv : ∃ a n c, f x = .slice a n c ∧ (G x).isSome = decide (0 < n) := by
    rcases hf x hx with ⟨e1, e2⟩ | ⟨i, b, cap, cs, e1, e2, _⟩
    · exact ⟨none, 0, 0, e2, by rw [e1]; rfl⟩
    · exact ⟨_, 1, cap, e2, by rw [e1]; rfl⟩
  obtain ⟨va, vn, vc, hfx, hg⟩ := hv
  rw [hg]
  have HF := hid hfx
  clear hm hf B hg hfx
  unfold idV
  go_enter Tryz.func26, Tryz.ntmps26
  go_wp2_with fail
  generalize w.alloc (.cells #[.int .i64 x.c, .int .i64 x.l, .int .i64 x.n, .int .i64 x.i] 36) = wA at KA B1 HB HM ⊢
  refine wp_region_any (by kernel_rfl) (wpAny_of_held (S := KpS [] wA.heap.size wA.drew) _ _ _ _ ?_)
  change wpAnyH _ _ _ _ _ _ _ _ wA.drew
  have hk : ∀ W1, KpS [] wA.heap.size wA.drew W1 → Keeps [] wA W1 := fun W1 h => ⟨h.os, h.tape, h.output, h.size, fun j hj hm => h.block j hj hm⟩
  refine held_take (i := 0) (v := .pointer (some ⟨t, 0, none⟩)) rfl (by kernel_rfl) (by kernel_rfl) (by kernel_rfl) (fun _ _ _ h => h) rfl (fun W1 hW1 => rfl) (KpS.refl _ _ _) ?_
  simp only [Act.put, List.setIfInBounds_toArray, List.set_cons_zero, List.set_cons_succ]
  refine held_take (i := 1) (v := .pointer (some ⟨t, 0, none⟩)) rfl (by kernel_rfl) (by kernel_rfl) (by kernel_rfl) (fun _ _ _ h => h) rfl (fun W1 hW1 => by go_simp) (KpS.refl _ _ _) ?_
  simp only [Act.put, List.setIfInBounds_toArray, List.set_cons_zero, List.set_cons_succ]
  refine held_take (i := 2) (v := .pointer (some ⟨t, 2, none⟩)) rfl (by kernel_rfl) (by kernel_rfl) (by kernel_rfl) (fun _ _ _ h => h) rfl (fun W1 hW1 => by go_simp) (KpS.refl _ _ _) ?_
  simp only [Act.put, List.setIfInBounds_toArray, List.set_cons_zero, List.set_cons_succ]
  refine held_take (i := 3) (v := .map (some m)) rfl (by kernel_rfl) (by kernel_rfl) (by kernel_rfl) (fun _ _ _ h => h) rfl (fun W1 hW1 => exec_load _ _ _ _ rfl rfl (run_loadCell W1 _ _ _ ((HB.out.keep (hk W1 hW1) (by simp)).c2) (agg_no _ (by kernel_rfl)))) (KpS.refl _ _ _) ?_
  simp only [Act.put, List.setIfInBounds_toArray, List.set_cons_zero, List.set_cons_succ]
  refine held_take (i := 4) (v := idV x) rfl (by kernel_rfl) (by kernel_rfl) (by kernel_rfl) (fun _ _ _ h => h) rfl (fun W1 hW1 => exec_load _ _ _ _ rfl rfl (loadId_run (((hk W1 hW1).block _ (lt_of_block B1.out) (by simp)).trans B1.out))) (KpS.refl _ _ _) ?_
  simp only [Act.put, List.setIfInBounds_toArray, List.set_cons_zero, List.set_cons_succ]
  refine held_take (i := 5) (v := f x) rfl (by kernel_rfl) (by kernel_rfl) (by kernel_rfl) (fun _ _ _ h => h) rfl (fun W1 hW1 => exec_lookup _ _ rfl m K c f (HM.out.keep (hk W1 hW1) (by simp)) rfl x hx rfl) (KpS.refl _ _ _) ?_
  simp only [Act.put, List.setIfInBounds_toArray, List.set_cons_zero, List.set_cons_succ]
  rw [HF.out]
  refine held_take (i := 6) (v := .int .i64 vn) rfl (by kernel_rfl) (by kernel_rfl) (by kernel_rfl) (fun _ _ _ h => h) rfl (fun W1 hW1 => by go_simp) (KpS.refl _ _ _) ?_
  simp only [Act.put, List.setIfInBounds_toArray, List.set_cons_zero, List.set_cons_succ]
  refine held_take (i := 7) (v := .bool (decide (0 < vn))) rfl (by kernel_rfl) (by kernel_rfl) (by kernel_rfl) (fun _ _ _ h => h) rfl (fun W1 hW1 => by go_simp) (KpS.refl _ _ _) ?_
  simp only [Act.put, List.setIfInBounds_toArray, List.set_cons_zero, List.set_cons_succ]
  refine held_take (i := 8) (v := .bool (decide (0 < vn))) rfl (by kernel_rfl) (by kernel_rfl) (by kernel_rfl) (fun _ _ _ h => h) rfl (fun W1 hW1 => rfl) (KpS.refl _ _ _) ?_
  simp only [Act.put, List.setIfInBounds_toArray, List.set_cons_zero, List.set_cons_succ]
  refine wpAnyH_done (by kernel_rfl) ?_ _
  have K3 := hid (KA.out.drew)
  go_wp2_with fail
  go_ret
  exact ⟨rfl, K3.out⟩
end Go.Proofs.YtnhcfkiejldicaaGreat


/- store: how many slots are free. -/
namespace Go.Proofs.YtnhcfkiejldicaaGreat
open Go.RowKit Go.Shelf Go.Maps
set_option maxRecDepth 100000

theorem nodup_le {α : Type} [DecidableEq α] : ∀ (vs l : List α), vs.Pairwise (· ≠ ·) → (∀ k ∈ vs, k ∈ l) → vs.length ≤ l.length
  | [], _, _, _ => Nat.zero_le _
  | v :: vs, l, h, hs => by
    obtain ⟨h1, h2⟩ := List.pairwise_cons.1 h
    have hv := hs v (by simp)
    have ih := nodup_le vs (l.erase v) h2 (fun k hk => (List.mem_erase_of_ne (fun e => h1 k hk e.symm)).2 (hs k (by simp [hk])))
    rw [List.length_erase_of_mem hv] at ih
    have := List.length_pos_of_mem hv
    simp only [List.length_cons]
    omega
theorem keys_own {w : World} {m n : Nat} {D : DataW Value} (h : w.ownsMap Tryz.prog 36 RV m n D) : ∃ l : List Lit, l.Pairwise (· ≠ ·) ∧ l.length = Maps.size D ∧ ∀ k, k ∈ l ↔ Maps.has D k = true := by
  have ht := h.tidy idKeyed
  obtain ⟨es, clock, _, F, _, hD⟩ := h
  obtain ⟨l, hl, hp⟩ := ht
  rw [hl] at hD ⊢
  injection hD with hD
  refine ⟨l.map (·.1), List.pairwise_map.2 hp, by simp [Maps.size], fun k => ⟨fun hk => ?_, fun hk => ?_⟩⟩
  · obtain ⟨p, hp1, rfl⟩ := List.mem_map.1 hk
    rw [hD] at hp1
    have hp2 := (WideShapes.sorted_perm _).mem_iff.1 hp1
    obtain ⟨x, hx, hxe⟩ := List.mem_map.1 hp2
    obtain ⟨y, hy⟩ := F.reads x hx
    have hyp : y = p := by rw [← hxe]; exact (WideElems.rg_of hy).symm
    have hkey := WideElems.rd_key hy
    rw [hyp] at hkey
    simp only [Maps.has, List.any_eq_true]
    exact ⟨p, by rw [hD]; exact hp1, WideAt.sameKey_self (idKeyed.key hkey)⟩
  · simp only [Maps.has, List.any_eq_true] at hk
    obtain ⟨p, hp1, he⟩ := hk
    exact List.mem_map.2 ⟨p, hp1, WideAt.sameKey_eq he⟩
/-- The keys that came, none twice, till none is left, are all. -/
theorem came_all {w : World} {m n : Nat} {D : DataW Value} (h : w.ownsMap Tryz.prog 36 RV m n D) (vs : List Lit) (hp : vs.Pairwise (· ≠ ·)) (hin : ∀ k ∈ vs, Maps.has D k = true) : vs.length ≤ Maps.size D ∧ ((∀ k, Maps.has D k = true → k ∈ vs) → vs.length = Maps.size D) := by
  obtain ⟨l, h1, h2, h3⟩ := keys_own h
  haveI : DecidableEq Lit := fun a b => Classical.propDecidable (a = b)
  have e1 := nodup_le vs l hp (fun k hk => (h3 k).2 (hin k hk))
  refine ⟨by omega, fun hall => ?_⟩
  have e2 := nodup_le l vs h1 (fun k hk => hall k ((h3 k).1 hk))
  omega

set_option maxHeartbeats 3200000 in
theorem room_any6 (w : World) (t p q m g : Nat) (wh : Bool) (B : StBlk w t p q m wh) (hs : List Hd) (S : SlotsAt w q p g 1 hs) (K c : Nat) (f : Idn → Value) (M : MapW w m K c f)
    (hv : ∀ x, x.In → f x ≠ vnil → ∃ a cap, f x = .slice a 1 cap) (hc : c ≤ hs.length) :
    Calls Tryz.prog 8 #[.pointer (some ⟨t, 0, none⟩)] w fun e w' => e = .returned (.int .i64 ((hs.length : Int) - (c : Int))) ∧ Keeps [] w w' := by
  obtain ⟨D, ho, hr, hh, hk, hsz⟩ := M
  have hfew := S.few
  have HO := hid ho
  have HR := hid hr
  have HH := hid hh
  have HK := hid hk
  have HV := hid hv
  have HSZ := hid hsz
  have LC := hid (lCount_any w q p g 1 hs S)
  have c1 := B.c1
  have c2 := B.c2
  have HB := hid B
  clear ho hr hh hk hv hsz S B
  have hent : Hid (∀ key v kl y, keyOf Tryz.prog 36 key = some kl → RV v = some y → (∀ zd, D.atKey kl zd = y.1) → ∃ a cap, v = .slice a 1 cap) := hid (fun key v kl y hkey hv hat => by
    have hhas := has_true_of_atKey hat
    obtain ⟨x, hx, rfl⟩ := HK.out kl hhas
    unfold RV at hv
    injection hv with hv
    subst hv
    have h1 := hat (.held vnil)
    rw [HR.out x hx] at h1
    injection h1 with h1
    have hne := (HH.out x hx).1 hhas
    obtain ⟨a, cap, e⟩ := HV.out x hx hne
    exact ⟨a, cap, by rw [← h1]; exact e⟩)
  go_enter Tryz.func8, Tryz.ntmps8
  go_wp2_with fail
  refine (made6_any w t p q m wh HB.out).mono ?_
  rintro e _ ⟨rfl, rfl⟩
  go_wp2_with fail
  refine LC.out.mono ?_
  rintro e _ ⟨rfl, rfl⟩
  go_wp2_with (first | (refine wpList_range_own _ rfl _ _ rfl 36 58 idKeyed Tryz.underlying55 RV m K D rfl HO.out ?_; intro w2 hrg hg hs2; have RG := hid hrg; have G2 := hid hg; clear hrg hg) | fail)
  have K2 : Hid (Keeps [] w w2) := (Keeps.refl [] w).grown G2.out (fun k hk => by cases hk)
  obtain ⟨r, hr⟩ : ∃ x, x = w.heap.size := ⟨_, rfl⟩
  rw [← hr] at RG ⊢
  have RR := hid hr
  clear hr hs2 G2
  go_frame
  go_loopw [3] (fun rm wr => ∃ (left : Lit → Bool) (cnt : Nat) (vs : List Lit), wr.ranges Tryz.prog 36 RV m r K D left cnt ∧ rm = .int .i64 ((hs.length : Int) - (vs.length : Int)) ∧ vs.Pairwise (· ≠ ·) ∧ (∀ k, left k = true ↔ Maps.has D k = true ∧ k ∉ vs) ∧ (∀ k ∈ vs, Maps.has D k = true) ∧ Keeps [] w wr) (fun _ wr => wr.rangeLeft m r)
  case atStart => exact ⟨_, _, [], RG.out, by simp, List.Pairwise.nil, fun k => by simp, by simp, K2.out⟩
  case round =>
    obtain ⟨left, cnt, vs, hrg, rfl, hp, hl, hin, kw⟩ := hrel
    have RG2 := hid hrg
    have HP := hid hp
    have HL := hid hl
    have HIN := hid hin
    have KW := hid kw
    have hle := (came_all HO.out vs hp hin).1
    rw [HSZ.out] at hle
    clear hrg hp hl hin kw
    go_wp2_with (first | (refine wpList_next_ranges _ rfl _ rfl 36 idKeyed RV (fun v : Value => v) (fun v : Value => v) (fun key kl _ => ⟨key, rfl⟩) (fun v y _ => ⟨v, rfl⟩) m r K D left cnt rfl RG2.out ?_ ?_; rotate_left; (rintro key v k y w4 cnt' hkey hlk hv hat' hrg1 hlt hg1 hs1 hen; obtain ⟨ea, ecap, rfl⟩ := hent.out key v k y hkey hv hat'; have HKY := hid hkey; have HLK := hid hlk; have R4 := hid hrg1; have G4 := hid hg1; have LT4 := hid hlt; clear hkey hv hat' hlk hrg1 hg1 hlt); rotate_left; (intro _ hl0; have HL0 := hid hl0; clear hl0)) | fail)
    · go_ret
      have hall := (came_all HO.out vs HP.out HIN.out).2 (fun k hk => by
        cases Classical.em (k ∈ vs) with
        | inl h => exact h
        | inr h => have h2 := (HL.out k).2 ⟨hk, h⟩; rw [HL0.out k] at h2; cases h2)
      rw [HSZ.out] at hall
      rw [hall]
      exact ⟨rfl, KW.out⟩
    · have hkl := idKeyed.key HKY.out
      have hkv := (HL.out k).1 HLK.out
      go_roundw
      case rel =>
        refine ⟨_, cnt', k :: vs, R4.out, by simp; omega, List.pairwise_cons.2 ⟨fun j hj e => hkv.2 (e ▸ hj), HP.out⟩, fun j => ?_, fun j hj => ?_, KW.out.grown G4.out (fun j hj => .inr (by injection hj with hj; have := RR.out; omega))⟩
        · have hlj := HL.out j
          constructor
          · intro h
            rw [Bool.and_eq_true] at h
            obtain ⟨h1, h2⟩ := hlj.1 h.1
            refine ⟨h1, fun hm => ?_⟩
            rcases List.mem_cons.1 hm with rfl | hm
            · have := h.2
              rw [WideAt.sameKey_self hkl] at this
              cases this
            · exact h2 hm
          · rintro ⟨h1, h2⟩
            rw [Bool.and_eq_true]
            refine ⟨hlj.2 ⟨h1, fun hm => h2 (List.mem_cons_of_mem _ hm)⟩, ?_⟩
            rw [sameKey_ne (fun e => h2 (by rw [e]; exact List.mem_cons_self))]
            rfl
        · rcases List.mem_cons.1 hj with rfl | hj
          · exact hkv.1
          · exact HIN.out j hj
      case measure => rw [R4.out.left_eq, RG2.out.left_eq]; exact LT4.out
end Go.Proofs.YtnhcfkiejldicaaGreat


/- store: Open of a disk whose slots are all free; Format. -/
namespace Go.Proofs.YtnhcfkiejldicaaGreat
open Go.RowKit Go.Shelf Go.Maps
set_option maxRecDepth 100000

theorem gather_free (w : World) (q p g : Nat) (hs : List Hd) (S : SlotsAt w q p g 1 hs) (hf : ∀ j (h : j < hs.length), hs[j].used = false) :
    Calls Tryz.prog 47 #[.pointer (some ⟨q, 0, none⟩)] w fun e w' => e = .returned (.tuple #[.map (some w.heap.size), .int .i64 0]) ∧ MapW w' w.heap.size 0 0 (fun _ => vnil) ∧ Keeps [] w w' := by
  have hfew := S.few
  have HS := hid S
  have HF := hid hf
  have M0 := hid (MapW.made w)
  have K0 := hid ((Keeps.refl [] w).alloc (.map #[] 0))
  clear S hf
  have hmm := @run_makeMap Tryz.prog
  go_enter Tryz.func47, Tryz.ntmps47
  go_wp2_with fail
  have S1 := hid (HS.out.keep K0.out (by simp) (by simp))
  generalize w.alloc (.map #[] 0) = w1 at M0 K0 S1 ⊢
  refine (lCount_any w1 q p g 1 hs S1.out).mono ?_
  rintro e _ ⟨rfl, rfl⟩
  go_wp2_with fail
  go_loopw [11] (fun i wr => ∃ k : Nat, k ≤ hs.length ∧ i = .int .i64 k ∧ wr = w1) (fun i _ => hs.length - (intOf i).toNat)
  case atStart => exact ⟨0, by omega, rfl, rfl⟩
  case round =>
    obtain ⟨k, hk, rfl, rfl⟩ := hrel
    by_cases hlt : k < hs.length
    · have hlt' : (k : Int) < (hs.length : Int) := by omega
      have us := lUsed_any wr q p g 1 hs S1.out k
      rw [usedS, headS_at hlt, HF.out k hlt] at us
      have US := hid us
      clear us
      go_wp2_with fail
      refine US.out.mono ?_
      rintro e _ ⟨rfl, rfl⟩
      go_wp2_with fail
      go_roundw
      case rel => exact ⟨k + 1, by omega, by go_num, by first | rfl | trivial⟩
      case measure => simp [intOf]; omega
    · have : k = hs.length := by omega
      subst this
      have hlt' : ¬ ((hs.length : Nat) : Int) < (hs.length : Int) := by omega
      go_wp2_with fail
      go_ret2
      exact ⟨rfl, M0.out, K0.out⟩

theorem sStore : (Tryz.prog.info? 57).map (·.size) = some 4 := by kernel_rfl

set_option maxHeartbeats 3200000 in
/-- Open, where sector 0 says that there is a store, and all slots are free. -/
theorem open6_free (w : World) (p : Nat) (s : DS) (F : List Nat) (K : Nat) (D : DiskAt w p s F K) (h9 : 9 ≤ s.cnt) (hd : s.dead = false) (hm : rmE s = 0) (n : Nat) (hn : n = (s.cnt - 1) / 8) (hg : goodS s 1 n) (hs : List Hd) (hhs : headsS s 1 n = hs) (hf : ∀ j (h : j < hs.length), hs[j].used = false) :
    Calls Tryz.prog 22 #[.pointer (some ⟨p, 0, none⟩)] w fun e w' => ∃ t q g m, e = .returned (.tuple #[.pointer (some ⟨t, 0, none⟩), .int .i64 0]) ∧ StBlk w' t p q m (rmB s) ∧ SlAt w' q p g 1 hs s F K ∧ MapW w' m 0 0 (fun _ => vnil) ∧
      (w.heap.size ≤ t ∧ w.heap.size ≤ q ∧ w.heap.size ≤ g ∧ w.heap.size ≤ m ∧ t ≠ q ∧ t ≠ g ∧ t ≠ m ∧ m ≠ q ∧ m ≠ g) ∧ Keeps [] w w' := by
  have HD := hid D
  have SM := hid (small_any w p s F K D)
  have e9 : decide (s.cnt < 9) = false := by simp; omega
  rw [e9] at SM
  have RM := hid (readMark_any w p s F K D)
  rw [hm] at RM
  have OP := fun w1 (k : Keeps [] w w1) => lOpen_good w1 p s F K (D.keep k (by simp)) 1 n (by omega) hn hd hg
  have OPH := hid OP
  have HHS := hid hhs
  have HF := hid hf
  obtain ⟨wh, hwh⟩ : ∃ x, x = rmB s := ⟨_, rfl⟩
  rw [← hwh] at RM ⊢
  clear D e9 OP hhs hf hwh hg hm
  go_enter Tryz.func22, Tryz.ntmps22
  go_wp2_with fail
  refine SM.out.mono ?_
  rintro e _ ⟨rfl, rfl⟩
  go_wp2_with fail
  refine RM.out.mono ?_
  rintro e w1 ⟨rfl, k1⟩
  have K1 := hid k1
  clear k1
  go_wp2_with fail
  refine (OPH.out w1 K1.out).mono ?_
  rintro e w2 ⟨q, g, rfl, s2, q2, g2, k2⟩
  rw [HHS.out] at s2
  have S2 := hid s2
  have K2 := hid (K1.out.trans k2)
  have N2 := hid (show w.heap.size ≤ q ∧ w.heap.size ≤ g from ⟨Nat.le_trans K1.out.size q2, Nat.le_trans K1.out.size g2⟩)
  clear s2 k2 q2 g2
  go_wp2_with fail
  refine (gather_free w2 q p g hs S2.out.sl HF.out).mono ?_
  rintro e w3 ⟨rfl, m3, k3⟩
  have M3 := hid m3
  have S3 := hid (S2.out.keep k3 (by simp) (by simp) (by simp))
  have K3 := hid (K2.out.trans k3)
  have LT := hid (show q < w2.heap.size ∧ g < w2.heap.size ∧ w2.heap.size < w3.heap.size from ⟨S2.out.sl.ltq, S2.out.sl.ltg, m3.lt⟩)
  clear m3 k3
  obtain ⟨m, hmm⟩ : ∃ x, x = w2.heap.size := ⟨_, rfl⟩
  rw [← hmm] at M3 LT ⊢
  have HM := hid hmm
  clear hmm
  go_wp2_with fail
  go_ret2
  have kA : Keeps [] w3 (w3.alloc (.cells #[.pointer (some ⟨p, 0, none⟩), .pointer (some ⟨q, 0, none⟩), .map (some m), .bool wh] 57)) := (Keeps.refl [] w3).alloc _
  have hz := K2.out.size
  obtain ⟨l1, l2, l3⟩ := LT.out
  obtain ⟨n1, n2⟩ := N2.out
  have hm2 := HM.out
  refine ⟨_, q, g, m, rfl, heap_alloc_new w3 _, S3.out.keep kA (by simp) (by simp) (by simp), M3.out.keep kA (by simp), ⟨?_, n1, n2, ?_, ?_, ?_, ?_, ?_, ?_⟩, K3.out.trans kA⟩ <;> omega
end Go.Proofs.YtnhcfkiejldicaaGreat


/- store: Format of a living disk. -/
namespace Go.Proofs.YtnhcfkiejldicaaGreat
open Go.RowKit Go.Shelf Go.Maps
set_option maxRecDepth 100000

theorem clrW_alive {s : DS} (h : Alive s) : ∀ k, 1 + k * 8 ≤ s.cnt → Alive (clrW s k) ∧ (∀ i, i < k → (clrW s k).now (1 + i * 8) = zrow)
  | 0, _ => ⟨h, fun i hi => by omega⟩
  | k + 1, hk => by
    obtain ⟨a1, a2⟩ := clrW_alive h k (by omega)
    obtain ⟨b1, b2⟩ := a1.write (n := 1 + k * 8) (zs := zrow.1) (by rw [clrW_cnt]; omega) zrow.2.1
    refine ⟨b1, fun i hi => ?_⟩
    show (writeS (clrW s k) ((1 + k * 8 : Nat) : Int) zrow.1).now (1 + i * 8) = zrow
    rw [b2]
    by_cases e : i = k
    · subst e; rw [upd_same, mkRow_self]
    · rw [upd_ne _ _ (by omega)]; exact a2 i (by omega)
def fmtS (s : DS) : DS := sealS (clrS s) false
theorem fmtS_cnt (s : DS) : (fmtS s).cnt = s.cnt := by rw [fmtS, sealS_cnt, clrS_cnt]
theorem clrS_alive {s : DS} (h : Alive s) (h9 : 9 ≤ s.cnt) : Alive (clrS s) ∧ ∀ i, i < (s.cnt - 1) / 8 → (clrS s).now (1 + i * 8) = zrow := by
  obtain ⟨a1, a2⟩ := clrW_alive h ((s.cnt - 1) / 8) (by omega)
  obtain ⟨b1, b2⟩ := a1.sync
  exact ⟨b1, fun i hi => by rw [clrS, b2]; exact a2 i hi⟩
theorem sealS_alive {s : DS} (h : Alive s) (hc : 0 < s.cnt) (b : Bool) : Alive (sealS s b) ∧ (sealS s b).now = upd s.now 0 (mrow b) := by
  obtain ⟨b1, b2⟩ := h.write (n := 0) (zs := (mrow b).1) hc (mrow b).2.1
  obtain ⟨c1, c2⟩ := b1.sync
  refine ⟨c1, ?_⟩
  show (syncS (writeS s ((0 : Nat) : Int) (mrow b).1)).now = _
  rw [c2, b2, mkRow_self]
theorem fmtS_alive {s : DS} (h : Alive s) (h9 : 9 ≤ s.cnt) : Alive (fmtS s) ∧ (fmtS s).now 0 = mrow false ∧ ∀ i, i < (s.cnt - 1) / 8 → (fmtS s).now (1 + i * 8) = zrow := by
  obtain ⟨a1, a2⟩ := clrS_alive h h9
  obtain ⟨b1, b2⟩ := sealS_alive a1 (by rw [clrS_cnt]; omega) false
  exact ⟨b1, by rw [fmtS, b2, upd_same], fun i hi => by rw [fmtS, b2, upd_ne _ _ (by omega)]; exact a2 i hi⟩
theorem fmt_mark {s : DS} (h : Alive s) (h9 : 9 ≤ s.cnt) : rmE (fmtS s) = 0 ∧ rmB (fmtS s) = false := by
  obtain ⟨⟨d, _⟩, e, _⟩ := fmtS_alive h h9
  refine ⟨by simp [rmE, d, e], ?_⟩
  simp only [rmB, d, e, Bool.false_eq_true, if_false]
  simpa using mrow_ne
theorem fmt_reads {s : DS} (h : Alive s) (h9 : 9 ≤ s.cnt) (want : Nat → List Int) : Reads (fmtS s) 1 (List.replicate ((s.cnt - 1) / 8) hd0) want := by
  obtain ⟨a, _, z⟩ := fmtS_alive h h9
  refine ⟨a, by rw [List.length_replicate, fmtS_cnt]; omega, fun j hj => ?_, fun j hj hu => ?_⟩
  · rw [List.length_replicate] at hj
    rw [z j hj, hd_zrow, List.getElem_replicate]
  · rw [List.getElem_replicate] at hu
    cases hu

/-- What a new store is. -/
def NewSt (w w' : World) (t q g m p : Nat) (hs : List Hd) (s : DS) (F : List Nat) (K : Nat) (wh : Bool) : Prop :=
  StBlk w' t p q m wh ∧ SlAt w' q p g 1 hs s F K ∧ MapW w' m 0 0 (fun _ => vnil) ∧
    (w.heap.size ≤ t ∧ w.heap.size ≤ q ∧ w.heap.size ≤ g ∧ w.heap.size ≤ m ∧ t ≠ q ∧ t ≠ g ∧ t ≠ m ∧ m ≠ q ∧ m ≠ g)

set_option maxHeartbeats 3200000 in
theorem format_any (w : World) (p : Nat) (s : DS) (F : List Nat) (K : Nat) (D : DiskAt w p s F K) (hK : K ≤ 10000000) (ha : Alive s) (h9 : 9 ≤ s.cnt) :
    Calls Tryz.prog 7 #[.pointer (some ⟨p, 0, none⟩)] w fun e w' => ∃ t q g m F', e = .returned (.tuple #[.pointer (some ⟨t, 0, none⟩), .int .i64 0]) ∧
      NewSt w w' t q g m p (List.replicate ((s.cnt - 1) / 8) hd0) (fmtS s) F' (K + 3000) false ∧ t ∉ F' ∧ m ∉ F' ∧ Keeps F w w' ∧ Fresh w F F' := by
  have SM := hid (small_any w p s F K D)
  have e9 : decide (s.cnt < 9) = false := by simp; omega
  rw [e9] at SM
  have CL := hid (clear_any w p s F K D (by omega))
  have ec : deadE (clrS s) = 0 := (clrS_alive ha h9).1.deadE
  rw [ec] at CL
  have em : deadE (sealS (clrS s) false) = 0 := (fmtS_alive ha h9).1.deadE
  have MK := hid (fun w1 F1 (d1 : DiskAt w1 p (clrS s) F1 (K + 2000)) => mark_any w1 p (clrS s) F1 (K + 2000) d1 (by omega) false)
  rw [em] at MK
  have R := fmt_reads ha h9 (fun _ => [])
  have FA := fmtS_alive ha h9
  have hall : headsS (fmtS s) 1 ((s.cnt - 1) / 8) = List.replicate ((s.cnt - 1) / 8) hd0 := by have := R.all; rwa [List.length_replicate] at this
  have hgood : goodS (fmtS s) 1 ((s.cnt - 1) / 8) := by have := R.good; rwa [List.length_replicate] at this
  have hfree : ∀ j (h : j < (List.replicate ((s.cnt - 1) / 8) hd0).length), (List.replicate ((s.cnt - 1) / 8) hd0)[j].used = false := fun j hj => by rw [List.getElem_replicate]; rfl
  have OP := hid (fun w1 F1 (d1 : DiskAt w1 p (fmtS s) F1 (K + 2000 + 4)) => open6_free w1 p (fmtS s) F1 _ d1 (by rw [fmtS_cnt]; exact h9) FA.1.1 (fmt_mark ha h9).1 ((s.cnt - 1) / 8) (by rw [fmtS_cnt]) hgood _ hall hfree)
  rw [(fmt_mark ha h9).2] at OP
  clear e9 ec em R FA ha hall hgood hfree
  have HD := hid D
  clear D
  go_enter Tryz.func7, Tryz.ntmps7
  go_wp2_with fail
  refine SM.out.mono ?_
  rintro e _ ⟨rfl, rfl⟩
  go_wp2_with fail
  refine CL.out.mono ?_
  rintro e w1 ⟨rfl, F1, d1, k1, f1⟩
  have D1 := hid (And.intro d1 (And.intro k1 f1))
  clear d1 k1 f1
  go_wp2_with fail
  refine (MK.out w1 F1 D1.out.1).mono ?_
  rintro e w2 ⟨rfl, F2, d2, k2, f2⟩
  have D2 := hid (And.intro d2 (And.intro k2 f2))
  clear d2 k2 f2
  go_wp2_with fail
  refine (OP.out w2 F2 D2.out.1).mono ?_
  rintro e w3 ⟨t, q, g, m, rfl, o1, o2, o3, o4, o5⟩
  have D3 := hid (And.intro o1 (And.intro o2 (And.intro o3 (And.intro o4 o5))))
  clear o1 o2 o3 o4 o5
  go_wp2_with fail
  go_ret2
  obtain ⟨o1, o2, o3, o4, o5⟩ := D3.out
  obtain ⟨a1, a2, a3⟩ := D1.out
  obtain ⟨b1, b2, b3⟩ := D2.out
  have k12 : Keeps F w w2 := a2.trans' b2 (fun i hi hm => by
    rcases a3 i hm with h | h
    · exact h
    · omega)
  have f12 : Fresh w F F2 := fun j hj => by
    rcases b3 j hj with h | h
    · exact a3 j h
    · exact .inr (Nat.le_trans a2.size h)
  have lF2 : ∀ j ∈ F2, j < w2.heap.size := fun j hj => by obtain ⟨mm, dm⟩ := b1.dm; exact dm.lt j hj
  have hz := k12.size
  refine ⟨t, q, g, m, F2, rfl, ⟨o1, o2.mono (by omega), o3, ?_⟩, fun h => by have := lF2 _ h; omega, fun h => by have := lF2 _ h; omega, k12.trans (o5.mono (by simp)), f12⟩
  omega
end Go.Proofs.YtnhcfkiejldicaaGreat


/- store: Put of what is not there. -/
namespace Go.Proofs.YtnhcfkiejldicaaGreat
open Go.RowKit Go.Shelf Go.Maps
set_option maxRecDepth 100000

def Sfar (t q g m : Nat) (F : List Nat) (b : Nat) : Prop := b ∉ F ∧ b ≠ q ∧ b ≠ g ∧ b ≠ t ∧ b ≠ m
def usedN (hs : List Hd) : Nat := (hs.filter (·.used)).length
/-- A store at t. -/
structure StAt (w : World) (t q p g m : Nat) (hs : List Hd) (s : DS) (F : List Nat) (K : Nat) (wh : Bool) (G : Idn → Option Nat) : Prop where
  blk : StBlk w t p q m wh
  sl : SlAt w q p g 1 hs s F K
  mp : WhAt w m K (usedN hs) (Sfar t q g m F) G
  ft : t ∉ F ∧ t ≠ q ∧ t ≠ g ∧ t ≠ m
  fm : m ∉ F ∧ m ≠ q ∧ m ≠ g
  at_ : ∀ x i, x.In → G x = some i → ∃ h : i < hs.length, hs[i].used = true
theorem StAt.keep {w w' : World} {t q p g m : Nat} {hs : List Hd} {s : DS} {F : List Nat} {K : Nat} {wh : Bool} {G : Idn → Option Nat} (h : StAt w t q p g m hs s F K wh G) (k : Keeps [] w w') : StAt w' t q p g m hs s F K wh G :=
  ⟨h.blk.keep k (by simp), h.sl.keep k (by simp) (by simp) (by simp), h.mp.keep k (by simp) (fun b hb _ => ⟨by simp, hb⟩), h.ft, h.fm, h.at_⟩

theorem usedN_le (hs : List Hd) : usedN hs ≤ hs.length := List.length_filter_le _ _
theorem usedN_set : ∀ (hs : List Hd) (i : Nat) (h : i < hs.length) (x : Hd), hs[i].used = false → x.used = true → usedN (hs.set i x) = usedN hs + 1
  | a :: l, 0, _, x, h1, h2 => by
    have h1' : a.used = false := h1
    simp [usedN, h1', h2]
  | a :: l, i + 1, h, x, h1, h2 => by
    have ih := usedN_set l i (by simpa using h) x (by simpa using h1) h2
    unfold usedN at ih ⊢
    rw [List.set_cons_succ, List.filter_cons, List.filter_cons]
    split
    · simp only [List.length_cons, ih]
    · exact ih
theorem free_some (hs : List Hd) (h : usedN hs < hs.length) : ∃ i, ∃ hi : i < hs.length, hs[i].used = false ∧ freeS hs = (i : Int) := by
  unfold freeS idxS
  cases hf : hs.findIdx? (fun h => !h.used) with
  | none =>
    rw [List.findIdx?_eq_none_iff] at hf
    have : hs.filter (·.used) = hs := List.filter_eq_self.2 (fun x hx => by have := hf x hx; simpa using this)
    unfold usedN at h
    rw [this] at h
    omega
  | some i =>
    rw [List.findIdx?_eq_some_iff_getElem] at hf
    obtain ⟨hi, h1, _⟩ := hf
    exact ⟨i, hi, by simpa using h1, rfl⟩

theorem put_two (s : DS) (hs : List Hd) (k : Nat) (hk : k < hs.length) (hu : hs[k].used = false) (key b : List Int) (hkl : key.length ≤ 40) (hbl : b.length ≤ 448) :
    (putE hs 1 s k key b = 0 ∧ putH hs 1 s k key b = hs.set k ⟨true, b.length, key⟩ ∧ (putS hs 1 s k key b).dead = false) ∨ (putE hs 1 s k key b = 14 ∧ putH hs 1 s k key b = hs ∧ (putS hs 1 s k key b).dead = true) := by
  have hh : hasS hs k = true := by simp [hasS, hk]
  have hus : usedS hs k = false := by rw [usedS, headS_at hk, hu]
  have hl : ¬ (40 < key.length ∨ 448 < b.length) := by omega
  have eo : putOk hs k key b = true := by simp [putOk, hus, hh]; omega
  have e1 : putS hs 1 s k key b = putD s (1 + k * 8) key b := by simp only [putS, eo, if_true, Int.toNat_natCast]
  have e3 : putE hs 1 s k key b = deadE (putD s (1 + k * 8) key b) := by simp only [putE, hh, hl, hus, if_false, Int.toNat_natCast]; simp
  have e2 : putH hs 1 s k key b = if (putD s (1 + k * 8) key b).dead then hs else hs.set k ⟨true, b.length, key⟩ := by
    simp only [putH, eo, Bool.true_and, Int.toNat_natCast]
    cases (putD s (1 + k * 8) key b).dead <;> rfl
  rw [e1, e2, e3]
  cases hd : (putD s (1 + k * 8) key b).dead with
  | false => left; exact ⟨by rw [deadE, hd]; rfl, by simp, rfl⟩
  | true => right; exact ⟨by rw [deadE, hd]; rfl, by simp, rfl⟩

theorem iInts3 : (Tryz.prog.info? 3).map (fun i => (i.zero, i.size, i.bytes)) = some (some (.int .i64 0), 1, 8) := by kernel_rfl
theorem exec_oneI {ρ : Operand → Value} {o : Oper} {w : World} (x : Operand) (c : Int) (ho : o.op = .buildSlice 58 1 #[(0, x)]) (hx : ρ x = .int .i64 c) :
    (execOp ρ o).run Tryz.prog w = .ok (.value (.slice (some ⟨w.heap.size, 0, none⟩) 1 1)) (w.alloc (.cells #[.int .i64 c] 3)) := by
  obtain ⟨ie, hie, hz, hs, _⟩ := info_parts iInts3
  have h : (Instr.buildSlice 58 1 #[(0, .int .i64 c)]).run Tryz.prog w = .ok (.slice (some ⟨w.heap.size, 0, none⟩) 1 1) (w.alloc (.cells #[.int .i64 c] 3)) := by
    refine run_buildSlice w _ _ 1 _ _ ie _ Tryz.underlying58 hie hz (by rw [hs]; decide) (by rw [hs]; decide) ?_
    rw [hs]
    have e : (Array.range (1 * 1)) = #[0] := rfl
    have e2 : (Value.int .i64 0).cells = #[.int .i64 0] := rfl
    have e3 : (Value.int .i64 c).cells = #[.int .i64 c] := rfl
    simp only [Instr.fill, e, e2, e3]
    simp
  simp only [execOp, ho, List.map_toArray, List.map_cons, List.map_nil, hx, Sem.run_bind, h, Result.andThen_ok, Sem.run_pure]
theorem wp_mstoreI {o : Oper} {a : Act} {w : World} {K' : Act → World → Prop} {Q : Exit → Act → World → Prop} (x y z : Operand) (ho : o.op = .mapUpdate 55 x y z) (m n c : Nat) (f : Idn → Value) (h : MapW w m n c f) (hx : a.eval x = .map (some m)) (X : Idn) (hX : X.In) (hn : n < 140737488351232)
    (hy : a.eval y = idV X) (v : Value) (hv : v ≠ vnil) (hz : a.eval z = v) (hK : ∀ w' c', MapW w' m (n + 1) c' (updI f X v) → (f X = vnil → c' = c + 1) → Keeps [m] w w' → K' (a.put o.dst undef) w') : o.wp Tryz.prog a w K' Q := by
  obtain ⟨w', c', hrun, h1, h2, _, h3⟩ := h.store hX hn v hv
  unfold Oper.wp execOp
  simp only [ho, hx, hy, hz, Sem.run_bind, hrun, Result.andThen_ok, Sem.run_pure]
  exact hK w' c' h1 h2 h3
theorem mayI_In {x : Idn} (h : mayI x = true) : x.In := by
  obtain ⟨h1, h2, h3, h4⟩ := mayI_is.1 h
  exact ⟨⟨by omega, by omega⟩, ⟨by omega, by omega⟩, ⟨by omega, by omega⟩, ⟨by omega, by omega⟩⟩

def setG (G : Idn → Option Nat) (x : Idn) (v : Option Nat) : Idn → Option Nat := fun y => if y = x then v else G y
end Go.Proofs.YtnhcfkiejldicaaGreat


/- store: Put of what is not there, its walk. -/
namespace Go.Proofs.YtnhcfkiejldicaaGreat
open Go.RowKit Go.Shelf Go.Maps
set_option maxRecDepth 100000

theorem wpList_loadId {ops : Array Oper} {rest : List Oper} {o : Oper} {a : Act} {w : World} {Q : Exit → Act → World → Prop} (hgd : o.guard = none) (X : Operand) (ho : o.op = .load 36 X) (b : Nat) (hx : a.eval X = .pointer (some ⟨b, 0, none⟩)) (x : Idn)
    (hb : w.heap[b]? = some (.cells #[.int .i64 x.c, .int .i64 x.l, .int .i64 x.n, .int .i64 x.i] 36 (0, 0)))
    (h : wpList Tryz.prog ops Q rest (a.put o.dst (idV x)) w) : wpList Tryz.prog ops Q (o :: rest) a w :=
  wpList_is hgd _ _ (exec_load _ _ _ _ ho hx (loadId_run hb)) h

theorem WhAt.mono {w : World} {m K K' c : Nat} {ok : Nat → Prop} {G : Idn → Option Nat} (h : WhAt w m K c ok G) (hk : K ≤ K') : WhAt w m K' c ok G := by
  obtain ⟨f, h1, h2⟩ := h
  exact ⟨f, h1.mono hk, h2⟩

def PutPost (w : World) (t q p g m : Nat) (hs : List Hd) (s : DS) (F : List Nat) (K : Nat) (wh : Bool) (G : Idn → Option Nat) (x : Idn) (b : List Int) (i : Nat) (e : Ending) (w' : World) : Prop :=
  ∃ F', Keeps (m :: g :: F) w w' ∧ Fresh w F F' ∧
    ((e = .returned (.int .i64 0) ∧ (putS hs 1 s i (keyI x) b).dead = false ∧ StAt w' t q p g m (hs.set i ⟨true, b.length, keyI x⟩) (putS hs 1 s i (keyI x) b) F' (K + 40) wh (setG G x (some i))) ∨
     (e = .returned (.int .i64 14) ∧ (putS hs 1 s i (keyI x) b).dead = true ∧ StAt w' t q p g m hs (putS hs 1 s i (keyI x) b) F' (K + 40) wh G))

set_option maxHeartbeats 6400000 in
theorem oPut_new (w : World) (t q p g m : Nat) (hs : List Hd) (s : DS) (F : List Nat) (K : Nat) (wh : Bool) (G : Idn → Option Nat) (S : StAt w t q p g m hs s F K wh G) (hK : K ≤ 10000000) (x : Idn) (hm : mayI x = true) (hg : G x = none) (hfree : usedN hs < hs.length)
    (bv : Value) (b : List Int) (hb : RowAt w bv b) (hbo : Off F bv b) (hbl : b.length ≤ 448) :
    ∃ i, ∃ hi : i < hs.length, hs[i].used = false ∧ Calls Tryz.prog 9 #[.pointer (some ⟨t, 0, none⟩), idV x, bv] w (PutPost w t q p g m hs s F K wh G x b i) := by
  obtain ⟨i, hi, hu, hfr⟩ := free_some hs hfree
  refine ⟨i, hi, hu, ?_⟩
  have hin := mayI_In hm
  have HS := hid S
  have hfew := S.sl.sl.few
  have PT := hid (put_two s hs i hi hu (keyI x) b (by rw [keyI_len]; omega) hbl)
  have US := hid (usedN_set hs i hi ⟨true, b.length, keyI x⟩ hu rfl)
  have KA := hid ((Keeps.refl [] w).alloc (.cells #[.int .i64 x.c, .int .i64 x.l, .int .i64 x.n, .int .i64 x.i] 36))
  have B1 := hid (heap_alloc_new w (.cells #[.int .i64 x.c, .int .i64 x.l, .int .i64 x.n, .int .i64 x.i] 36))
  have SA := hid (S.keep KA.out)
  have RB := hid (hb.keep KA.out (by intro _ _ _ _ _; simp))
  obtain ⟨ba, bc, rfl, -⟩ := id hb
  have hbl' : ¬ (448 : Int) < (b.length : Int) := by omega
  have HG := hid hg
  have HFR := hid hfr
  have HOFF := hid hbo
  have hun := usedN_le hs
  have hne : ((hs.length : Int) - (usedN hs : Int) == 0) = false := by simp; omega
  have HU := hid hu
  clear S hg hfr hbo hb hu
  have hidv : idV x = .agg #[.int .i64 x.c, .int .i64 x.l, .int .i64 x.n, .int .i64 x.i] := rfl
  rw [hidv]
  have HIDV := hid hidv
  clear hidv
  go_enter Tryz.func9, Tryz.ntmps9
  go_wp2_with fail
  have LTI := hid (lt_of_block B1.out)
  obtain ⟨ib, hib⟩ : ∃ z, z = w.heap.size := ⟨_, rfl⟩
  rw [← hib] at B1 LTI ⊢
  have HIB := hid hib
  clear hib
  generalize w.alloc (.cells #[.int .i64 x.c, .int .i64 x.l, .int .i64 x.n, .int .i64 x.i] 36) = wA at KA B1 SA RB LTI ⊢
  refine (made6_any wA t p q m wh SA.out.blk).mono ?_
  rintro e _ ⟨rfl, rfl⟩
  go_wp2_with (first | (refine wpList_loadId rfl _ rfl _ rfl x B1.out ?_) | fail)
  have ky := key_any wA x
  rw [hm] at ky
  simp only [if_true] at ky
  refine ky.mono ?_
  rintro e wB ⟨ka, kc, rfl, kr, kn, kk⟩
  have KR := hid kr
  have KN := hid kn
  have KB := hid (KA.out.trans kk)
  have SB := hid (SA.out.keep kk)
  have BB := hid ((kk.block _ LTI.out (by simp)).trans B1.out)
  have RBB := hid (RB.out.keep kk (by intro _ _ _ _ _; simp))
  have KZ := hid (show wA.heap.size ≤ wB.heap.size from kk.size)
  clear kr kn kk ky
  go_wp2_with (first | (refine wpList_loadId rfl _ rfl _ rfl x BB.out ?_) | fail)
  have hh := has_any6 wB t p q m wh SB.out.blk _ _ _ _ SB.out.mp x hin
  rw [HG.out] at hh
  refine hh.mono ?_
  rintro e wC ⟨rfl, kk⟩
  have KC := hid (KB.out.trans kk)
  have SC := hid (SB.out.keep kk)
  have BC := hid ((kk.block _ (lt_of_block BB.out) (by simp)).trans BB.out)
  have RBC := hid (RBB.out.keep kk (by intro _ _ _ _ _; simp))
  have KRC := hid (KR.out.keep kk (by intro _ _ _ _ _; simp))
  clear kk hh
  go_wp2_with fail
  obtain ⟨f, mf, hf⟩ := SC.out.mp
  have hv : ∀ y, y.In → f y ≠ vnil → ∃ a cap, f y = .slice a 1 cap := fun y hy hn => by
    rcases hf y hy with ⟨_, h⟩ | ⟨_, _, cap, _, _, h, _⟩
    · exact absurd h hn
    · exact ⟨_, cap, h⟩
  refine (room_any6 wC t p q m g wh SC.out.blk hs SC.out.sl.sl K _ f mf hv hun).mono ?_
  clear mf hf hv
  rintro e wD ⟨rfl, kk⟩
  have KD := hid (KC.out.trans kk)
  have SD := hid (SC.out.keep kk)
  have BD := hid ((kk.block _ (lt_of_block BC.out) (by simp)).trans BC.out)
  have RBD := hid (RBC.out.keep kk (by intro _ _ _ _ _; simp))
  have KRD := hid (KRC.out.keep kk (by intro _ _ _ _ _; simp))
  clear kk
  have c1D := SD.out.blk.c1
  go_wp2_with fail
  refine (lFree_any wD q p g 1 hs SD.out.sl.sl).mono ?_
  rintro e wE ⟨rfl, kk⟩
  rw [HFR.out]
  have KE := hid (KD.out.trans kk)
  have SE := hid (SD.out.keep kk)
  have BE := hid ((kk.block _ (lt_of_block BD.out) (by simp)).trans BD.out)
  have RBE := hid (RBD.out.keep kk (by intro _ _ _ _ _; simp))
  have KRE := hid (KRD.out.keep kk (by intro _ _ _ _ _; simp))
  clear kk c1D
  have c1E := SE.out.blk.c1
  have lF : ∀ j ∈ F, j < w.heap.size := fun j hj => by obtain ⟨mm, dm⟩ := HS.out.sl.dk.dm; exact dm.lt j hj
  have KOFF : Hid (Off F (.slice ka (keyI x).length kc) (keyI x)) := hid (fun ad n c e _ hmm => by
    injection e with e _ _
    have := KN.out ad e
    have := lF _ hmm
    have := KA.out.size
    omega)
  clear lF
  go_wp2_with fail
  refine (lPut_any wE q p g 1 hs s F K SE.out.sl (by omega) (i : Int) _ (keyI x) KRE.out KOFF.out _ b RBE.out HOFF.out).mono ?_
  rintro e wF ⟨rfl, F6, s6, k6, f6⟩
  have hzE := KE.out.size
  have ltE := SE.out.sl.sl.ltq
  have fr : ∀ b0, b0 < wE.heap.size → b0 ∉ F → b0 ∉ F6 := fun b0 h1 h2 hm2 => by
    rcases f6 b0 hm2 with h | h
    · exact h2 h
    · omega
  have tlt := lt_of_block SE.out.blk
  have S6 := hid s6
  have KF : Hid (Keeps (g :: F) w wF) := hid ((KE.out.mono (by simp)).trans k6)
  have FF : Hid (Fresh w F F6) := hid fun j hj => (f6 j hj).imp id (fun h => Nat.le_trans hzE h)
  have BLK := hid (SE.out.blk.keep k6 (by
    intro h
    rcases List.mem_cons.1 h with h | h
    · exact SE.out.ft.2.2.1 h
    · exact SE.out.ft.1 h))
  have hmg : m ∉ g :: F := by
    intro h
    rcases List.mem_cons.1 h with h | h
    · exact SE.out.fm.2.2 h
    · exact SE.out.fm.1 h
  have MP : Hid (WhAt wF m K (usedN hs) (Sfar t q g m F6) G) := hid (SE.out.mp.keep k6 hmg (fun b0 hb0 hl => ⟨by
    intro h
    rcases List.mem_cons.1 h with h | h
    · exact hb0.2.2.1 h
    · exact hb0.1 h, fr b0 hl hb0.1, hb0.2⟩))
  have FT6 : Hid (t ∉ F6 ∧ m ∉ F6) := hid ⟨fr t tlt SE.out.ft.1, by
    obtain ⟨f, mf, _⟩ := SE.out.mp
    exact fr m mf.lt SE.out.fm.1⟩
  have hmw : m < w.heap.size := by obtain ⟨f, mf, _⟩ := HS.out.mp; exact mf.lt
  have BF : Hid (wF.heap[ib]? = some (.cells #[.int .i64 x.c, .int .i64 x.l, .int .i64 x.n, .int .i64 x.i] 36 (0, 0))) := hid ((k6.block _ (lt_of_block BE.out) (by
    intro h
    have e1 := HIB.out
    have l1 := HS.out.sl.sl.ltg
    rcases List.mem_cons.1 h with h | h
    · omega
    · obtain ⟨mm, dm⟩ := HS.out.sl.dk.dm
      have := dm.lt _ h
      omega)).trans BE.out)
  have hzF := KF.out.size
  clear s6 k6 f6 fr c1E hmg
  rcases PT.out with ⟨p1, p2, p3⟩ | ⟨p1, p2, p3⟩
  · rw [p1]
    have P2 := hid p2
    have P3 := hid p3
    clear p1 p2 p3
    go_wp2_with fail
    obtain ⟨f, mf, hf⟩ := MP.out
    have hibm : ib ≠ m := by have := HIB.out; omega
    refine wp_region_any (by kernel_rfl) (wpAny_of_held (S := KpS [m] wF.heap.size wF.drew) _ _ _ _ ?_)
    change wpAnyH _ _ _ _ _ _ _ _ wF.drew
    have cT : ∀ W1, KpS [m] wF.heap.size wF.drew W1 → W1.cell? ⟨t, 2, none⟩ = some (.map (some m)) := fun W1 h => h.cell (by rw [World.cell?_drew]; exact BLK.out.c2) (lt_of_block BLK.out) (by simp; exact SE.out.ft.2.2.2)
    have cI : ∀ W1, KpS [m] wF.heap.size wF.drew W1 → W1.heap[ib]? = some (.cells #[.int .i64 x.c, .int .i64 x.l, .int .i64 x.n, .int .i64 x.i] 36 (0, 0)) := fun W1 h => (h.block ib (lt_of_block BF.out) (by simpa using hibm)).trans BF.out
    refine held_take (i := 0) (v := .pointer (some ⟨t, 0, none⟩)) rfl (by kernel_rfl) (by kernel_rfl) (by kernel_rfl) (fun _ _ _ h => h) rfl (fun W1 hW1 => rfl) (KpS.refl _ _ _) ?_
    simp only [Act.put, List.setIfInBounds_toArray, List.set_cons_zero, List.set_cons_succ]
    refine held_take (i := 1) (v := .pointer (some ⟨t, 0, none⟩)) rfl (by kernel_rfl) (by kernel_rfl) (by kernel_rfl) (fun _ _ _ h => h) rfl (fun W1 hW1 => by go_simp) (KpS.refl _ _ _) ?_
    simp only [Act.put, List.setIfInBounds_toArray, List.set_cons_zero, List.set_cons_succ]
    refine held_take (i := 2) (v := .pointer (some ⟨t, 2, none⟩)) rfl (by kernel_rfl) (by kernel_rfl) (by kernel_rfl) (fun _ _ _ h => h) rfl (fun W1 hW1 => by go_simp) (KpS.refl _ _ _) ?_
    simp only [Act.put, List.setIfInBounds_toArray, List.set_cons_zero, List.set_cons_succ]
    refine held_take (i := 3) (v := .map (some m)) rfl (by kernel_rfl) (by kernel_rfl) (by kernel_rfl) (fun _ _ _ h => h) rfl (fun W1 hW1 => exec_load _ _ _ _ rfl rfl (run_loadCell W1 _ _ _ (cT W1 hW1) (agg_no _ (by kernel_rfl)))) (KpS.refl _ _ _) ?_
    simp only [Act.put, List.setIfInBounds_toArray, List.set_cons_zero, List.set_cons_succ]
    refine held_take (i := 4) (v := idV x) rfl (by kernel_rfl) (by kernel_rfl) (by kernel_rfl) (fun _ _ _ h => h) rfl (fun W1 hW1 => exec_load _ _ _ _ rfl rfl (loadId_run (cI W1 hW1))) (KpS.refl _ _ _) ?_
    simp only [Act.put, List.setIfInBounds_toArray, List.set_cons_zero, List.set_cons_succ]
    refine held_take (i := 5) (v := .int .i64 i) rfl (by kernel_rfl) (by kernel_rfl) (by kernel_rfl) (fun _ _ _ h => h) rfl (fun W1 hW1 => rfl) (KpS.refl _ _ _) ?_
    simp only [Act.put, List.setIfInBounds_toArray, List.set_cons_zero, List.set_cons_succ]
    refine held_do (i := 6) (by kernel_rfl) rfl rfl (wp_value (exec_oneI _ _ rfl rfl) ?_)
    have kA2 : Keeps [] wF (wF.drew.alloc (.cells #[.int .i64 (i : Int)] 3)) := (Keeps.refl [] wF).drew.alloc _
    have sA2 : KpS [m] wF.heap.size wF.drew (wF.drew.alloc (.cells #[.int .i64 (i : Int)] 3)) := (KpS.refl _ _ _).alloc (by simp) _
    refine ⟨sA2, ?_⟩
    simp only [Act.put, List.setIfInBounds_toArray, List.set_cons_zero, List.set_cons_succ]
    refine held_do (i := 7) (by kernel_rfl) rfl rfl (wp_mstoreI _ _ _ rfl m K _ f (mf.keep kA2 (by simp)) rfl x hin (by omega) rfl (.slice (some ⟨wF.heap.size, 0, none⟩) 1 1) (by simp) rfl ?_)
    intro w7 c7 hm7 hc7 k7
    have s7 : KpS [m] wF.heap.size wF.drew w7 := sA2.keeps k7 (by simp) (fun j hj _ => hj)
    refine ⟨s7, ?_⟩
    simp only [Act.put]
    refine wpAnyH_done (by kernel_rfl) ?_ _
    have K7 := hid k7
    have M7 := hid (And.intro hm7 hc7)
    have HF := hid hf
    have MF := hid mf
    have KA2 := hid kA2
    clear cT cI sA2 s7 k7 hm7 hc7 hf mf kA2
    go_wp2_with fail
    go_ret
    have hlF6 : ∀ j ∈ F6, j < wF.heap.size := fun j hj => by obtain ⟨mm, dm⟩ := S6.out.dk.dm; exact dm.lt j hj
    have hqz := S6.out.sl.ltq
    have hgz := S6.out.sl.ltg
    have htz := lt_of_block BLK.out
    have hmz := MF.out.lt
    have hfx : f x = vnil := by
      rcases HF.out x hin with ⟨_, h⟩ | ⟨j, _, _, _, h, _⟩
      · exact h
      · rw [HG.out] at h; cases h
    have hc7 := M7.out.2 hfx
    have hkeep : ∀ b0, b0 < wF.heap.size → b0 ≠ m → w7.heap[b0]? = wF.heap[b0]? := fun b0 h1 h2 => by
      rw [K7.out.block b0 (by have := KA2.out.size; omega) (by simpa using h2), KA2.out.block b0 h1 (by simp)]
    have s6 := S6.out
    rw [P2.out] at s6
    refine ⟨F6, ((KF.out.mono (fun j hj h => List.mem_cons_of_mem _ h)).drew.alloc _).trans' K7.out (fun j hj h => by simp at h; simp [h]), FF.out, .inl ⟨rfl, P3.out, ⟨(BLK.out.keep KA2.out (by simp)).keep K7.out (by simp; exact SE.out.ft.2.2.2), (s6.keep KA2.out (by simp) (by simp) (by simp)).keep K7.out (by simp; exact fun e => SE.out.fm.2.1 e.symm) (by simp; exact fun e => SE.out.fm.2.2 e.symm) (fun b0 hb0 h => by simp at h; subst h; exact FT6.out.2 hb0), ?_, ⟨FT6.out.1, SE.out.ft.2⟩, ⟨FT6.out.2, SE.out.fm.2⟩, ?_⟩⟩⟩
    · refine ⟨_, by rw [US.out, ← hc7]; exact M7.out.1.mono (by omega), fun y hy => ?_⟩
      by_cases e : y = x
      · subst e
        right
        refine ⟨i, wF.heap.size, 1, #[.int .i64 (i : Int)], by simp [setG], updI_same _ _ _, Nat.le_refl _, ?_, rfl, fun h => by have := hlF6 _ h; omega, by omega, by omega, by omega, by omega⟩
        rw [K7.out.block _ (by simp) (by simp; omega)]
        exact heap_alloc_new wF.drew _
      · rw [updI_ne _ _ e]
        have eg : setG G x (some i) y = G y := by simp [setG, e]
        rw [eg]
        rcases HF.out y hy with h | ⟨j, b0, cap, cs, e1, e2, e3, e4, e5, e6⟩
        · exact .inl h
        · exact .inr ⟨j, b0, cap, cs, e1, e2, e3, (hkeep b0 (lt_of_block e4) e6.2.2.2.2).trans e4, e5, e6⟩
    · intro y j hy hyj
      by_cases e : y = x
      · subst e
        have hji : i = j := by simpa [setG] using hyj
        subst hji
        exact ⟨by rw [List.length_set]; exact hi, by rw [List.getElem_set_self]⟩
      · have hyj' : G y = some j := by simpa [setG, e] using hyj
        obtain ⟨h1, h2⟩ := SE.out.at_ y j hy hyj'
        refine ⟨by rw [List.length_set]; exact h1, ?_⟩
        by_cases e2 : j = i
        · subst e2; rw [List.getElem_set_self]
        · rw [List.getElem_set_ne (fun h => e2 h.symm)]; exact h2
  · rw [p1]
    have P2 := hid p2
    have P3 := hid p3
    clear p1 p2 p3
    go_wp2_with fail
    go_ret
    have s6 := S6.out
    rw [P2.out] at s6
    exact ⟨F6, KF.out.mono (fun j hj h => List.mem_cons_of_mem _ h), FF.out, .inr ⟨rfl, P3.out, ⟨BLK.out, s6, MP.out.mono (by omega), ⟨FT6.out.1, SE.out.ft.2⟩, ⟨FT6.out.2, SE.out.fm.2⟩, SE.out.at_⟩⟩⟩
end Go.Proofs.YtnhcfkiejldicaaGreat


/- store: whether it may be asked; Get. -/
namespace Go.Proofs.YtnhcfkiejldicaaGreat
open Go.RowKit Go.Shelf Go.Maps
set_option maxRecDepth 100000

theorem ask_any (w : World) (t p q m : Nat) (wh : Bool) (B : StBlk w t p q m wh) (x : Idn) : Calls Tryz.prog 30 #[.pointer (some ⟨t, 0, none⟩), idV x] w fun e w' => e = .returned (.int .i64 (if mayI x then 0 else 1)) ∧ Keeps [] w w' := by
  have KA := hid ((Keeps.refl [] w).alloc (.cells #[.int .i64 x.c, .int .i64 x.l, .int .i64 x.n, .int .i64 x.i] 36))
  have B1 := hid (heap_alloc_new w (.cells #[.int .i64 x.c, .int .i64 x.l, .int .i64 x.n, .int .i64 x.i] 36))
  have HB := hid (B.keep KA.out (by simp))
  clear B
  cases hm : mayI x with
  | true =>
    simp only [if_true]
    have HM := hid hm
    clear hm
    unfold idV
    go_enter Tryz.func30, Tryz.ntmps30
    go_wp2_with fail
    generalize w.alloc (.cells #[.int .i64 x.c, .int .i64 x.l, .int .i64 x.n, .int .i64 x.i] 36) = wA at KA B1 HB ⊢
    refine (made6_any wA t p q m wh HB.out).mono ?_
    rintro e _ ⟨rfl, rfl⟩
    go_wp2_with (first | (refine wpList_loadId rfl _ rfl _ rfl x B1.out ?_) | fail)
    have my := may_any wA x
    rw [HM.out] at my
    refine my.mono ?_
    rintro e wB ⟨rfl, kk⟩
    have KB := hid (KA.out.trans kk)
    clear kk my
    go_wp2_with fail
    go_ret
    exact ⟨rfl, KB.out⟩
  | false =>
    simp only [Bool.false_eq_true, if_false]
    have HM := hid hm
    clear hm
    unfold idV
    go_enter Tryz.func30, Tryz.ntmps30
    go_wp2_with fail
    generalize w.alloc (.cells #[.int .i64 x.c, .int .i64 x.l, .int .i64 x.n, .int .i64 x.i] 36) = wA at KA B1 HB ⊢
    refine (made6_any wA t p q m wh HB.out).mono ?_
    rintro e _ ⟨rfl, rfl⟩
    go_wp2_with (first | (refine wpList_loadId rfl _ rfl _ rfl x B1.out ?_) | fail)
    have my := may_any wA x
    rw [HM.out] at my
    refine my.mono ?_
    rintro e wB ⟨rfl, kk⟩
    have KB := hid (KA.out.trans kk)
    clear kk my
    go_wp2_with fail
    go_ret
    exact ⟨rfl, KB.out⟩

set_option maxHeartbeats 6400000 in
/-- Get of a fragment that is there, on a living disk. -/
theorem oGet_yes (w : World) (t q p g m : Nat) (hs : List Hd) (s : DS) (F : List Nat) (K : Nat) (wh : Bool) (G : Idn → Option Nat) (S : StAt w t q p g m hs s F K wh G) (x : Idn) (hm : mayI x = true) (i : Nat) (hg : G x = some i) (hd : s.dead = false) (hi : i < hs.length) :
    Calls Tryz.prog 15 #[.pointer (some ⟨t, 0, none⟩), idV x] w fun e w' => ∃ v, e = .returned (.tuple #[v, .int .i64 0]) ∧ RowAt w' v (getB s (1 + i * 8) hs[i].held) ∧ NewV w v ∧ Keeps [] w w' := by
  have hin := mayI_In hm
  have HS := hid S
  obtain ⟨hi', hu⟩ := S.at_ x i hin hg
  have KA := hid ((Keeps.refl [] w).alloc (.cells #[.int .i64 x.c, .int .i64 x.l, .int .i64 x.n, .int .i64 x.i] 36))
  have B1 := hid (heap_alloc_new w (.cells #[.int .i64 x.c, .int .i64 x.l, .int .i64 x.n, .int .i64 x.i] 36))
  have SA := hid (S.keep KA.out)
  have HG := hid hg
  have HU := hid hu
  have HD := hid hd
  have HM := hid hm
  obtain ⟨bb, hbb⟩ : ∃ z, z = getB s (1 + i * 8) hs[i].held := ⟨_, rfl⟩
  rw [← hbb]
  have HBB := hid hbb
  clear S hg hu hd hm hbb
  unfold idV
  go_enter Tryz.func15, Tryz.ntmps15
  go_wp2_with (first | (refine wpList_loadId rfl _ rfl _ rfl x B1.out ?_) | fail)
  have hz0 : w.heap.size < (w.alloc (.cells #[.int .i64 x.c, .int .i64 x.l, .int .i64 x.n, .int .i64 x.i] 36)).heap.size := by simp
  generalize w.alloc (.cells #[.int .i64 x.c, .int .i64 x.l, .int .i64 x.n, .int .i64 x.i] 36) = wA at KA B1 SA hz0 ⊢
  have HZ0 := hid hz0
  clear hz0
  have ak := ask_any wA t p q m wh SA.out.blk x
  rw [HM.out] at ak
  simp only [if_true] at ak
  refine ak.mono ?_
  rintro e wB ⟨rfl, kk⟩
  have KB := hid (KA.out.trans kk)
  have SB := hid (SA.out.keep kk)
  have BB := hid ((kk.block _ HZ0.out (by simp)).trans B1.out)
  clear kk ak
  go_wp2_with (first | (refine wpList_loadId rfl _ rfl _ rfl x BB.out ?_) | fail)
  have hh := has_any6 wB t p q m wh SB.out.blk _ _ _ _ SB.out.mp x hin
  rw [HG.out] at hh
  refine hh.mono ?_
  rintro e wC ⟨rfl, kk⟩
  have KC := hid (KB.out.trans kk)
  have SC := hid (SB.out.keep kk)
  have BC := hid ((kk.block _ (lt_of_block BB.out) (by simp)).trans BB.out)
  clear kk hh
  go_wp2_with fail
  obtain ⟨f, mf, hf⟩ := SC.out.mp
  obtain ⟨b0, cap, cs, e2, e4, e5⟩ : ∃ b0 cap cs, f x = .slice (some ⟨b0, 0, none⟩) 1 cap ∧ wC.heap[b0]? = some (.cells cs 3 (0, 0)) ∧ cs[0]? = some (.int .i64 (i : Int)) := by
    rcases hf x hin with ⟨h, _⟩ | ⟨j, b0, cap, cs, e1, e2, _, e4, e5, _⟩
    · rw [HG.out] at h; cases h
    · rw [HG.out] at e1
      injection e1 with e1
      subst e1
      exact ⟨b0, cap, cs, e2, e4, e5⟩
  have MF := hid mf
  have E := hid (And.intro e2 (And.intro e4 e5))
  clear mf hf e2 e4 e5
  refine wp_region_any (by kernel_rfl) (wpAny_of_held (S := KpS [] wC.heap.size wC.drew) _ _ _ _ ?_)
  change wpAnyH _ _ _ _ _ _ _ _ wC.drew
  have hk : ∀ W1, KpS [] wC.heap.size wC.drew W1 → Keeps [] wC W1 := fun W1 h => ⟨h.os, h.tape, h.output, h.size, fun j hj hm => h.block j hj hm⟩
  refine held_take (i := 0) (v := .pointer (some ⟨t, 0, none⟩)) rfl (by kernel_rfl) (by kernel_rfl) (by kernel_rfl) (fun _ _ _ h => h) rfl (fun W1 hW1 => rfl) (KpS.refl _ _ _) ?_
  simp only [Act.put, List.setIfInBounds_toArray, List.set_cons_zero, List.set_cons_succ]
  refine held_take (i := 1) (v := .pointer (some ⟨t, 0, none⟩)) rfl (by kernel_rfl) (by kernel_rfl) (by kernel_rfl) (fun _ _ _ h => h) rfl (fun W1 hW1 => by go_simp) (KpS.refl _ _ _) ?_
  simp only [Act.put, List.setIfInBounds_toArray, List.set_cons_zero, List.set_cons_succ]
  refine held_take (i := 2) (v := .pointer (some ⟨t, 1, none⟩)) rfl (by kernel_rfl) (by kernel_rfl) (by kernel_rfl) (fun _ _ _ h => h) rfl (fun W1 hW1 => by go_simp) (KpS.refl _ _ _) ?_
  simp only [Act.put, List.setIfInBounds_toArray, List.set_cons_zero, List.set_cons_succ]
  refine held_take (i := 3) (v := .pointer (some ⟨q, 0, none⟩)) rfl (by kernel_rfl) (by kernel_rfl) (by kernel_rfl) (fun _ _ _ h => h) rfl (fun W1 hW1 => exec_load _ _ _ _ rfl rfl (run_loadCell W1 _ _ _ ((SC.out.blk.keep (hk W1 hW1) (by simp)).c1) (agg_no _ (by kernel_rfl)))) (KpS.refl _ _ _) ?_
  simp only [Act.put, List.setIfInBounds_toArray, List.set_cons_zero, List.set_cons_succ]
  refine held_take (i := 4) (v := .pointer (some ⟨t, 0, none⟩)) rfl (by kernel_rfl) (by kernel_rfl) (by kernel_rfl) (fun _ _ _ h => h) rfl (fun W1 hW1 => rfl) (KpS.refl _ _ _) ?_
  simp only [Act.put, List.setIfInBounds_toArray, List.set_cons_zero, List.set_cons_succ]
  refine held_take (i := 5) (v := .pointer (some ⟨t, 0, none⟩)) rfl (by kernel_rfl) (by kernel_rfl) (by kernel_rfl) (fun _ _ _ h => h) rfl (fun W1 hW1 => by go_simp) (KpS.refl _ _ _) ?_
  simp only [Act.put, List.setIfInBounds_toArray, List.set_cons_zero, List.set_cons_succ]
  refine held_take (i := 6) (v := .pointer (some ⟨t, 2, none⟩)) rfl (by kernel_rfl) (by kernel_rfl) (by kernel_rfl) (fun _ _ _ h => h) rfl (fun W1 hW1 => by go_simp) (KpS.refl _ _ _) ?_
  simp only [Act.put, List.setIfInBounds_toArray, List.set_cons_zero, List.set_cons_succ]
  refine held_take (i := 7) (v := .map (some m)) rfl (by kernel_rfl) (by kernel_rfl) (by kernel_rfl) (fun _ _ _ h => h) rfl (fun W1 hW1 => exec_load _ _ _ _ rfl rfl (run_loadCell W1 _ _ _ ((SC.out.blk.keep (hk W1 hW1) (by simp)).c2) (agg_no _ (by kernel_rfl)))) (KpS.refl _ _ _) ?_
  simp only [Act.put, List.setIfInBounds_toArray, List.set_cons_zero, List.set_cons_succ]
  refine held_take (i := 8) (v := idV x) rfl (by kernel_rfl) (by kernel_rfl) (by kernel_rfl) (fun _ _ _ h => h) rfl (fun W1 hW1 => exec_load _ _ _ _ rfl rfl (loadId_run (((hk W1 hW1).block _ (lt_of_block BC.out) (by simp)).trans BC.out))) (KpS.refl _ _ _) ?_
  simp only [Act.put, List.setIfInBounds_toArray, List.set_cons_zero, List.set_cons_succ]
  refine held_take (i := 9) (v := f x) rfl (by kernel_rfl) (by kernel_rfl) (by kernel_rfl) (fun _ _ _ h => h) rfl (fun W1 hW1 => exec_lookup _ _ rfl m K _ f (MF.out.keep (hk W1 hW1) (by simp)) rfl x hin rfl) (KpS.refl _ _ _) ?_
  simp only [Act.put, List.setIfInBounds_toArray, List.set_cons_zero, List.set_cons_succ]
  rw [E.out.1]
  refine held_take (i := 10) (v := .pointer (some ⟨b0, 0, none⟩)) rfl (by kernel_rfl) (by kernel_rfl) (by kernel_rfl) (fun _ _ _ h => h) rfl (fun W1 hW1 => by go_simp) (KpS.refl _ _ _) ?_
  simp only [Act.put, List.setIfInBounds_toArray, List.set_cons_zero, List.set_cons_succ]
  refine held_take (i := 11) (v := .int .i64 i) rfl (by kernel_rfl) (by kernel_rfl) (by kernel_rfl) (fun _ _ _ h => h) rfl (fun W1 hW1 => exec_load _ _ _ _ rfl rfl (run_loadCell W1 _ _ _ (by rw [cell_of_row _ _ 0 _ _ (0, 0) (((hk W1 hW1).block _ (lt_of_block E.out.2.1) (by simp)).trans E.out.2.1)]; exact E.out.2.2) (agg_no _ (by kernel_rfl)))) (KpS.refl _ _ _) ?_
  simp only [Act.put, List.setIfInBounds_toArray, List.set_cons_zero, List.set_cons_succ]
  have kd : Keeps [] wC wC.drew := (Keeps.refl [] wC).drew
  refine held_do (i := 12) (by kernel_rfl) rfl rfl (wp_enter (f := 40) (args := #[.pointer (some ⟨q, 0, none⟩), .int .i64 i]) (by go_simp) (callsIn_wide.1 (get_in 9 (by omega) wC.drew q p g 1 hs s F _ (SC.out.sl.keep kd (by simp) (by simp) (by simp)) i (1 + i * 8) rfl hi HU.out HD.out)) ?_)
  rintro e wD ⟨v, rfl, rv, nv, kv⟩
  have sD : KpS [] wC.heap.size wC.drew wD := (KpS.refl _ _ _).keeps kv (Nat.le_refl _) (by simp)
  refine ⟨_, rfl, sD, ?_⟩
  simp only [Act.put, List.setIfInBounds_toArray, List.set_cons_zero, List.set_cons_succ]
  refine held_take (i := 13) (v := v) rfl (by kernel_rfl) (by kernel_rfl) (by kernel_rfl) (fun _ _ _ h => h) rfl (fun W1 hW1 => by go_simp) (sD) ?_
  simp only [Act.put, List.setIfInBounds_toArray, List.set_cons_zero, List.set_cons_succ]
  refine held_take (i := 14) (v := .int .i64 0) rfl (by kernel_rfl) (by kernel_rfl) (by kernel_rfl) (fun _ _ _ h => h) rfl (fun W1 hW1 => by go_simp) (sD) ?_
  simp only [Act.put, List.setIfInBounds_toArray, List.set_cons_zero, List.set_cons_succ]
  refine held_take (i := 15) (v := v) rfl (by kernel_rfl) (by kernel_rfl) (by kernel_rfl) (fun _ _ _ h => h) rfl (fun W1 hW1 => rfl) (sD) ?_
  simp only [Act.put, List.setIfInBounds_toArray, List.set_cons_zero, List.set_cons_succ]
  refine held_take (i := 16) (v := .int .i64 0) rfl (by kernel_rfl) (by kernel_rfl) (by kernel_rfl) (fun _ _ _ h => h) rfl (fun W1 hW1 => rfl) (sD) ?_
  simp only [Act.put, List.setIfInBounds_toArray, List.set_cons_zero, List.set_cons_succ]
  refine wpAnyH_done (by kernel_rfl) ?_ _
  have KD := hid (KC.out.trans (kd.trans kv))
  have R := hid (And.intro rv nv)
  have hzc := KC.out.size
  clear hk kd kv sD rv nv
  go_wp2_with fail
  go_ret2
  exact ⟨v, rfl, by rw [HBB.out]; exact R.out.1, fun b1 hb1 => Nat.le_trans hzc (R.out.2 b1 hb1), KD.out⟩
end Go.Proofs.YtnhcfkiejldicaaGreat


/- store: the keys of the map come, each once. -/
namespace Go.Proofs.YtnhcfkiejldicaaGreat
open Go.RowKit Go.Shelf Go.Maps
set_option maxRecDepth 100000

theorem iId : (Tryz.prog.info? 36).map (fun i => (i.zero, i.size)) = some (some (idV ⟨0, 0, 0, 0⟩), 4) := by kernel_rfl
theorem zeroId (w : World) : (zeroValue 36).run Tryz.prog w = .ok (idV ⟨0, 0, 0, 0⟩) w := by
  cases hq : Tryz.prog.info? 36 with
  | none => have := iId; simp [hq] at this
  | some i => have := iId; simp [hq] at this; simp [zeroValue, typeInfo, hq, this.1]
def idA (x : Idn) : Array Value := #[.int .i64 x.c, .int .i64 x.l, .int .i64 x.n, .int .i64 x.i]
theorem idV_cells (x : Idn) : (idV x).cells = idA x := rfl
theorem idA_one (x : Idn) : ((idA x).all fun v => v.oneCell') = true := by simp [idA, Value.oneCell']
section
variable {F : Fence} {n : Nat} {ops : Array Oper} {rest : List Oper} {o : Oper} {a : Act} {w : World} {Q : Exit → Act → World → Prop}
theorem wpListIn_allocId (hgd : o.guard = none) (ho : o.op = .alloc 36)
    (h : wpListIn F n Tryz.prog ops Q rest (a.put o.dst (.pointer (some ⟨w.heap.size, 0, none⟩))) (w.alloc (.cells (idA ⟨0, 0, 0, 0⟩) 36))) : wpListIn F n Tryz.prog ops Q (o :: rest) a w := by
  refine wpListIn_is hgd (by simp [noDefer, ho]) (fun w => by simp [Oper.about, ho]) _ _ ?_ h
  simp only [execOp, ho, Instr.alloc, newVar, newRow, Sem.run_bind, zeroId, idV_cells, Result.andThen_ok, Sem.run_pure, run_newObj_alloc]
theorem wpListIn_storeIdNew (hgd : o.guard = none) (x y : Operand) (ho : o.op = .store 36 x y) (W : World) (p r : Idn) (hw : w = W.alloc (.cells (idA p) 36)) (N : Nat) (hx : a.eval x = .pointer (some ⟨N, 0, none⟩)) (hN : N = W.heap.size)
    (hy : a.eval y = idV r) (h : wpListIn F n Tryz.prog ops Q rest (a.put o.dst undef) (W.alloc (.cells (idA r) 36))) : wpListIn F n Tryz.prog ops Q (o :: rest) a w := by
  subst hN
  subst hw
  have hd' : ∀ c, o.op ≠ .defer c := fun c e => by simp [ho] at e
  refine wpListIn_plain hgd fun K hK => ?_
  unfold Oper.wpIn
  have hr := run_storeAt_new (P := Tryz.prog) W 36 (idA p) (idA r) (by rw [sId]; rfl) rfl (idA_one r)
  have hy' : a.eval y = .agg (idA r) := hy
  refine ⟨fun f hf => by simp [Oper.about, ho] at hf, ?_⟩
  rw [Oper.semAt_eq _ _ _ hd']
  unfold execOp
  simp only [ho, hx, hy', hr, Sem.run_bind, Result.andThen_ok]
  exact hK _ _ h
theorem wpListIn_loadIdA (hgd : o.guard = none) (X : Operand) (ho : o.op = .load 36 X) (b : Nat) (hx : a.eval X = .pointer (some ⟨b, 0, none⟩)) (x : Idn) (hb : w.heap[b]? = some (.cells (idA x) 36 (0, 0)))
    (h : wpListIn F n Tryz.prog ops Q rest (a.put o.dst (idV x)) w) : wpListIn F n Tryz.prog ops Q (o :: rest) a w := by
  refine wpListIn_is hgd (by simp [noDefer, ho]) (fun w => by simp [Oper.about, ho]) _ _ ?_ h
  exact exec_load _ _ _ _ ho hx (loadId_run hb)
end

/-- What came: none twice, just those that there are. -/
def CameI (f : Idn → Value) (xs : List Idn) : Prop := xs.Pairwise (· ≠ ·) ∧ (∀ x ∈ xs, x.In) ∧ ∀ x, x.In → (x ∈ xs ↔ f x ≠ vnil)

set_option maxHeartbeats 3200000 in
theorem keysI_in (n : Nat) (hn : 1 ≤ n) (l Bm b nn c : Nat) (f : Idn → Value) (D0 : DataW Value) (hhas : ∀ x, x.In → (Maps.has D0 (kI x) = true ↔ f x ≠ vnil)) (hkk : ∀ k, Maps.has D0 k = true → ∃ x, x.In ∧ k = kI x) (hsz : Maps.size D0 = c) (J Jx : List Idn → World → Prop)
    (hY : ∀ pre x W, J pre W → pre.length < c → YieldAt Fence.wide (n - 1) Tryz.prog l #[idV x] W fun e W' => (e = .returned (.bool true) ∧ J (pre ++ [x]) W' ∧ KeepsWalks W W') ∨ (e = .returned (.bool false) ∧ Jx (pre ++ [x]) W'))
    (W : World) (hJ : AbidesFrom W.heap.size J) (hm : W.cell? ⟨Bm, 0, none⟩ = some (.map (some b))) (hown : W.ownsMap Tryz.prog 36 RV b nn D0) (h0 : J [] W) :
    CallsIn Fence.wide n Tryz.prog 64 #[.func (.yield l) #[] #[], .pointer (some ⟨Bm, 0, none⟩)] W fun e W' => (∃ v, e = .returned v) ∧ ((∃ xs : List Idn, CameI f xs ∧ J xs W') ∨ (∃ xs : List Idn, True ∧ Jx xs W')) := by
  refine callsIn_of_wp Tryz.func64 rfl trivial ?_ rfl
  simp only [Tryz.ntmps64, List.size_toArray, List.length_cons, List.length_nil, Nat.reduceAdd, Nat.reduceSub, Array.replicate_succ, Array.replicate_zero, List.push_toArray, List.append_toArray, List.nil_append, List.cons_append]
  have HH := hid hhas
  have HK := hid hkk
  have HY := hid hY
  have HJ := hid hJ
  have HOWN := hid hown
  clear hhas hkk hY
  have hW0 := h0
  gi_wp2_with (first | (refine wpListIn_range_own _ rfl _ _ rfl 36 58 idKeyed Tryz.underlying55 RV b nn D0 rfl hown ?_; intro w2 hrg hg hs2; have RG := hid hrg; have G2 := hid hg; clear hrg hg) | fail)
  go_frame
  gi_loopw [3] (fun _ wr => ∃ (left : Lit → Bool) (cnt : Nat) (xs : List Idn), wr.ranges Tryz.prog 36 RV b W.heap.size nn D0 left cnt ∧ xs.length + cnt ≤ c ∧ xs.Pairwise (· ≠ ·) ∧ (∀ x ∈ xs, x.In ∧ Maps.has D0 (kI x) = true) ∧ (∀ x, x.In → (left (kI x) = true ↔ Maps.has D0 (kI x) = true ∧ x ∉ xs)) ∧ (∀ k, left k = true → Maps.has D0 k = true) ∧ J xs wr)
    (fun _ wr => wr.rangeLeft b W.heap.size)
  case atStart => exact ⟨_, _, [], RG.out, by simp [hsz], List.Pairwise.nil, by simp, fun x _ => by simp, fun k h => h, HJ.out [] W w2 none hW0 G2.out (fun r e => by cases e)⟩
  case round =>
    obtain ⟨left, cnt, xs, hrg, hcs, hp, hin, hl, hlh, hJs⟩ := hrel
    have RG2 := hid hrg
    have HP := hid hp
    have HIN := hid hin
    have HL := hid hl
    have HLH := hid hlh
    have HJS := hid hJs
    clear hrg hp hin hl hlh hJs
    gi_wp2_with (first | (refine wpListIn_next_ranges _ rfl _ rfl 36 idKeyed RV (fun v : Value => v) (fun v : Value => v) (fun key kl _ => ⟨key, rfl⟩) (fun v y _ => ⟨v, rfl⟩) b W.heap.size nn D0 left cnt rfl RG2.out ?_ ?_; rotate_left; (rintro key v k y w4 cnt' hkey hlk hv hat' hrg1 hlt hg1 hs1 hen; obtain ⟨x, hx, rfl⟩ := HK.out k (HLH.out k hlk); obtain rfl := idKeyed.inj hkey (key_id hx); have HLK := hid hlk; have R4 := hid hrg1; have G4 := hid hg1; have LT4 := hid hlt; have HS1 := hid hs1; have hJ2 := HJ.out xs w4 (w4.alloc (.cells (idA x) 36)) none (HJ.out xs wr w4 (some W.heap.size) HJS.out hg1 (fun r e => by cases e; exact ⟨Nat.le_refl _, RG2.out.iter_walk⟩)) (World.grownBy_alloc w4 _ none) (fun r e => by cases e); obtain ⟨fn, tmps, assign, body, hy, hR⟩ := HY.out xs x (w4.alloc (.cells (idA x) 36)) hJ2 (by omega); have HR := hid hR; clear hkey hv hat' hlk hrg1 hg1 hlt hs1 hJ2 hR); rotate_left; (intro _ hl0; have HL0 := hid hl0; clear hl0)) | (refine wpListIn_allocId rfl rfl ?_) | (refine wpListIn_storeIdNew rfl _ _ rfl _ _ _ rfl _ rfl rfl rfl ?_) | (refine wpListIn_loadIdA rfl _ rfl _ rfl _ (heap_alloc_new _ _) ?_) | fail)
    · go_end0
      refine ⟨⟨_, rfl⟩, .inl ⟨xs, ⟨HP.out, fun x hx => (HIN.out x hx).1, fun x hx => ?_⟩, HJS.out⟩⟩
      constructor
      · intro h
        exact (HH.out x hx).1 (HIN.out x h).2
      · intro h
        cases Classical.em (x ∈ xs) with
        | inl h2 => exact h2
        | inr h2 =>
          have h3 := (HL.out x hx).2 ⟨(HH.out x hx).2 h, h2⟩
          rw [HL0.out] at h3
          cases h3
    · refine HR.out.mono ?_
      rintro e W3 (⟨rfl, hJ3, hk3⟩ | ⟨rfl, hJx3⟩)
      · gi_wp2
        have hrg3 := (R4.out.alloc (.cells (idA x) 36)).of_walks hk3
        have hlk := (HL.out x hx).1 HLK.out
        have hlt4 := LT4.out
        go_roundw
        case rel =>
          refine ⟨_, cnt', xs ++ [x], hrg3, by simp; omega, List.pairwise_append.2 ⟨HP.out, by simp, fun a ha b hb e => by simp at hb; subst hb; subst e; exact hlk.2 ha⟩, fun y hy => ?_, fun y hy => ?_, fun k hk => ?_, hJ3⟩
          · rcases List.mem_append.1 hy with hy | hy
            · exact HIN.out y hy
            · simp at hy; subst hy; exact ⟨hx, hlk.1⟩
          · have hly := HL.out y hy
            rw [Bool.and_eq_true, hly]
            constructor
            · rintro ⟨⟨h1, h2⟩, h3⟩
              refine ⟨h1, fun hm2 => ?_⟩
              rcases List.mem_append.1 hm2 with hm2 | hm2
              · exact h2 hm2
              · simp at hm2
                subst hm2
                rw [WideAt.sameKey_self (idKeyed.key (key_id hx))] at h3
                cases h3
            · rintro ⟨h1, h2⟩
              refine ⟨⟨h1, fun hm2 => h2 (List.mem_append_left _ hm2)⟩, ?_⟩
              rw [sameKey_ne (fun e => h2 (by rw [kI_inj hy hx e]; simp))]
              rfl
          · rw [Bool.and_eq_true] at hk
            exact HLH.out k hk.1
        case measure => rw [hrg3.left_eq, RG2.out.left_eq]; exact hlt4
      · gi_wp2
        refine bodyPost_ret (results_none rfl _ _ _) rfl ?_
        exact ⟨⟨_, rfl⟩, .inr ⟨xs ++ [x], trivial, hJx3⟩⟩

/-- maps.Keys hands back a value that tells all ids, each once. -/
theorem keysI_stops (n : Nat) (hn : 1 ≤ n) (Bm b nn c : Nat) (f : Idn → Value) (w : World) (hBm : Bm < w.heap.size) (hm : w.cell? ⟨Bm, 0, none⟩ = some (.map (some b))) (M : MapW w b nn c f) :
    SeqStopsK Fence.wide n Tryz.prog 64 #[.pointer (some ⟨Bm, 0, none⟩)] (fun x : Idn => #[idV x]) KeepsWalks (CameI f) (fun _ => True) c w := fun l J Jx W hW hJ _ hY h0 => by
  obtain ⟨D, ho, hr, hh, hk, hsz⟩ := M
  have hown' : W.ownsMap Tryz.prog 36 RV b nn D := by
    have hbl := ho.lt
    obtain ⟨es, clock, hb, Ft, hs, hD⟩ := ho
    exact ⟨es, clock, (hW.block b hbl).trans hb, Ft, hs, hD⟩
  exact keysI_in n hn l Bm b nn c f D hh hk hsz J Jx hY W hJ ((hW.cell (p := ⟨Bm, 0, none⟩) hBm).trans hm) hown' h0
end Go.Proofs.YtnhcfkiejldicaaGreat


/- store: the ids are collected. -/
namespace Go.Proofs.YtnhcfkiejldicaaGreat
open Go.RowKit Go.Shelf Go.Maps
set_option maxRecDepth 100000

section
variable {ops : Array Oper} {rest : List Oper} {o : Oper} {a : Act} {w : World} {Q : Exit → Act → World → Prop}
theorem wpList_allocId (hgd : o.guard = none) (ho : o.op = .alloc 36)
    (h : wpList Tryz.prog ops Q rest (a.put o.dst (.pointer (some ⟨w.heap.size, 0, none⟩))) (w.alloc (.cells (idA ⟨0, 0, 0, 0⟩) 36))) : wpList Tryz.prog ops Q (o :: rest) a w := by
  refine wpList_is hgd _ _ ?_ h
  simp only [execOp, ho, Instr.alloc, newVar, newRow, Sem.run_bind, zeroId, idV_cells, Result.andThen_ok, Sem.run_pure, run_newObj_alloc]
theorem wpList_storeIdNew (hgd : o.guard = none) (x y : Operand) (ho : o.op = .store 36 x y) (W : World) (p r : Idn) (hw : w = W.alloc (.cells (idA p) 36)) (N : Nat) (hx : a.eval x = .pointer (some ⟨N, 0, none⟩)) (hN : N = W.heap.size)
    (hy : a.eval y = idV r) (h : wpList Tryz.prog ops Q rest (a.put o.dst undef) (W.alloc (.cells (idA r) 36))) : wpList Tryz.prog ops Q (o :: rest) a w := by
  subst hN
  exact wpList_storeNew hgd 36 x y ho W _ _ hw hx hy (by rw [sId]; rfl) rfl (idA_one r) h
end
theorem infoId : (Tryz.prog.info? 36).map (fun i => (i.zero, i.size, i.bytes)) = some (some (idV ⟨0, 0, 0, 0⟩), 4, 32) := by kernel_rfl
theorem exec_oneId {ρ : Operand → Value} {o : Oper} {w : World} (x : Operand) (y : Idn) (ho : o.op = .buildSlice 39 1 #[(0, x)]) (hx : ρ x = idV y) :
    (execOp ρ o).run Tryz.prog w = .ok (.value (.slice (some ⟨w.heap.size, 0, none⟩) 1 1)) (w.alloc (.cells (idA y) 36)) := by
  obtain ⟨ie, hie, hz, hs, _⟩ := info_parts infoId
  have h : (Instr.buildSlice 39 1 #[(0, idV y)]).run Tryz.prog w = .ok (.slice (some ⟨w.heap.size, 0, none⟩) 1 1) (w.alloc (.cells (idA y) 36)) := by
    refine run_buildSlice w _ _ 1 _ _ ie _ Tryz.underlying39 hie hz (by rw [hs]; decide) (by rw [hs]; decide) ?_
    rw [hs]
    have e : (Array.range (1 * 4)) = #[0, 1, 2, 3] := rfl
    simp [Instr.fill, e, idV_cells, idA]
  simp only [execOp, ho, List.map_toArray, List.map_cons, List.map_nil, hx, Sem.run_bind, h, Result.andThen_ok, Sem.run_pure]
theorem exec_appI {ρ : Operand → Value} {o : Oper} {w w' : World} {v u z : Value} (t : TypeId) (x y : Operand) (ho : o.op = .call { callee := .builtin .append, args := #[x, y], argTypes := #[t, t] }) (hx : ρ x = u) (hy : ρ y = z) (h : (Builtin.append_ #[t, t] o.type #[u, z]).run Tryz.prog w = .ok v w') : (execOp ρ o).run Tryz.prog w = .ok (.value v) w' := by
  simp [execOp, ho, resolve, invoke, builtin, hx, hy, h, Result.andThen]

def idsC (xs : List Idn) : List Value := xs.flatMap Idn.cells
theorem idsC_snoc (xs : List Idn) (x : Idn) : idsC (xs ++ [x]) = idsC xs ++ x.cells := by simp [idsC]
/-- What was collected so far: the box holds a slice of the call's own. -/
def ColAt (w : World) (Bs : Nat) (pre : List Idn) (W : World) : Prop :=
  (∃ v, W.heap[Bs]? = some (.cells #[v] 39 (0, 0)) ∧ W.ownsRow w.heap.size 36 4 v pre.length (idsC pre)) ∧ Below w.heap.size w W
theorem row_grown {W W' : World} {row : Option Nat} {base : Nat} {v : Value} {k : Nat} {xs : List Value} (h : W.ownsRow base 36 4 v k xs) (hg : W.grownBy W' row)
    (hr : ∀ r, row = some r → ∃ o : Obj, W.heap[r]? = some o ∧ o.isCells = false) : W'.ownsRow base 36 4 v k xs := by
  refine h.kept hg ?_
  rcases h.2 with ⟨rfl, _⟩ | ⟨g, cap, cur, rfl, _, hgb, _⟩
  · exact .inl rfl
  · refine .inr fun e' => ?_
    obtain ⟨o, ho, hw⟩ := hr g (by simpa [Value.ownBlock] using e'.symm)
    rw [hgb] at ho; cases ho; cases hw
theorem col_from (w : World) (Bs B : Nat) (hB : w.heap.size ≤ B) : OwnFrom B (fun pre W => ColAt w Bs pre W) := fun pre A A' row ⟨⟨v, h1, h2⟩, h3⟩ hg hr => by
  refine ⟨⟨v, (hg.block Bs (lt_of_block h1) (fun e => ?_)).trans h1, row_grown h2 hg (fun r e => (hr r e).2)⟩, h3.grown hg h3.size (fun k e => Nat.le_trans hB (hr k e).1)⟩
  obtain ⟨_, o, ho, hc⟩ := hr Bs e.symm
  rw [h1] at ho
  cases ho
  cases hc
/-- The loop's variable. -/
def IdVar (B b : Nat) (x : Idn) (W : World) : Prop := B ≤ b ∧ W.heap[b]? = some (.cells (idA x) 36 (0, 0))
theorem idvar_from (B b : Nat) (x : Idn) (E : Prop) : OwnFrom B (fun (_ : Unit) W => E ∧ IdVar B b x W) := fun _ A B' row hs hg hr =>
  ⟨hs.1, hs.2.1, (hg.block b (lt_of_block hs.2.2) (fun e => by
    obtain ⟨_, o, ho, hc⟩ := hr b e.symm
    rw [hs.2.2] at ho
    cases ho
    cases hc)).trans hs.2.2⟩
theorem ownFrom_ex2 {α β : Type} {B : Nat} {I : α → β → World → Prop} (h : ∀ b, OwnFrom B (I b)) : OwnFrom B (fun s W => ∃ b, I b s W) := fun s A A' row ⟨b, hb⟩ hg hr => ⟨b, h b s A A' row hb hg hr⟩

theorem grownBy_setC (W : World) (b : Nat) (v : Value) : W.grownBy (W.setCell ⟨b, 0, none⟩ v) (some b) :=
  ⟨rfl, rfl, rfl, by simp [World.setCell], fun k _ hk => Below.heap_setCell _ _ _ k (fun e => hk (by rw [e]))⟩
theorem row_is_cells {W : World} {base : Nat} {v : Value} {k : Nat} {xs : List Value} (h : W.ownsRow base 36 4 v k xs) : ∀ j, v.ownBlock = some j → ∃ cur, W.heap[j]? = some (.cells cur 36 (0, 0)) := fun j hj => by
  rcases h.2 with ⟨rfl, _⟩ | ⟨g, cap, cur, rfl, _, hgb, _⟩
  · cases hj
  · have : g = j := by simpa [Value.ownBlock] using hj
    subst this
    exact ⟨cur, hgb⟩
theorem box_not_row {W : World} {base Bs : Nat} {v u : Value} {k : Nat} {xs : List Value} (h : W.ownsRow base 36 4 v k xs) (hb : W.heap[Bs]? = some (.cells #[u] 39 (0, 0))) : v.ownBlock = none ∨ v.ownBlock ≠ some Bs := by
  cases hv : v.ownBlock with
  | none => exact .inl rfl
  | some j =>
    refine .inr fun e => ?_
    injection e with e
    subst e
    obtain ⟨cur, hc⟩ := row_is_cells h j hv
    rw [hb] at hc
    injection hc with hc
    have := (Obj.cells.inj hc).2.1
    revert this
    decide

set_option maxHeartbeats 6400000 in
theorem appendI_in (n : Nat) (hn : 4 ≤ n) (gf : Nat) (lb : Array Value) (f : Idn → Value) (c : Nat) (hc : c ≤ 100000) (w : World) (hgf : Enters Tryz.prog gf) (hseq : SeqStopsK Fence.wide (n - 1) Tryz.prog gf lb (fun x : Idn => #[idV x]) KeepsWalks (CameI f) (fun _ => True) c w) :
    CallsIn Fence.wide n Tryz.prog 87 #[.slice none 0 0, .func (.func gf) #[] lb] w fun e w' => ∃ (v : Value) (xs : List Idn), e = .returned v ∧ CameI f xs ∧ w'.ownsRow w.heap.size 36 4 v xs.length (idsC xs) ∧ Below w.heap.size w w' := by
  have h1 : 1 ≤ n := by omega
  have HS := hid hseq
  have HG := hid hgf
  clear hseq hgf
  refine callsIn_of_wp_marks Tryz.func87 rfl trivial ?_ rfl
  simp only [Tryz.ntmps87, List.size_toArray, List.length_cons, List.length_nil, Nat.reduceAdd, Nat.reduceSub, Array.replicate_succ, Array.replicate_zero, List.push_toArray, List.append_toArray, List.nil_append, List.cons_append]
  gi_wp2
  have hB0 : Below w.heap.size w (w.alloc (.cells #[.slice none 0 0] 39)) := (Below.refl _ w).alloc (Nat.le_refl _) _
  have hC0 : ColAt w w.heap.size [] (w.alloc (.cells #[.slice none 0 0] 39)) := ⟨⟨_, heap_alloc_new w _, World.ownsRow_nil _ _ _ _⟩, hB0⟩
  refine wpIn_rangeFunc_ownH rfl h1 (gf := gf) (lb := lb) rfl trivial HG.out HS.out KeepsWalks.trans (fun W l o o' hl h1 h2 h3 => KeepsWalks.putObj _ h1 h3) hB0 (fun _ => rfl)
    (fun pre W => ColAt w w.heap.size pre W) (fun _ _ _ => False) (col_from w _ _ (by simp)) (fun _ _ _ _ _ hs _ _ => hs) hC0
    (fun x a' W => ∃ b, a' = { tmps := #[.slice none 0 0, .func (.func gf) #[] lb, .pointer (some ⟨w.heap.size, 0, none⟩), undef, .slice none 0 0, .pointer (some ⟨b, 0, none⟩), .func (.func gf) #[] lb, idV x, undef, undef, undef, undef, undef], defers := [] } ∧ IdVar w.heap.size b x W)
    (fun x a' => ownFrom_ex2 fun b => fun u A A' row hs hg hr => idvar_from w.heap.size b x _ u A A' row hs hg (fun r e => ⟨by have := (hr r e).1; simp at this; omega, (hr r e).2⟩)) ?assign ?body ?done ?stop
  case assign =>
    rintro l pre x W K hI hC
    refine round_plain (by kernel_rfl) noOut_then ?_
    simp only [List.zip_toArray, List.zip_cons_cons, List.zip_nil_right, List.foldl_toArray, List.foldl_cons, List.foldl_nil, List.setIfInBounds_toArray, List.set_cons_zero, List.set_cons_succ]
    refine wpList_allocId rfl rfl ?_
    refine wpList_storeIdNew rfl _ _ rfl W _ x rfl _ rfl rfl rfl ?_
    refine wpList_nil ?_
    have hz := hI.2.size
    exact hC _ _ ⟨by simp, fun k o _ hk _ => (Below.heap_alloc _ _ _ (lt_of_block hk)).trans hk⟩ (KeepsWalks.alloc _ _) ((col_from w _ w.heap.size (Nat.le_refl _)).alloc _ hI) ⟨W.heap.size, rfl, hz, heap_alloc_new W _⟩
  case body =>
    rintro l pre x a' W hl2 _ hI ⟨b, rfl, hv⟩ hlen
    refine wpIn_block (round_plain (by kernel_rfl) noOut_block ?_)
    obtain ⟨⟨v, hbx, hrow⟩, hbel⟩ := hI
    obtain ⟨ie, hie, hz, hs, hbt⟩ := info_parts infoId
    have cb : W.cell? ⟨w.heap.size, 0, none⟩ = some v := by rw [cell_of_row _ _ 0 _ _ (0, 0) hbx]; rfl
    refine wpList_is rfl _ _ (exec_load _ _ _ _ rfl rfl (run_loadCell W _ _ _ cb (agg_no _ (by kernel_rfl)))) ?_
    refine wpList_loadId rfl _ rfl _ rfl x hv.2 ?_
    refine wpList_is rfl _ _ (exec_oneId _ x rfl rfl) ?_
    have hwz := hbel.size
    obtain ⟨v2, w2, hrun, hrow2, hg2, _⟩ := run_append_own (P := Tryz.prog) (w := W.alloc (.cells (idA x) 36)) w.heap.size 39 39 36 ie _ 4 32 Tryz.underlying39 hie hz hs hbt rfl (by omega) v pre.length (idsC pre) (hrow.alloc _) ⟨W.heap.size, 0, none⟩ 1 1 x.cells rfl
      (fun j u hu => by rw [Addr.add_lit, Nat.zero_add, cell_of_row _ _ j _ _ (0, 0) (heap_alloc_new W _)]; simpa [idA, Idn.cells] using hu) (by intro u hu; simp [Idn.cells] at hu; rcases hu with rfl | rfl | rfl | rfl <;> rfl) (by unfold maxLen; omega) (by omega) (by simp; omega)
    refine wpList_is rfl _ _ (exec_appI 39 _ _ rfl rfl rfl hrun) ?_
    have hnb : some w.heap.size ≠ v.ownBlock := fun e => by
      rcases hrow.2 with ⟨rfl, _⟩ | ⟨g, cap, cur, rfl, _, hgb, _⟩
      · cases e
      · have : w.heap.size = g := by simpa [Value.ownBlock] using e
        subst this
        rw [hbx] at hgb
        injection hgb with hgb
        have := (Obj.cells.inj hgb).2.1
        revert this
        decide
    have hbx2 : w2.heap[w.heap.size]? = some (.cells #[v] 39 (0, 0)) := (hg2.block _ (by have := lt_of_block hbx; simp; omega) hnb).trans ((Below.heap_alloc _ _ _ (lt_of_block hbx)).trans hbx)
    have cb2 : w2.cell? ⟨w.heap.size, 0, none⟩ = some v := by rw [cell_of_row _ _ 0 _ _ (0, 0) hbx2]; rfl
    have fb2 : w2.frozen? ⟨w.heap.size, 0, none⟩ = false := by simp [World.frozen?, hbx2]
    obtain ⟨a2, c2, rfl⟩ : ∃ a c, v2 = .slice a (pre.length + 1) c := by
      rcases hrow2.2 with ⟨rfl, h0⟩ | ⟨g, cap, cur, rfl, _⟩
      · omega
      · exact ⟨_, _, rfl⟩
    go_wp2
    have kw : KeepsWalks W (w2.setCell ⟨w.heap.size, 0, none⟩ (.slice a2 (pre.length + 1) c2)) := ((KeepsWalks.alloc _ _).trans (KeepsWalks.of_grownBy hg2 (fun j o hj ho => by
      obtain ⟨cur, hcur⟩ := row_is_cells (hrow.alloc (.cells (idA x) 36)) j hj
      rw [hcur] at ho
      cases ho
      rfl))).trans (KeepsWalks.setCell _ _ _)
    refine ⟨⟨kw.size, fun k o _ hk ho => ?_⟩, kw, ⟨⟨.slice a2 (pre.length + 1) c2, ?_, ?_⟩, ?_⟩⟩
    · have hk1 := lt_of_block hk
      have n1 : k ≠ w.heap.size := fun e => by subst e; rw [hbx] at hk; cases hk; cases ho
      have n2 : some k ≠ v.ownBlock := fun e => by
        obtain ⟨cur, hcur⟩ := row_is_cells hrow k e.symm
        rw [hcur] at hk; cases hk; cases ho
      rw [Below.heap_setCell _ _ _ _ n1, hg2.block k (by simp; omega) n2, Below.heap_alloc _ _ _ hk1]
      exact hk
    · rw [heap_setCell_same _ _ _ _ _ _ hbx2]
      rfl
    · rw [idsC_snoc, List.length_append]
      exact hrow2.kept (grownBy_setC _ _ _) (box_not_row hrow2 hbx2)
    · exact ((hbel.alloc hbel.size _).grown hg2 (by simp; omega) (fun k e => (hrow.lt k e).1)).grown (grownBy_setC _ _ _) (by have := hg2.size; simp at this; omega) (fun k e => by injection e with e; omega)
  case done =>
    rintro D xs W hD hS hI hDD
    obtain ⟨⟨v, hbx, hrow⟩, hbel⟩ := hI
    have cb : W.cell? ⟨w.heap.size, 0, none⟩ = some v := by rw [cell_of_row _ _ 0 _ _ (0, 0) hbx]; rfl
    gi_wp2
    simp at hD
    refine ⟨by simp, .inl ⟨_, _, rfl, run_takeDeferred hDD, ?_⟩⟩
    exact ⟨_, results_tmp rfl _ _ _, v, xs, rfl, hS, row_grown hrow (grownBy_putObj' _ _ _) (fun r e => by cases e; exact ⟨_, hDD, rfl⟩), hbel.grown (grownBy_putObj' _ _ _) hbel.size (fun k e => by cases e; omega)⟩
  case stop => rintro D c pre W hD _ hx; exact hx.elim
end Go.Proofs.YtnhcfkiejldicaaGreat


/- store: List of at most one id. -/
namespace Go.Proofs.YtnhcfkiejldicaaGreat
open Go.RowKit Go.Shelf Go.Maps
set_option maxRecDepth 100000

set_option maxHeartbeats 3200000 in
theorem collectI_in (n : Nat) (hn : 5 ≤ n) (gf : Nat) (lb : Array Value) (f : Idn → Value) (c : Nat) (hc : c ≤ 100000) (w : World) (hgf : Enters Tryz.prog gf) (hseq : SeqStopsK Fence.wide (n - 1 - 1) Tryz.prog gf lb (fun x : Idn => #[idV x]) KeepsWalks (CameI f) (fun _ => True) c w) :
    CallsIn Fence.wide n Tryz.prog 62 #[.func (.func gf) #[] lb] w fun e w' => ∃ (v : Value) (xs : List Idn), e = .returned v ∧ CameI f xs ∧ w'.ownsRow w.heap.size 36 4 v xs.length (idsC xs) ∧ Below w.heap.size w w' := by
  have AP := hid (appendI_in (n - 1) (by omega) gf lb f c hc w hgf hseq)
  clear hseq hgf
  refine callsIn_of_wp Tryz.func62 rfl trivial ?_ rfl
  simp only [Tryz.ntmps62, List.size_toArray, List.length_cons, List.length_nil, Nat.reduceAdd, Nat.reduceSub, Array.replicate_succ, Array.replicate_zero, List.push_toArray, List.append_toArray, List.nil_append, List.cons_append]
  gi_wp2
  refine ⟨trivial, fun _ => by omega, AP.out.mono ?_⟩
  rintro e w' ⟨v, xs, rfl, h1, h2, h3⟩
  gi_wp2
  refine bodyPost_ret (results_tmp rfl _ _ _) rfl ?_
  exact ⟨v, xs, rfl, h1, h2, h3⟩

theorem ins1_any (w : World) (v fv : Value) (k : Nat) (hk : k ≤ 1) : Calls Tryz.prog 102 #[v, .int .i64 0, .int .i64 k, fv] w fun e w' => (∃ r, e = .returned r) ∧ w = w' := by
  have h1 : ¬ (1 : Int) < (k : Int) := by omega
  go_enter Tryz.func102, Tryz.ntmps102
  go_wp2_with fail
  go_loopw [8] (fun i wr => i = .int .i64 1 ∧ w = wr) (fun _ _ => 0)
  case atStart => exact ⟨rfl, rfl⟩
  case round =>
    obtain ⟨rfl, rfl⟩ := hrel
    go_wp2_with fail
    go_end0
    exact ⟨⟨_, rfl⟩, rfl⟩
theorem pdq1_any (w : World) (v fv : Value) (lim : Int) (k : Nat) (hk : k ≤ 1) : Calls Tryz.prog 88 #[v, .int .i64 0, .int .i64 k, .int .i64 lim, fv] w fun e w' => (∃ r, e = .returned r) ∧ w = w' := by
  have h12 : (k : Int) ≤ 12 := by omega
  go_enter Tryz.func88, Tryz.ntmps88
  go_wp2_with fail
  go_loopw [1, 2] (fun a b wr => a = .int .i64 0 ∧ b = .int .i64 k ∧ w = wr) (fun _ _ _ => 0)
  case atStart => exact ⟨rfl, rfl, rfl⟩
  case round =>
    obtain ⟨rfl, rfl, rfl⟩ := hrel
    go_wp2_with fail
    refine (ins1_any w v fv k hk).mono ?_
    rintro e _ ⟨⟨r, rfl⟩, rfl⟩
    go_wp2_with fail
    refine bodyPost_ret (results_none rfl _ _ _) rfl ?_
    exact ⟨⟨_, rfl⟩, rfl⟩
theorem len64_any (w : World) (k : Nat) (hk : k ≤ 1) : Calls Tryz.prog 111 #[.int .u64 k] w fun e w' => (∃ r : Int, e = .returned (.int .i64 r)) ∧ w = w' := by
  have h2 : k = 0 ∨ k = 1 := by omega
  clear hk
  rcases h2 with rfl | rfl
  · go_enter Tryz.func111, Tryz.ntmps111
    go_wp2_with fail
    go_ret
    exact ⟨⟨_, rfl⟩, rfl⟩
  · go_enter Tryz.func111, Tryz.ntmps111
    go_wp2_with fail
    go_ret
    exact ⟨⟨_, rfl⟩, rfl⟩
theorem len_any (w : World) (k : Nat) (hk : k ≤ 1) : Calls Tryz.prog 89 #[.int .u64 k] w fun e w' => (∃ r : Int, e = .returned (.int .i64 r)) ∧ w = w' := by
  go_enter Tryz.func89, Tryz.ntmps89
  go_wp2_with fail
  refine (len64_any w k hk).mono ?_
  rintro e _ ⟨⟨r, rfl⟩, rfl⟩
  go_wp2_with fail
  go_ret
  exact ⟨⟨_, rfl⟩, rfl⟩
theorem sort1_any (w : World) (a : Option Addr) (k c : Nat) (fv : Value) (hk : k ≤ 1) : Calls Tryz.prog 63 #[.slice a k c, fv] w fun e w' => (∃ r, e = .returned r) ∧ w = w' := by
  go_enter Tryz.func63, Tryz.ntmps63
  go_wp2_with fail
  refine (len_any w k hk).mono ?_
  rintro e _ ⟨⟨r, rfl⟩, rfl⟩
  go_wp2_with fail
  refine (pdq1_any w _ fv r k hk).mono ?_
  rintro e _ ⟨⟨r2, rfl⟩, rfl⟩
  go_wp2_with fail
  go_end0
  exact ⟨⟨_, rfl⟩, rfl⟩
theorem keys_any (w : World) (b : Nat) : Calls Tryz.prog 35 #[.map (some b)] w fun e w' => e = .returned (.func (.func 64) #[] #[.pointer (some ⟨w.heap.size, 0, none⟩)]) ∧ w' = w.alloc (.cells #[.map (some b)] 55) := by
  go_enter Tryz.func35, Tryz.ntmps35
  go_wp2_with fail
  go_ret
  exact ⟨rfl, rfl⟩
theorem came_le {f : Idn → Value} {xs : List Idn} (h : CameI f xs) {w : World} {b nn c : Nat} (M : MapW w b nn c f) : xs.length = c := by
  obtain ⟨D, ho, hr, hh, hk, hsz⟩ := M
  obtain ⟨h1, h2, h3⟩ := h
  have hn : ∀ ys : List Idn, (∀ x ∈ ys, x.In) → ys.Pairwise (· ≠ ·) → (ys.map kI).Pairwise (· ≠ ·) := by
    intro ys
    induction ys with
    | nil => intro _ _; exact List.Pairwise.nil
    | cons y ys ih =>
      intro hi hp
      obtain ⟨p1, p2⟩ := List.pairwise_cons.1 hp
      refine List.pairwise_cons.2 ⟨fun k hk e => ?_, ih (fun x hx => hi x (by simp [hx])) p2⟩
      obtain ⟨z, hz, rfl⟩ := List.mem_map.1 hk
      exact p1 z hz (kI_inj (hi y (by simp)) (hi z (by simp [hz])) e)
  have := (came_all ho (xs.map kI) (hn xs h2 h1) (fun k hk => by
    obtain ⟨z, hz, rfl⟩ := List.mem_map.1 hk
    exact (hh z (h2 z hz)).2 ((h3 z (h2 z hz)).1 hz))).2 (fun k hkk => by
    obtain ⟨z, hz, rfl⟩ := hk k hkk
    exact List.mem_map.2 ⟨z, (h3 z hz).2 ((hh z hz).1 hkk), rfl⟩)
  rw [List.length_map, hsz] at this
  exact this
theorem keeps_below {w w' : World} (h : Below w.heap.size w w') : Keeps [] w w' := ⟨h.os, h.tape, h.output, h.size, fun k hk _ => h.block k hk⟩
theorem enters_keys : Enters Tryz.prog 64 := fun _ _ => rfl

set_option maxHeartbeats 3200000 in
theorem sorted1_any (w : World) (b nn c : Nat) (f : Idn → Value) (M : MapW w b nn c f) (hc : c ≤ 1) :
    Calls Tryz.prog 34 #[.func (.func 64) #[] #[.pointer (some ⟨w.heap.size, 0, none⟩)], .func (.func 36) #[] #[]] (w.alloc (.cells #[.map (some b)] 55)) fun e w' =>
      ∃ (v : Value) (xs : List Idn), e = .returned v ∧ CameI f xs ∧ xs.length = c ∧ w'.ownsRow w.heap.size 36 4 v xs.length (idsC xs) ∧ Keeps [] w w' := by
  have hb : Below w.heap.size w (w.alloc (.cells #[.map (some b)] 55)) := (Below.refl _ w).alloc (Nat.le_refl _) _
  have M1 : MapW (w.alloc (.cells #[.map (some b)] 55)) b nn c f := M.keep ((Keeps.refl [] w).alloc _) (by simp)
  have cm : (w.alloc (.cells #[.map (some b)] 55)).cell? ⟨w.heap.size, 0, none⟩ = some (.map (some b)) := by rw [cell_of_row _ _ 0 _ _ (0, 0) (heap_alloc_new w _)]; rfl
  have CO := hid (callsIn_wide.1 (collectI_in 9 (by omega) 64 #[.pointer (some ⟨w.heap.size, 0, none⟩)] f c (by omega) (w.alloc (.cells #[.map (some b)] 55)) enters_keys
    (keysI_stops 7 (by omega) w.heap.size b nn c f _ (by simp) cm M1)))
  have HB := hid hb
  have HM := hid M
  clear hb M M1 cm
  have hsz : w.heap.size ≤ (w.alloc (.cells #[.map (some b)] 55)).heap.size := by simp
  have HSZ := hid hsz
  clear hsz
  obtain ⟨W1, hW1⟩ : ∃ x, x = w.alloc (.cells #[.map (some b)] 55) := ⟨_, rfl⟩
  rw [← hW1] at CO HB HSZ ⊢
  clear hW1
  go_enter Tryz.func34, Tryz.ntmps34
  go_wp2_with fail
  refine CO.out.mono ?_
  rintro e w2 ⟨v, xs, rfl, h1, h2, h3⟩
  have hlen := came_le h1 HM.out
  have R := hid (And.intro h1 (And.intro h2 h3))
  obtain ⟨va, vc, rfl⟩ : ∃ a c', v = .slice a xs.length c' := by
    rcases h2.2 with ⟨rfl, h0⟩ | ⟨g, cap, cur, rfl, _⟩
    · exact ⟨none, 0, by rw [h0]⟩
    · exact ⟨_, cap, rfl⟩
  clear h1 h2 h3
  have HL := hid hlen
  have hx1 : xs.length ≤ 1 := by omega
  clear hlen
  go_wp2_with fail
  refine (sort1_any w2 va xs.length vc _ hx1).mono ?_
  rintro e _ ⟨⟨r, rfl⟩, rfl⟩
  go_wp2_with fail
  go_ret
  have k1 : Keeps [] w W1 := keeps_below HB.out
  have k2 : Keeps [] W1 w2 := keeps_below R.out.2.2
  refine ⟨_, xs, rfl, R.out.1, HL.out, ⟨R.out.2.1.1, ?_⟩, k1.trans k2⟩
  rcases R.out.2.1.2 with h | ⟨g, cap, cur, e1, e2, e3⟩
  · exact .inl h
  · exact .inr ⟨g, cap, cur, e1, Nat.le_trans HSZ.out e2, e3⟩

theorem list1_any (w : World) (t p q m : Nat) (wh : Bool) (B : StBlk w t p q m wh) (nn c : Nat) (f : Idn → Value) (M : MapW w m nn c f) (hc : c ≤ 1) :
    Calls Tryz.prog 12 #[.pointer (some ⟨t, 0, none⟩)] w fun e w' => ∃ (v : Value) (xs : List Idn), e = .returned v ∧ CameI f xs ∧ xs.length = c ∧ w'.ownsRow w.heap.size 36 4 v xs.length (idsC xs) ∧ Keeps [] w w' := by
  have c2 := B.c2
  have SO := hid (sorted1_any w m nn c f M hc)
  have HB := hid B
  clear M B
  go_enter Tryz.func12, Tryz.ntmps12
  go_wp2_with fail
  refine (made6_any w t p q m wh HB.out).mono ?_
  rintro e _ ⟨rfl, rfl⟩
  go_wp2_with fail
  refine (keys_any w m).mono ?_
  rintro e _ ⟨rfl, rfl⟩
  go_wp2_with fail
  refine SO.out.mono ?_
  rintro e w2 ⟨v, xs, rfl, h1, h2, h3, h4⟩
  have R := hid (And.intro h1 (And.intro h2 (And.intro h3 h4)))
  clear h1 h2 h3 h4
  go_wp2_with fail
  go_ret
  exact ⟨v, xs, rfl, R.out.1, R.out.2.1, R.out.2.2.1, R.out.2.2.2⟩
end Go.Proofs.YtnhcfkiejldicaaGreat


/- store: the laws' awake. -/
namespace Go.Proofs.YtnhcfkiejldicaaGreat
open Go.RowKit Go.Shelf Go.Maps
set_option maxRecDepth 100000

theorem qid_any (w : World) (c l n i : Int) : Calls Tryz.prog 10 #[.int .i64 c, .int .i64 l, .int .i64 n, .int .i64 i] w fun e w' => e = .returned (idV ⟨c, l, n, i⟩) ∧ Keeps [] w w' := by
  go_enter Tryz.func10, Tryz.ntmps10
  go_wp2_with fail
  refine bodyPost_ret (results_cell_row (p := 8) (ty := 36) rfl _ _ _ 36 (idA ⟨c, l, n, i⟩) (0, 0) _ rfl (heap_alloc_new w _) Tryz.underlying36 rfl (by rw [sId]; rfl)) rfl ?_
  exact ⟨rfl, (Keeps.refl [] w).alloc _⟩
theorem newSt_at {w w' : World} {t q g m p : Nat} {hs : List Hd} {s : DS} {F : List Nat} {K : Nat} {wh : Bool} (h : NewSt w w' t q g m p hs s F K wh) (ht : t ∉ F) (hm : m ∉ F) (hf : usedN hs = 0) : StAt w' t q p g m hs s F K wh (fun _ => none) := by
  obtain ⟨h1, h2, h3, h4⟩ := h
  exact ⟨h1, h2, ⟨_, by rw [hf]; exact h3.mono (by omega), fun x _ => .inl ⟨rfl, rfl⟩⟩, ⟨ht, h4.2.2.2.2.1, h4.2.2.2.2.2.1, h4.2.2.2.2.2.2.1⟩, ⟨hm, h4.2.2.2.2.2.2.2.1, h4.2.2.2.2.2.2.2.2⟩, fun x i _ h => by cases h⟩
theorem usedN_rep (n : Nat) : usedN (List.replicate n hd0) = 0 := by
  unfold usedN
  rw [List.filter_eq_nil_iff.2 (fun x hx => by rw [(List.mem_replicate.1 hx).2]; simp [hd0])]
  rfl
/-- What a Put on a living disk leaves. -/
theorem putS_alive {s : DS} (h : Alive s) (hs : List Hd) (k : Nat) (hk : k < hs.length) (hu : hs[k].used = false) (hfit : 1 + hs.length * 8 ≤ s.cnt) (key b : List Int) (ok : Hd.Ok ⟨true, b.length, key⟩) (hby : ∀ z ∈ b, 0 ≤ z ∧ z ≤ 255) :
    Alive (putS hs 1 s k key b) ∧ getB (putS hs 1 s k key b) (1 + k * 8) b.length = b := by
  have hh : hasS hs k = true := by simp [hasS, hk]
  have hus : usedS hs k = false := by rw [usedS, headS_at hk, hu]
  have h1 : key.length ≤ 40 := ok.key
  have h2 : b.length ≤ 448 := ok.held
  have eo : putOk hs k key b = true := by simp [putOk, hus, hh]; omega
  have e1 : putS hs 1 s k key b = putD s (1 + k * 8) key b := by simp only [putS, eo, if_true, Int.toNat_natCast]
  rw [e1]
  exact ⟨(h.put (1 + k * 8) key b ok (by omega)).1, getB_put h (1 + k * 8) key b ok (by omega) hby⟩

def aId : Idn := ⟨1, 0, 5, 2⟩
theorem aId_may : mayI aId = true := by decide
theorem aId_eq (w : World) : (binOp .eql 36 (idV aId) (idV aId)).run Tryz.prog w = .ok (.bool true) w := by kernel_rfl

theorem exec_oneB {ρ : Operand → Value} {o : Oper} {w : World} (x : Operand) (c : Int) (ho : o.op = .buildSlice 22 1 #[(0, x)]) (hx : ρ x = .int .u8 c) :
    (execOp ρ o).run Tryz.prog w = .ok (.value (.slice (some ⟨w.heap.size, 0, none⟩) 1 1)) (w.alloc (.cells #[.int .u8 c] 5)) := by
  obtain ⟨ie, hie, hz, hs, _⟩ := info_parts info5
  have h : (Instr.buildSlice 22 1 #[(0, .int .u8 c)]).run Tryz.prog w = .ok (.slice (some ⟨w.heap.size, 0, none⟩) 1 1) (w.alloc (.cells #[.int .u8 c] 5)) := by
    refine run_buildSlice w _ _ 1 _ _ ie _ Tryz.underlying22 hie hz (by rw [hs]; decide) (by rw [hs]; decide) ?_
    rw [hs]
    have e : (Array.range (1 * 1)) = #[0] := rfl
    have e2 : (Value.int .u8 0).cells = #[.int .u8 0] := rfl
    have e3 : (Value.int .u8 c).cells = #[.int .u8 c] := rfl
    simp only [Instr.fill, e, e2, e3]
    simp
  simp only [execOp, ho, List.map_toArray, List.map_cons, List.map_nil, hx, Sem.run_bind, h, Result.andThen_ok, Sem.run_pure]
theorem exec_eqId {ρ : Operand → Value} {o : Oper} {w : World} (x y : Operand) (u : TypeId) (ho : o.op = .binOp .eql 36 x y u) (hx : ρ x = idV aId) (hy : ρ y = idV aId) : (execOp ρ o).run Tryz.prog w = .ok (.value (.bool true)) w := by
  have hg : (eqGuard .eql 36 x y (idV aId) (idV aId)).run Tryz.prog w = .ok () w := run_eqGuard_agg w .eql 36 x y _ _ (by kernel_rfl)
  simp only [execOp, ho, hx, hy, Sem.run_bind, hg, aId_eq, Result.andThen_ok, Sem.run_pure]
theorem row_one9 (w : World) (c : Int) (hc : 0 ≤ c ∧ c ≤ 255) : RowAt (w.alloc (.cells #[.int .u8 c] 5)) (.slice (some ⟨w.heap.size, 0, none⟩) 1 1) [c] := by
  refine ⟨_, 1, rfl, Nat.le_refl _, by unfold maxLen; omega, by simp, by simpa using hc, fun ad had j u hu => ?_⟩
  obtain rfl := Option.some.inj had
  rw [Addr.add_mid, Nat.zero_add, cell_of_row _ _ j _ _ (0, 0) (heap_alloc_new w _)]
  simpa using hu

set_option linter.unusedSimpArgs false in
set_option maxHeartbeats 6400000 in
theorem awake6_any (w : World) : Calls Tryz.prog 5 #[] w fun e w' => e = .returned (.bool true) ∧ Keeps [] w w' := by
  go_enter Tryz.func5, Tryz.ntmps5
  go_wp2_with fail
  refine (newAt_any 25 (by omega) (by omega) w).mono ?_
  rintro e w1 ⟨p, F1, rfl, d1, l1, k1⟩
  have D1 := hid d1
  have L1 := hid l1
  have K1 := hid k1
  clear d1 l1 k1
  have h25 : (blankS 25).cnt = 25 := rfl
  have ha0 : Alive (blankS 25) := blank_alive 25
  have fo := format_any w1 p (blankS 25) F1 0 D1.out (by omega) ha0 (by omega)
  have fa := fmtS_alive ha0 (by omega)
  have fc := fmtS_cnt (blankS 25)
  have e3 : ((blankS 25).cnt - 1) / 8 = 3 := rfl
  rw [e3] at fo
  rw [h25] at fc
  have FA := hid (And.intro fa.1 fc)
  generalize fmtS (blankS 25) = s2 at fo FA
  have FO := hid fo
  clear fo fa fc h25 ha0 e3
  go_wp2_with fail
  refine FO.out.mono ?_
  rintro e w2 ⟨t, q, g, m, F2, rfl, ns, ht, hm, k2, f2⟩
  have hrep := usedN_rep 3
  have S2 := hid (newSt_at ns ht hm hrep)
  have K2 : Hid (Keeps [] w w2) := hid (K1.out.trans' k2 (fun i hi hmm => by have := L1.out i hmm; omega))
  have hl3 : (List.replicate 3 hd0).length = 3 := rfl
  have F2n : Hid (∀ b ∈ F2, w.heap.size ≤ b) := hid (fun b hb => by
    rcases f2 b hb with h | h
    · exact L1.out b h
    · have := K1.out.size; omega)
  have N2 : Hid (w.heap.size ≤ g ∧ w.heap.size ≤ m) := hid (by
    have hz := K1.out.size
    obtain ⟨_, _, _, n1, n2, n3, n4, _⟩ := ns
    omega)
  clear ns ht hm k2 f2
  generalize List.replicate 3 hd0 = hs at S2 hrep hl3
  go_wp2_with fail
  refine (qid_any w2 1 0 5 2).mono ?_
  rintro e w3 ⟨rfl, k3⟩
  have S3 := hid (S2.out.keep k3)
  have K3 := hid (K2.out.trans k3)
  clear k3
  go_wp2_with fail
  have kA : Keeps [] w3 (w3.alloc (.cells #[.int .u8 9] 5)) := (Keeps.refl [] w3).alloc _
  have S4 := hid (S3.out.keep kA)
  have K4 := hid (K3.out.trans kA)
  have R4 := hid (row_one9 w3 9 (by omega))
  have O4 : Hid (Off F2 (.slice (some ⟨w3.heap.size, 0, none⟩) 1 1) [9]) := hid (fun ad n c e _ hmm => by
    injection e with e _ _
    injection e with e
    subst e
    obtain ⟨mm, dm⟩ := S3.out.sl.dk.dm
    have := dm.lt _ hmm
    simp at this)
  clear kA S2 S3
  generalize w3.alloc (.cells #[.int .u8 9] 5) = w4 at S4 K4 R4 ⊢
  generalize w3.heap.size = b4 at R4 O4 ⊢
  obtain ⟨i, hi, hu, hput⟩ := oPut_new w4 t q p g m hs s2 F2 (0 + 3000) false _ S4.out (by omega) aId aId_may rfl (by rw [hrep, hl3]; omega) _ [9] R4.out O4.out (by simp)
  have hpa := putS_alive FA.out.1 hs i hi hu (by rw [hl3, FA.out.2]; decide) (keyI aId) [9] ⟨by rw [keyI_len]; omega, by decide, by simp, fun h => by cases h⟩ (by simp)
  have PU := hid hput
  clear hput
  refine PU.out.mono ?_
  rintro e w5 ⟨F5, k5, f5, ⟨rfl, hd5, S5h⟩ | ⟨_, hd5, _⟩⟩
  rotate_left
  · rw [hpa.1.1] at hd5; cases hd5
  have hus := usedN_set hs i hi ⟨true, ([9] : List Int).length, keyI aId⟩ hu rfl
  rw [hrep] at hus
  have hgs : ∀ h : i < (hs.set i ⟨true, ([9] : List Int).length, keyI aId⟩).length, (hs.set i ⟨true, ([9] : List Int).length, keyI aId⟩)[i]'h = ⟨true, ([9] : List Int).length, keyI aId⟩ := fun h => List.getElem_set_self h
  have hl5 : (hs.set i ⟨true, ([9] : List Int).length, keyI aId⟩).length = 3 := by rw [List.length_set]; exact hl3
  have hgb := hpa.2
  have K5 : Hid (Keeps [] w w5) := hid (K4.out.trans' k5 (fun j hj hmm => by
    have := N2.out
    rcases List.mem_cons.1 hmm with h | hmm
    · omega
    · rcases List.mem_cons.1 hmm with h | hmm
      · omega
      · have := F2n.out j hmm; omega))
  generalize putS hs 1 s2 i (keyI aId) [9] = s5 at S5h hd5 hgb
  have hi5 : i < (hs.set i ⟨true, ([9] : List Int).length, keyI aId⟩).length := by rw [hl5]; omega
  generalize hs.set i ⟨true, ([9] : List Int).length, keyI aId⟩ = hs5 at S5h hus hgs hl5 hi5
  have S5 := hid S5h
  have HD5 := hid hd5
  have HGS := hid hgs
  have HGB := hid hgb
  have HUS := hid hus
  have HL5 := hid hl5
  clear S5h hd5 hgs hgb hus k5 f5 hpa PU S4 K4 hu
  go_wp2_with fail
  refine (qid_any w5 1 0 5 2).mono ?_
  rintro e w6 ⟨rfl, k6⟩
  have S6 := hid (S5.out.keep k6)
  have K6 := hid (K5.out.trans k6)
  clear k6
  go_wp2_with fail
  have gy := oGet_yes w6 t q p g m hs5 s5 F5 _ false _ S6.out aId aId_may i (by simp [setG]) HD5.out hi5
  rw [HGS.out hi5] at gy
  simp only at gy
  rw [HGB.out] at gy
  refine gy.mono ?_
  rintro e w7 ⟨vb, rfl, rb, -, k7⟩
  have S7 := hid (S6.out.keep k7)
  have K7 := hid (K6.out.trans k7)
  have R7 := hid rb
  clear k7 rb gy
  go_wp2_with fail
  obtain ⟨f, mf, hf⟩ := S7.out.mp
  rw [HUS.out] at mf
  refine (list1_any w7 t p q m false S7.out.blk _ _ f mf (by omega)).mono ?_
  rintro e w8 ⟨vl, xs, rfl, hcx, hlx, hrx, k8⟩
  obtain ⟨x0, rfl⟩ : ∃ x0, xs = [x0] := by
    match xs, hlx with
    | [x0], _ => exact ⟨x0, rfl⟩
  have hx0 : x0 = aId := by
    have hin0 := hcx.2.1 x0 (by simp)
    have hne := (hcx.2.2 x0 hin0).1 (by simp)
    rcases hf x0 hin0 with ⟨h, h2⟩ | ⟨j, b0, cap, cs, h, _⟩
    · exact absurd h2 hne
    · by_cases e : x0 = aId
      · exact e
      · simp [setG, e] at h
  subst hx0
  obtain ⟨gl, cl, cur, rfl, -, hgl, -, -, -, htk⟩ := hrx.2.resolve_left (fun h => by simp at h)
  have S8 := hid (S7.out.keep k8)
  have K8 := hid (K7.out.trans k8)
  have R8 := hid (R7.out.keep k8 (by intro _ _ _ _ _; simp))
  have HGL := hid hgl
  have HTK := hid htk
  clear hcx hlx hrx k8 hf mf hgl htk S7 R7
  go_wp2_with fail
  refine wp_region_any (by kernel_rfl) (wpAny_of_held (S := KpS [] w8.heap.size w8.drew) _ _ _ _ ?_)
  refine held_take (i := 0) (v := .int .i64 0) rfl (by kernel_rfl) (by kernel_rfl) (by kernel_rfl) (fun _ _ _ h => h) rfl (fun W1 hW1 => rfl) (KpS.refl _ _ _) ?_
  simp only [Act.put, List.setIfInBounds_toArray, List.set_cons_zero, List.set_cons_succ]
  refine held_take (i := 1) (v := .bool true) rfl (by kernel_rfl) (by kernel_rfl) (by kernel_rfl) (fun _ _ _ h => h) rfl (fun W1 hW1 => by go_simp) (KpS.refl _ _ _) ?_
  simp only [Act.put, List.setIfInBounds_toArray, List.set_cons_zero, List.set_cons_succ]
  refine held_take (i := 2) (v := .bool true) rfl (by kernel_rfl) (by kernel_rfl) (by kernel_rfl) (fun _ _ _ h => h) rfl (fun W1 hW1 => rfl) (KpS.refl _ _ _) ?_
  simp only [Act.put, List.setIfInBounds_toArray, List.set_cons_zero, List.set_cons_succ]
  refine held_takeW (i := 3) (v := vb) rfl (by kernel_rfl) (by kernel_rfl) (by kernel_rfl) (fun _ _ _ h => h) rfl (fun W1 hW1 => rfl) (KpS.refl _ _ _) ?_
  simp only [Act.put, List.setIfInBounds_toArray, List.set_cons_zero, List.set_cons_succ]
  refine held_doW (i := 4) (by kernel_rfl) rfl rfl (wp_value (exec_oneB _ 9 rfl rfl) ?_)
  have kb : Keeps [] w8.drew (w8.drew.alloc (.cells #[.int .u8 9] 5)) := (Keeps.refl [] _).alloc _
  have kp9 : KpS [] w8.heap.size w8.drew (w8.drew.alloc (.cells #[.int .u8 9] 5)) := (KpS.refl _ _ _).keeps kb (Nat.le_refl _) (fun i hi _ => hi)
  refine ⟨kp9, ?_⟩
  simp only [Act.put, List.setIfInBounds_toArray, List.set_cons_zero, List.set_cons_succ]
  have R9 : Hid (RowAt (w8.drew.alloc (.cells #[.int .u8 9] 5)) (.slice (some ⟨w8.heap.size, 0, none⟩) 1 1) [9]) := hid (row_one9 w8.drew 9 (by omega))
  have K9 := hid (((Keeps.refl [] w8).drew).trans kb)
  clear kb
  change wpAnyH _ _ _ _ _ _ _ _ (w8.drew.alloc (.cells #[.int .u8 9] 5))
  generalize w8.drew.alloc (.cells #[.int .u8 9] 5) = w9 at kp9 R9 K9 ⊢
  have R89 := hid (R8.out.keep K9.out (by intro _ _ _ _ _; simp))
  refine held_doW (i := 5) (by kernel_rfl) rfl rfl (wp_enter (f := 17) (args := #[vb, .slice (some ⟨w8.heap.size, 0, none⟩) 1 1]) (by go_simp) (same_true w9 vb _ [9] R89.out R9.out (by simp)) ?_)
  rintro e w10 ⟨rfl, k10⟩
  have kpA : KpS [] w8.heap.size w8.drew w10 := kp9.keeps k10 (by have := K9.out.size; omega) (fun i hi _ => hi)
  refine ⟨_, rfl, kpA, ?_⟩
  simp only [Act.put, List.setIfInBounds_toArray, List.set_cons_zero, List.set_cons_succ]
  have K10 := hid (K9.out.trans k10)
  clear k10 kp9
  refine held_take (i := 6) (v := .bool true) rfl (by kernel_rfl) (by kernel_rfl) (by kernel_rfl) (fun _ _ _ h => h) rfl (fun W1 hW1 => rfl) (kpA) ?_
  simp only [Act.put, List.setIfInBounds_toArray, List.set_cons_zero, List.set_cons_succ]
  refine held_take (i := 7) (v := .bool true) rfl (by kernel_rfl) (by kernel_rfl) (by kernel_rfl) (fun _ _ _ h => h) rfl (fun W1 hW1 => rfl) (kpA) ?_
  simp only [Act.put, List.setIfInBounds_toArray, List.set_cons_zero, List.set_cons_succ]
  refine held_takeW (i := 8) (v := .slice (some ⟨gl, 0, none⟩) 1 cl) rfl (by kernel_rfl) (by kernel_rfl) (by kernel_rfl) (fun _ _ _ h => h) rfl (fun W1 hW1 => rfl) (kpA) ?_
  simp only [Act.put, List.setIfInBounds_toArray, List.set_cons_zero, List.set_cons_succ]
  refine held_takeW (i := 9) (v := .int .i64 1) rfl (by kernel_rfl) (by kernel_rfl) (by kernel_rfl) (fun _ _ _ h => h) rfl (fun W1 hW1 => by go_simp) (kpA) ?_
  simp only [Act.put, List.setIfInBounds_toArray, List.set_cons_zero, List.set_cons_succ]
  refine held_takeW (i := 10) (v := .bool true) rfl (by kernel_rfl) (by kernel_rfl) (by kernel_rfl) (fun _ _ _ h => h) rfl (fun W1 hW1 => by go_simp) (kpA) ?_
  simp only [Act.put, List.setIfInBounds_toArray, List.set_cons_zero, List.set_cons_succ]
  refine held_take (i := 11) (v := .bool true) rfl (by kernel_rfl) (by kernel_rfl) (by kernel_rfl) (fun _ _ _ h => h) rfl (fun W1 hW1 => rfl) (kpA) ?_
  simp only [Act.put, List.setIfInBounds_toArray, List.set_cons_zero, List.set_cons_succ]
  refine held_take (i := 12) (v := .bool true) rfl (by kernel_rfl) (by kernel_rfl) (by kernel_rfl) (fun _ _ _ h => h) rfl (fun W1 hW1 => rfl) (kpA) ?_
  simp only [Act.put, List.setIfInBounds_toArray, List.set_cons_zero, List.set_cons_succ]
  refine held_takeW (i := 13) (v := .slice (some ⟨gl, 0, none⟩) 1 cl) rfl (by kernel_rfl) (by kernel_rfl) (by kernel_rfl) (fun _ _ _ h => h) rfl (fun W1 hW1 => rfl) (kpA) ?_
  simp only [Act.put, List.setIfInBounds_toArray, List.set_cons_zero, List.set_cons_succ]
  refine held_takeW (i := 14) (v := .pointer (some ⟨gl, 0, none⟩)) rfl (by kernel_rfl) (by kernel_rfl) (by kernel_rfl) (fun _ _ _ h => h) rfl (fun W1 hW1 => by go_simp) (kpA) ?_
  simp only [Act.put, List.setIfInBounds_toArray, List.set_cons_zero, List.set_cons_succ]
  have hld : ∀ W1, KpS [] w8.heap.size w8.drew W1 → (Instr.loadAt 36 (.pointer (some ⟨gl, 0, none⟩))).run Tryz.prog W1 = .ok (idV aId) W1 := fun W1 h1 => by
    refine run_loadAt_mid W1 gl 0 36 aId.cells _ (fun j v hv => ?_) Tryz.underlying36 rfl (by rw [sId]; rfl)
    rw [Nat.zero_add]
    have hj : j < 4 := by
      rcases Nat.lt_or_ge j 4 with hj | hj
      · exact hj
      rw [List.getElem?_eq_none (by simp [Idn.cells]; omega)] at hv
      cases hv
    have ht : (cur.toList.take 4)[j]? = some v := by
      have := HTK.out
      rw [show [aId].length * 4 = 4 from rfl] at this
      rw [this]
      simpa [idsC] using hv
    rw [List.getElem?_take_of_lt hj] at ht
    have hc : w8.cell? ⟨gl, j, none⟩ = some v := by
      rw [cell_of_row _ _ j _ _ (0, 0) HGL.out]
      simpa using ht
    exact h1.cell (by rw [World.cell?_drew]; exact hc) (lt_of_block HGL.out) (by simp)
  refine held_takeW (i := 15) (v := idV aId) rfl (by kernel_rfl) (by kernel_rfl) (by kernel_rfl) (fun _ _ _ h => h) rfl (fun W1 hW1 => exec_load _ _ _ _ rfl rfl (hld W1 hW1)) (kpA) ?_
  simp only [Act.put, List.setIfInBounds_toArray, List.set_cons_zero, List.set_cons_succ]
  refine held_doW (i := 16) (by kernel_rfl) rfl rfl (wp_enter (f := 10) (args := #[.int .i64 1, .int .i64 0, .int .i64 5, .int .i64 2]) (by go_simp) (qid_any w10 1 0 5 2) ?_)
  rintro e w11 ⟨rfl, k11⟩
  have kpB : KpS [] w8.heap.size w8.drew w11 := kpA.keeps k11 (by have := K10.out.size; omega) (fun i hi _ => hi)
  refine ⟨_, rfl, kpB, ?_⟩
  simp only [Act.put, List.setIfInBounds_toArray, List.set_cons_zero, List.set_cons_succ]
  have K11 := hid (K10.out.trans k11)
  clear k11 kpA
  refine held_takeW (i := 17) (v := .bool true) rfl (by kernel_rfl) (by kernel_rfl) (by kernel_rfl) (fun _ _ _ h => h) rfl (fun W1 hW1 => exec_eqId _ _ _ rfl rfl rfl) (kpB) ?_
  simp only [Act.put, List.setIfInBounds_toArray, List.set_cons_zero, List.set_cons_succ]
  refine held_take (i := 18) (v := .bool true) rfl (by kernel_rfl) (by kernel_rfl) (by kernel_rfl) (fun _ _ _ h => h) rfl (fun W1 hW1 => rfl) (kpB) ?_
  simp only [Act.put, List.setIfInBounds_toArray, List.set_cons_zero, List.set_cons_succ]
  refine held_take (i := 19) (v := .bool true) rfl (by kernel_rfl) (by kernel_rfl) (by kernel_rfl) (fun _ _ _ h => h) rfl (fun W1 hW1 => rfl) (kpB) ?_
  simp only [Act.put, List.setIfInBounds_toArray, List.set_cons_zero, List.set_cons_succ]
  refine held_takeW (i := 20) (v := .pointer (some ⟨t, 0, none⟩)) rfl (by kernel_rfl) (by kernel_rfl) (by kernel_rfl) (fun _ _ _ h => h) rfl (fun W1 hW1 => rfl) (kpB) ?_
  simp only [Act.put, List.setIfInBounds_toArray, List.set_cons_zero, List.set_cons_succ]
  have S11 := hid (S8.out.keep K11.out)
  obtain ⟨f, mf, hf⟩ := S11.out.mp
  have hv : ∀ y, y.In → f y ≠ vnil → ∃ a cap, f y = .slice a 1 cap := fun y hy hn => by
    rcases hf y hy with ⟨_, h⟩ | ⟨_, _, cap, _, _, h, _⟩
    · exact absurd h hn
    · exact ⟨_, cap, h⟩
  refine held_doW (i := 21) (by kernel_rfl) rfl rfl (wp_enter (f := 8) (args := #[.pointer (some ⟨t, 0, none⟩)]) (by go_simp) (room_any6 w11 t p q m g false S11.out.blk hs5 S11.out.sl.sl _ _ f mf hv (usedN_le hs5)) ?_)
  rintro e w12 ⟨rfl, k12⟩
  have kpC : KpS [] w8.heap.size w8.drew w12 := kpB.keeps k12 (by have := K11.out.size; omega) (fun i hi _ => hi)
  refine ⟨_, rfl, kpC, ?_⟩
  simp only [Act.put, List.setIfInBounds_toArray, List.set_cons_zero, List.set_cons_succ]
  have hr2 : ((hs5.length : Int) - (usedN hs5 : Int)) = 2 := by rw [HUS.out, HL5.out]; rfl
  rw [hr2]
  refine held_takeW (i := 22) (v := .bool true) rfl (by kernel_rfl) (by kernel_rfl) (by kernel_rfl) (fun _ _ _ h => h) rfl (fun W1 hW1 => by go_simp) (kpC) ?_
  simp only [Act.put, List.setIfInBounds_toArray, List.set_cons_zero, List.set_cons_succ]
  refine held_take (i := 23) (v := .bool true) rfl (by kernel_rfl) (by kernel_rfl) (by kernel_rfl) (fun _ _ _ h => h) rfl (fun W1 hW1 => rfl) (kpC) ?_
  simp only [Act.put, List.setIfInBounds_toArray, List.set_cons_zero, List.set_cons_succ]
  refine held_take (i := 24) (v := .bool true) rfl (by kernel_rfl) (by kernel_rfl) (by kernel_rfl) (fun _ _ _ h => h) rfl (fun W1 hW1 => rfl) (kpC) ?_
  simp only [Act.put, List.setIfInBounds_toArray, List.set_cons_zero, List.set_cons_succ]
  refine wpAnyH_done (by kernel_rfl) ?_ _
  have K12 := hid (K8.out.trans (K11.out.trans k12))
  clear k12 kpB kpC hld mf hf hv hr2
  go_wp2_with fail
  go_ret
  exact ⟨rfl, K12.out⟩
end Go.Proofs.YtnhcfkiejldicaaGreat
