/- The code's tree: entries of a directory, their order. -/
import Derived.Test.YtnmiffkflnlanaaTrO
import Derived.Test.YtnmiffkflnlanaaShelfSort
import Derived.Test.YtnmiffkflnlanaaKitF
import Derived.Sort.KeysCollected
import Derived.Maps.RangeWalk
namespace Go.Proofs.Ytnmiffkflnlanaa
open Go.RowKit Go.Maps Go.Sort
set_option maxRecDepth 100000

/-- An entry of a directory. -/
structure En where
  nm : List UInt8
  ino : Nat
  dir : Bool
deriving DecidableEq, Inhabited
def enC (x : En) : List Value := [bstr x.nm, numN x.ino, .bool x.dir]
def enV (x : En) : Value := .agg (enC x).toArray
theorem enC_one (x : En) : (enC x).toArray.all (·.oneCell') = true := by simp [enC, Value.oneCell', bstr]

/-! Names in order. -/
def ltN (a b : List UInt8) : Prop := Lib.compareBytes a b < 0
theorem cmp_nil_cons (b : UInt8) (l2 : List UInt8) : Lib.compareBytes [] (b :: l2) = -1 := rfl
theorem cmp_cons_nil (a : UInt8) (l1 : List UInt8) : Lib.compareBytes (a :: l1) [] = 1 := rfl
theorem cmp_cons (a b : UInt8) (l1 l2 : List UInt8) : Lib.compareBytes (a :: l1) (b :: l2) = if a < b then -1 else if b < a then 1 else Lib.compareBytes l1 l2 := rfl
theorem cmp_self : ∀ a, Lib.compareBytes a a = 0
  | [] => rfl
  | a :: l1 => by rw [cmp_cons, if_neg (by simp), if_neg (by simp), cmp_self l1]
theorem u8_tri (a b : UInt8) : a < b ∨ b < a ∨ a = b := by
  rcases Nat.lt_trichotomy a.toNat b.toNat with h | h | h
  · exact Or.inl (UInt8.lt_iff_toNat_lt.2 h)
  · exact Or.inr (Or.inr (UInt8.toNat.inj h))
  · exact Or.inr (Or.inl (UInt8.lt_iff_toNat_lt.2 h))
theorem u8_asym {a b : UInt8} (h : a < b) : ¬ b < a := fun k => by
  have := UInt8.lt_iff_toNat_lt.1 h
  have := UInt8.lt_iff_toNat_lt.1 k
  omega
theorem cmp_zero : ∀ {a b}, Lib.compareBytes a b = 0 → a = b
  | [], [], _ => rfl
  | [], b :: l2, h => by rw [cmp_nil_cons] at h; omega
  | a :: l1, [], h => by rw [cmp_cons_nil] at h; omega
  | a :: l1, b :: l2, h => by
    rw [cmp_cons] at h
    rcases u8_tri a b with c | c | c
    · rw [if_pos c] at h; omega
    · rw [if_neg (u8_asym c), if_pos c] at h; omega
    · subst c
      rw [if_neg (by simp), if_neg (by simp)] at h
      rw [cmp_zero h]
theorem cmp_flip : ∀ a b, Lib.compareBytes b a = - Lib.compareBytes a b
  | [], [] => rfl
  | [], b :: l2 => rfl
  | a :: l1, [] => rfl
  | a :: l1, b :: l2 => by
    rw [cmp_cons, cmp_cons]
    rcases u8_tri a b with c | c | c
    · rw [if_pos c, if_neg (u8_asym c), if_pos c]
      rfl
    · rw [if_pos c, if_neg (u8_asym c), if_pos c]
    · subst c
      simp only [UInt8.lt_irrefl, if_false]
      exact cmp_flip l1 l2
theorem cmp_trans : ∀ {a b c}, Lib.compareBytes a b < 0 → Lib.compareBytes b c < 0 → Lib.compareBytes a c < 0
  | [], [], _, h, _ => by rw [cmp_self] at h; omega
  | [], b :: l2, [], _, h => by rw [cmp_cons_nil] at h; omega
  | [], b :: l2, c :: l3, _, _ => by rw [cmp_nil_cons]; omega
  | a :: l1, [], _, h, _ => by rw [cmp_cons_nil] at h; omega
  | a :: l1, b :: l2, [], _, h => by rw [cmp_cons_nil] at h; omega
  | a :: l1, b :: l2, c :: l3, h, k => by
    rw [cmp_cons] at h k ⊢
    rcases u8_tri a b with x | x | x
    · rcases u8_tri b c with y | y | y
      · have : a < c := UInt8.lt_iff_toNat_lt.2 (Nat.lt_trans (UInt8.lt_iff_toNat_lt.1 x) (UInt8.lt_iff_toNat_lt.1 y))
        rw [if_pos this]; omega
      · rw [if_neg (u8_asym y), if_pos y] at k; omega
      · subst y; rw [if_pos x]; omega
    · rw [if_neg (u8_asym x), if_pos x] at h; omega
    · subst x
      rw [if_neg (by simp), if_neg (by simp)] at h
      rcases u8_tri a c with y | y | y
      · rw [if_pos y]; omega
      · rw [if_neg (u8_asym y), if_pos y] at k; omega
      · subst y
        rw [if_neg (by simp), if_neg (by simp)] at k ⊢
        exact cmp_trans h k
def cfE (x y : En) : Int := Lib.compareBytes x.nm y.nm
theorem swoE : SWO (ltOf cfE) where
  irrefl x := by simp [ltOf, cfE, cmp_self]
  trans _ _ _ h1 h2 := decide_eq_true (cmp_trans (of_decide_eq_true h1) (of_decide_eq_true h2))
  ntrans x y z h1 h2 := decide_eq_false fun h3 => by
    have h1' := of_decide_eq_false h1
    have h2' := of_decide_eq_false h2
    unfold cfE at h1' h2' h3
    by_cases e : Lib.compareBytes x.nm y.nm = 0
    · rw [cmp_zero e] at h3; exact h2' h3
    · have f := cmp_flip x.nm y.nm
      exact h2' (cmp_trans (show Lib.compareBytes y.nm x.nm < 0 by omega) h3)

theorem wpList_boxEn {ops : Array Oper} {rest : List Oper} {o : Oper} {a : Act} {w : World} {Q : Exit → Act → World → Prop} (hgd : o.guard = none) (x : Operand) (ho : o.op = .box 33 x) (t : En) (hx : a.eval x = enV t)
    (hk : wpList Try.prog ops Q rest (a.put o.dst (.pointer (some ⟨w.heap.size, 0, none⟩))) (w.alloc (.cells (enC t).toArray 33))) : wpList Try.prog ops Q (o :: rest) a w := by
  refine wpList_is hgd _ _ ?_ hk
  simp [execOp, ho, Instr.box, newVar, newRow, hx, enV, Value.cells, Result.andThen]

set_option maxHeartbeats 1600000 in
/-- What the order asks of two entries: two blocks are laid. -/
theorem listF_any (x y : En) (W : World) : Calls Try.prog 36 #[enV x, enV y] W fun e w' => e = .returned (.int .i64 (cfE x y)) ∧ ∃ q os', w' = grow (W.drewN q) os' := by
  have g1 := heap_alloc_new W (.cells (enC x).toArray 33)
  have g2 := heap_alloc_new (W.alloc (.cells (enC x).toArray 33)) (.cells (enC y).toArray 33)
  have c1 : ((W.alloc (.cells (enC x).toArray 33)).alloc (.cells (enC y).toArray 33)).cell? ⟨W.heap.size, 0, none⟩ = some (bstr x.nm) := by
    have hb := (Below.heap_alloc (W.alloc (.cells (enC x).toArray 33)) (.cells (enC y).toArray 33) W.heap.size (by simp)).trans g1
    rw [cell_of_row _ _ 0 _ _ (0, 0) hb]
    rfl
  have c2 : ((W.alloc (.cells (enC x).toArray 33)).alloc (.cells (enC y).toArray 33)).cell? ⟨W.heap.size + 1, 0, none⟩ = some (bstr y.nm) := by
    have hz : (W.alloc (.cells (enC x).toArray 33)).heap.size = W.heap.size + 1 := by simp
    rw [hz] at g2
    rw [cell_of_row _ _ 0 _ _ (0, 0) g2]
    rfl
  have hcon := fun W' => Try.strings_Compare ⟨x.nm.toArray⟩ ⟨y.nm.toArray⟩ W'
  have e1 : (⟨x.nm.toArray⟩ : ByteArray).data.toList = x.nm := by simp
  have e2 : (⟨y.nm.toArray⟩ : ByteArray).data.toList = y.nm := by simp
  rw [e1, e2] at hcon
  change ∀ W', Calls Try.prog 37 #[bstr x.nm, bstr y.nm] W' _ at hcon
  unfold cfE
  have HC := hid hcon
  clear hcon g1 g2 e1 e2
  generalize Lib.compareBytes x.nm y.nm = r at HC ⊢
  go_enter Try.func36, Try.ntmps36
  go_wp2_with (first | (refine wpList_boxEn rfl _ rfl x rfl ?_) | (refine wpList_boxEn rfl _ rfl y rfl ?_) | fail)
  refine (HC.out _).mono ?_
  rintro e w' ⟨rfl, rfl⟩
  go_wp2_with fail
  go_ret
  exact ⟨rfl, 0, _, by rw [alloc_eq_grow, alloc_eq_grow, grow_grow]; rfl⟩
theorem cmpLays_E (blk off size : Nat) (w : World) : CmpLays Try.prog 36 #[] enC 3 cfE blk off size w :=
  fun _ _ _ _ x y => listF_any x y _
end Go.Proofs.Ytnmiffkflnlanaa
