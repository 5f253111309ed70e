/- The code's tree: Look, Has, least, mayHang. -/
import Derived.Test.YtnmiffkflnlanaaTrD
namespace Go.Proofs.Ytnmiffkflnlanaa
open Go.RowKit
set_option maxRecDepth 100000

theorem setRow_keepsT {E : TypeId} {w : World} {b : Nat} {old cs : Array Value} (hb : w.heap[b]? = some (.cells old E (0, 0))) : (w.setRow b cs).heap[b]? = some (.cells cs E (0, 0)) ∧ Keeps [b] w (w.setRow b cs) :=
  ⟨setRow_heap w b old cs E (0, 0) hb, ⟨rfl, rfl, rfl, by simp [World.setRow], fun k _ hm => setRow_other w b k cs (by simpa using hm)⟩⟩
section
variable {ops : Array Oper} {rest : List Oper} {o : Oper} {a : Act} {w : World} {Q : Exit → Act → World → Prop}
/-- A whole struct written over in a block of its own. -/
theorem wpList_storeRowT {E : TypeId} (hgd : o.guard = none) (x y : Operand) (hop : o.op = .store E x y) (b : Nat) (hx : a.eval x = .pointer (some ⟨b, 0, none⟩)) (old cs : Array Value) (hi : (Try.prog.info? E).map (·.size) = some old.size) (hz : old.size = cs.size)
    (hb : w.heap[b]? = some (.cells old E (0, 0))) (hy : a.eval y = .agg cs) (h1 : cs.all (·.oneCell') = true)
    (h : ∀ w', Hid (w'.heap[b]? = some (.cells cs E (0, 0))) → Hid (Keeps [b] w w') → wpList Try.prog ops Q rest (a.put o.dst undef) w') : wpList Try.prog ops Q (o :: rest) a w := by
  refine wpList_plain hgd fun K hK => ?_
  have hr : (Instr.storeAt E (.pointer (some ⟨b, 0, none⟩)) (.agg cs)).run Try.prog w = .ok () (w.setRow b cs) := by
    simp only [Instr.storeAt, Instr.sureAddr, Sem.run_bind, Sem.run_pure, Result.andThen_ok]
    exact run_storeVar_row w b E E old cs hb (by rw [hi, hz]) hz h1
  obtain ⟨s1, s2⟩ := setRow_keepsT (cs := cs) hb
  refine wp_stored (w' := w.setRow b cs) ?_ (hK _ _ (h _ s1 s2))
  unfold execOp
  simp only [hop, hx, hy, hr, Sem.run_bind, Result.andThen_ok]
  rfl
end
theorem plC_one (d : Nat) (s : List UInt8) : (plC d s).toArray.all (·.oneCell') = true := by simp [plC, Value.oneCell', bstr]
theorem tgC_one (x : Tg) (g : Nat) : (tgC x g).toArray.all (·.oneCell') = true := by simp [tgC, Value.oneCell', bstr]

theorem lookT_find (T : TL) (p : List UInt8) : lookT T p = if (findR T p).2 = 0 then ((findR T p).1, isDirT T (findR T p).1, 0) else (0, false, (findR T p).2) := by
  unfold lookT findR
  cases splitN p with
  | none => rfl
  | some l => rfl
theorem findR_has {T : TL} (I : InvT T) {p : List UInt8} (h : (findR T p).2 = 0) : hasT T (findR T p).1 = true := by
  unfold findR at h ⊢
  cases hq : splitN p with
  | none => rw [hq] at h; simp at h
  | some l => rw [hq] at h; exact walkT_has I l 1 (one_has T) h

set_option maxHeartbeats 1600000 in
theorem look_any10 (w : World) (q c : Nat) (T : TL) (G : Nat → Nat) (TI : TreeIn w q T G c) (s : ByteArray) (hs : s.size ≤ 140737488351232) :
    Calls Try.prog 21 #[.pointer (some ⟨q, 0, none⟩), .string s] w fun e w' => e = .returned (.tuple #[numN (lookT T s.data.toList).1, .bool (lookT T s.data.toList).2.1, .int .i64 (lookT T s.data.toList).2.2]) ∧ Keeps [] w w' := by
  have HI := hid TI
  have FA := hid (find_any10 w q c T G TI s hs)
  clear TI
  rw [lookT_find]
  by_cases h0 : (findR T s.data.toList).2 = 0
  · have HH := hid (findR_has HI.out.1 h0)
    rw [if_pos h0]
    rw [h0] at FA
    clear h0
    generalize (findR T s.data.toList).1 = n at FA HH ⊢
    go_enter Try.func21, Try.ntmps21
    go_wp2_with fail
    refine FA.out.mono ?_
    rintro e w1 ⟨rfl, k1⟩
    have HI1 := hid (HI.out.keep0 k1)
    have HL := hid (HI1.out.ld n HH.out)
    have hn2 := (hasT_le HI.out.1 HH.out).2
    have hni : ((n : Int) < 129) := by omega
    have hni0 : (0 : Int) ≤ n := by omega
    have K1 := hid k1
    clear k1
    go_wp2_with (first | (refine wpList_loadTg rfl _ rfl q (n * 4) rfl (xT T n) (G n) HL.out ?_) | fail)
    refine (isDir_any10 _ (xT T n) (G n)).mono ?_
    rintro e w2 ⟨rfl, k2⟩
    go_wp2_with fail
    go_ret3
    exact ⟨rfl, K1.out.trans k2⟩
  · rw [if_neg h0]
    have h1 : ((findR T s.data.toList).2 != 0) = true := by simpa using h0
    clear h0
    generalize (findR T s.data.toList).2 = x at FA h1 ⊢
    go_enter Try.func21, Try.ntmps21
    go_wp2_with fail
    refine FA.out.mono ?_
    rintro e w1 ⟨rfl, k1⟩
    go_wp2_with fail
    go_ret3
    exact ⟨rfl, k1⟩

theorem hasT_zero {T : TL} (I : InvT T) {n : Nat} (h : n = 0 ∨ 128 < n) : hasT T n = false := by
  cases hq : hasT T n with
  | false => rfl
  | true => have := hasT_le I hq; omega
/-- The things may be on their way (X is not yet a tree's): has. -/
def hasX (X : Nat → Tg) (n : Nat) : Bool := decide (1 ≤ n ∧ n ≤ 128) && (X n).there
theorem has_mid (w : World) (q c : Nat) (X : Nat → Tg) (G : Nat → Nat) (K : Nat → List UInt8 → Nat) (M : MidIn w q X G K c) (h1 : (X 1).there = true) (n : Nat) :
    Calls Try.prog 44 #[.pointer (some ⟨q, 0, none⟩), numN n] w fun e w' => e = .returned (.bool (hasX X n)) ∧ w = w' := by
  have MA := hid (made_any10 w q c X G K M h1)
  by_cases h0 : 1 ≤ n
  · have d0 : decide ((1 : Int) ≤ n) = true := by simp; omega
    by_cases h2 : n ≤ 128
    · have d2 : decide ((n : Int) ≤ 128) = true := by simp; omega
      have hni : ((n : Int) < 129) := by omega
      have hni0 : (0 : Int) ≤ n := by omega
      have c0 := M.c0 n (by omega)
      have e : hasX X n = (X n).there := by simp [hasX, h0, h2]
      rw [e]
      generalize (X n).there = b at c0 ⊢
      clear M h1 e h0 h2
      go_enter Try.func44, Try.ntmps44
      go_wp2_with fail
      refine MA.out.mono ?_
      rintro e w' ⟨rfl, rfl⟩
      go_wp2_with fail
      go_ret
      exact ⟨rfl, rfl⟩
    · have d2 : decide ((n : Int) ≤ 128) = false := by simp; omega
      have e : hasX X n = false := by simp [hasX, h2]
      rw [e]
      clear M h1 e h0 h2
      go_enter Try.func44, Try.ntmps44
      go_wp2_with fail
      refine MA.out.mono ?_
      rintro e w' ⟨rfl, rfl⟩
      go_wp2_with fail
      go_ret
      exact ⟨rfl, rfl⟩
  · have d0 : decide ((1 : Int) ≤ n) = false := by simp; omega
    have e : hasX X n = false := by simp [hasX, h0]
    rw [e]
    clear M h1 e h0
    go_enter Try.func44, Try.ntmps44
    go_wp2_with fail
    refine MA.out.mono ?_
    rintro e w' ⟨rfl, rfl⟩
    go_wp2_with fail
    go_ret
    exact ⟨rfl, rfl⟩
theorem hasX_T {T : TL} (I : InvT T) (n : Nat) : hasX (xT T) n = hasT T n := by
  unfold hasX
  by_cases h : 1 ≤ n ∧ n ≤ 128
  · simp [h, xT]
  · rw [hasT_zero I (by omega)]
    simp [h]
theorem has_any10 (w : World) (q c : Nat) (T : TL) (G : Nat → Nat) (TI : TreeIn w q T G c) (n : Nat) :
    Calls Try.prog 44 #[.pointer (some ⟨q, 0, none⟩), numN n] w fun e w' => e = .returned (.bool (hasT T n)) ∧ w = w' := by
  have h := has_mid w q c _ _ _ TI.2 (one_has T) n
  rw [hasX_T TI.1] at h
  exact h

theorem least_some {T : TL} {k : Nat} (h1 : 1 ≤ k) (h2 : k ≤ 128) (hn : hasT T k = false) (hall : ∀ m, 1 ≤ m → m < k → hasT T m = true) : leastT T = some k := by
  unfold leastT
  rw [List.find?_range_eq_some]
  refine ⟨by simp [h1, hn], List.mem_range.2 (by omega), fun j hj => ?_⟩
  by_cases h : 1 ≤ j
  · simp [h, hall j h hj]
  · simp [h]
theorem least_none {T : TL} (hall : ∀ m, 1 ≤ m → m < 129 → hasT T m = true) : leastT T = none := by
  unfold leastT
  rw [List.find?_eq_none]
  intro j hj
  by_cases h : 1 ≤ j
  · simp [h, hall j h (List.mem_range.1 hj)]
  · simp [h]

def leastR (T : TL) : Value := match leastT T with | some n => .tuple #[numN n, .int .i64 0] | none => .tuple #[.int .i64 0, .int .i64 5]
set_option maxHeartbeats 1600000 in
theorem least_any10 (w : World) (q c : Nat) (T : TL) (G : Nat → Nat) (TI : TreeIn w q T G c) :
    Calls Try.prog 29 #[.pointer (some ⟨q, 0, none⟩)] w fun e w' => e = .returned (leastR T) ∧ w = w' := by
  have HI := hid TI
  clear TI
  obtain ⟨r, hr⟩ : ∃ r, r = leastR T := ⟨_, rfl⟩
  rw [← hr]
  have HR := hid hr
  clear hr
  go_enter Try.func29, Try.ntmps29
  go_wp2_with fail
  go_loopw [4] (fun iv wr => ∃ k : Nat, 1 ≤ k ∧ k ≤ 129 ∧ iv = .int .i64 k ∧ wr = w ∧ ∀ m, 1 ≤ m → m < k → hasT T m = true) (fun iv _ => 129 - (intOf iv).toNat)
  case atStart => exact ⟨1, by omega, by omega, rfl, rfl, fun m _ _ => by omega⟩
  case round =>
    obtain ⟨k, hk1, hk2, rfl, rfl, hall⟩ := hrel
    have HA := hid hall
    clear hall
    by_cases hlt : k ≤ 128
    · have d2 : decide ((k : Int) ≤ 128) = true := by simp; omega
      have hni : ((k : Int) < 129) := by omega
      have hni0 : (0 : Int) ≤ k := by omega
      have c0 := HI.out.2.c0 k (by omega)
      have ex : (xT T k).there = hasT T k := rfl
      rw [ex] at c0
      clear ex
      cases hb : hasT T k with
      | true =>
        rw [hb] at c0
        have HB := hid hb
        clear hb
        go_wp2_with fail
        go_roundw
        case rel =>
          refine ⟨k + 1, by omega, by omega, by go_num, by first | rfl | trivial, fun m h1 h2 => ?_⟩
          by_cases e : m = k
          · rw [e]; exact HB.out
          · exact HA.out m h1 (by omega)
        case measure => simp [intOf]; omega
      | false =>
        rw [hb] at c0
        have HB := hid hb
        clear hb
        go_wp2_with fail
        go_ret2
        refine ⟨?_, rfl⟩
        rw [HR.out, leastR, least_some hk1 hlt HB.out HA.out]
        rfl
    · have d2 : decide ((k : Int) ≤ 128) = false := by simp; omega
      go_wp2_with fail
      go_ret2
      refine ⟨?_, rfl⟩
      rw [HR.out, leastR, least_none (fun m h1 h2 => HA.out m h1 (by omega))]
      rfl
end Go.Proofs.Ytnmiffkflnlanaa
