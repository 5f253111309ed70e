/- EyeA, Nums, EyeB, Rec, Catch, EyeC, EyeD, EyeE, EyeF, EyeG. -/
import Derived.Test.YtoglcohdanpciaaPenC
import Derived.Test.YtoglcohdanpciaaCore
import Derived.Laws.BitsAllLaws
import Derived.Test.YtoglcohdanpciaaBase
import Derived.Defers
import Derived.Recover
import Derived.Laws.Pointers
import Derived.Laws.BytesArg
/- Walks of the eye: take, number. -/
namespace Go.Proofs.Ytoglcohdanpciaa
open Go.RowKit

/-- An eye (of wire): its three cells; its row is to be read. -/
structure EyeAt (w : World) (B : Nat) (p : Nat) (v : Value) (zs : List Int) (bad : Int) : Prop where
  blk : w.heap[p]? = some (.cells #[v, .int .i64 bad, .bool true] 192 (0, 0))
  row : RowAt w v zs
  off : Off [p] v zs
  lo : B ≤ p
  fits : zs.length ≤ 35184372088832

theorem EyeAt.cell0 {w : World} {B p v zs bad} (h : EyeAt w B p v zs bad) : w.cell? ⟨p, 0, none⟩ = some v := by simp [World.cell?, h.blk]
theorem EyeAt.cell1 {w : World} {B p v zs bad} (h : EyeAt w B p v zs bad) : w.cell? ⟨p, 1, none⟩ = some (.int .i64 bad) := by simp [World.cell?, h.blk]
theorem EyeAt.cell2 {w : World} {B p v zs bad} (h : EyeAt w B p v zs bad) : w.cell? ⟨p, 2, none⟩ = some (.bool true) := by simp [World.cell?, h.blk]
theorem EyeAt.free0 {w : World} {B p v zs bad} (h : EyeAt w B p v zs bad) : w.frozen? ⟨p, 0, none⟩ = false := by simp [World.frozen?, h.blk]
theorem EyeAt.free1 {w : World} {B p v zs bad} (h : EyeAt w B p v zs bad) : w.frozen? ⟨p, 1, none⟩ = false := by simp [World.frozen?, h.blk]
theorem EyeAt.lt {w : World} {B p v zs bad} (h : EyeAt w B p v zs bad) : p < w.heap.size := lt_of_block h.blk

theorem EyeAt.keep {w w' : World} {B p v zs bad} {S : List Nat} (h : EyeAt w B p v zs bad) (k : Keeps S w w') (hp : p ∉ S) (hv : Off S v zs) : EyeAt w' B p v zs bad :=
  ⟨by rw [k.block p h.lt hp]; exact h.blk, h.row.keep k hv, h.off, h.lo, h.fits⟩

/-- v2 lies in the block in which v lies. -/
def SameBlk (v v2 : Value) : Prop := ∀ ad n c, v2 = .slice (some ad) n c → ∃ ad' n' c', v = .slice (some ad') n' c' ∧ ad'.block = ad.block

theorem SameBlk.refl (v : Value) : SameBlk v v := fun ad n c h => ⟨ad, n, c, h, rfl⟩
theorem SameBlk.trans {v v1 v2 : Value} (h : SameBlk v v1) (k : SameBlk v1 v2) : SameBlk v v2 := fun ad n c e =>
  let ⟨ad', n', c', e', h'⟩ := k ad n c e
  let ⟨ad2, n2, c2, e2, h2⟩ := h ad' n' c' e'
  ⟨ad2, n2, c2, e2, h2.trans h'⟩
theorem Off.same {S : List Nat} {v v2 : Value} {zs zs2 : List Int} (h : Off S v zs) (hs : SameBlk v v2) (hz : zs2 ≠ [] → zs ≠ []) : Off S v2 zs2 := by
  intro ad n c e hne
  obtain ⟨ad', n', c', e', h'⟩ := hs ad n c e
  rw [← h']
  exact h ad' n' c' e' (hz hne)

def gaveUp (why : Int) : Ending := .panicked [{ v := .iface 23 (.int .i64 why), recovered := false }]

theorem heap_three {w : World} {p : Nat} {x y z : Value} {T : TypeId} (h : w.heap[p]? = some (.cells #[x, y, z] T (0, 0))) (u : Value) :
    (w.setCell ⟨p, 0, none⟩ u).heap[p]? = some (.cells #[u, y, z] T (0, 0)) ∧ (w.setCell ⟨p, 1, none⟩ u).heap[p]? = some (.cells #[x, u, z] T (0, 0)) := by
  have hlt := lt_of_block h
  have h' : w.heap[p] = .cells #[x, y, z] T (0, 0) := by simpa [Array.getElem?_eq_getElem hlt] using h
  constructor
  · show (w.heap.modify p _)[p]? = _
    rw [Array.getElem?_eq_getElem (by simpa using hlt), Array.getElem_modify_self, h']
    rfl
  · show (w.heap.modify p _)[p]? = _
    rw [Array.getElem?_eq_getElem (by simpa using hlt), Array.getElem_modify_self, h']
    rfl

def TakePost (w : World) (B p : Nat) (v : Value) (zs : List Int) (bad : Int) (n : Nat) (e : Ending) (w' : World) : Prop :=
  (zs.length < n ∧ e = gaveUp 2 ∧ w' = w) ∨
  (n ≤ zs.length ∧ ∃ a1 c1 v2, e = .returned (.slice a1 n c1) ∧ RowAt w' (.slice a1 n c1) (zs.take n) ∧ SameBlk v (.slice a1 n c1) ∧ EyeAt w' B p v2 (zs.drop n) bad ∧ SameBlk v v2 ∧ Keeps [p] w w')

set_option maxHeartbeats 400000 in
theorem take_any (w : World) (B p : Nat) (v : Value) (zs : List Int) (bad : Int) (n : Nat) (h : EyeAt w B p v zs bad) :
    Calls Try.prog 186 #[.pointer (some ⟨p, 0, none⟩), .int .i64 n] w (TakePost w B p v zs bad n) := by
  have H := hid h
  have c0 := h.cell0
  have f0 := h.free0
  have hf := h.fits
  have hr := h.row
  obtain ⟨a, cap, rfl, _⟩ := h.row
  clear h
  by_cases hn : zs.length < n
  · have hn' : (zs.length : Int) < n := by omega
    clear hr
    go_enter Try.func186, Try.ntmps186
    go_wp2_with fail
    exact ⟨rfl, Or.inl ⟨hn, rfl, rfl⟩⟩
  · have hn' : ¬ (zs.length : Int) < n := by omega
    obtain ⟨a1, t1, t2, t3, t4⟩ := row_take hr n (by omega)
    obtain ⟨a2, s1, s2, s3, s4⟩ := row_drop hr n (by omega)
    have T3 := hid t3
    have T4 := hid t4
    have S3 := hid s3
    have S4 := hid s4
    clear t3 t4 s3 s4 hr
    go_enter Try.func186, Try.ntmps186
    go_wp2_with fail
    go_ret
    have K : Keeps [p] w (w.setCell ⟨p, 0, none⟩ (.slice a2 (zs.length - n) (cap - n))) := (Keeps.refl _ _).setCell (Or.inl (by simp)) _
    have R := H.out.row.keep K H.out.off
    have hb1 : SameBlk (.slice a zs.length cap) (.slice a1 n cap) := by
      intro ad n' c' e
      injection e with e1 _ _
      obtain ⟨ad', h1, h2⟩ := T4.out ad e1
      exact ⟨ad', _, _, by rw [h1], h2⟩
    have hb2 : SameBlk (.slice a zs.length cap) (.slice a2 (zs.length - n) (cap - n)) := by
      intro ad n' c' e
      injection e with e1 _ _
      obtain ⟨ad', h1, h2⟩ := S4.out ad e1
      exact ⟨ad', _, _, by rw [h1], h2⟩
    refine Or.inr ⟨by omega, a1, cap, .slice a2 (zs.length - n) (cap - n), rfl, T3.out _ R, hb1, ⟨?_, S3.out _ R, ?_, H.out.lo, ?_⟩, hb2, K⟩
    · exact (heap_three H.out.blk _).1
    · exact H.out.off.same hb2 (by intro h1 h2; rw [h2] at h1; simp at h1)
    · rw [List.length_drop]; omega
end Go.Proofs.Ytoglcohdanpciaa


/- Plain facts on numbers: bytes joined into a number, and cut out of it; or and and on int. -/
namespace Go.Proofs.Ytoglcohdanpciaa
open Go.RowKit

theorem ofInt_64 (a : Nat) (h : a < 9223372036854775808) : (BitVec.ofInt 64 (a : Int)).toNat = a := by
  rw [BitVec.toNat_ofInt]; omega

theorem i64_or (a b : Nat) (ha : a < 9223372036854775808) (hb : b < 9223372036854775808) : bits .or .i64 (a : Int) (b : Int) = ((a ||| b : Nat) : Int) := by
  have hx : a ||| b < 2 ^ 63 := Nat.or_lt_two_pow (by omega) (by omega)
  show IntKind.i64.wrap ((BitVec.ofInt 64 (a : Int) ||| BitVec.ofInt 64 (b : Int)).toNat : Int) = _
  rw [BitVec.toNat_or, ofInt_64 a ha, ofInt_64 b hb, IntWalk.i64_in]
  omega

theorem i64_and (a b : Nat) (ha : a < 9223372036854775808) (hb : b < 9223372036854775808) : bits .and .i64 (a : Int) (b : Int) = ((a &&& b : Nat) : Int) := by
  have hx : a &&& b ≤ a := Nat.and_le_left
  show IntKind.i64.wrap ((BitVec.ofInt 64 (a : Int) &&& BitVec.ofInt 64 (b : Int)).toNat : Int) = _
  rw [BitVec.toNat_and, ofInt_64 a ha, ofInt_64 b hb, IntWalk.i64_in]
  omega

theorem or_byte (x b : Int) (hx : 0 ≤ x) (hx2 : x ≤ 281474976710655) (hb : 0 ≤ b) (hb2 : b ≤ 255) : bits .or .i64 (x * 256) b = x * 256 + b := by
  obtain ⟨m, rfl⟩ := Int.eq_ofNat_of_zero_le hx
  obtain ⟨n, rfl⟩ := Int.eq_ofNat_of_zero_le hb
  have e : ((m : Int) * 256) = ((m * 256 : Nat) : Int) := by omega
  rw [e, i64_or (m * 256) n (by omega) (by omega)]
  have e2 : m * 256 ||| n = m * 256 + n := by
    have := Nat.shiftLeft_add_eq_or_of_lt (i := 8) (b := n) (by omega) m
    rw [Nat.shiftLeft_eq, show (2 : Nat) ^ 8 = 256 from rfl] at this
    omega
  rw [e2]
  omega

def val (zs : List Int) : Int := zs.foldl (fun x b => x * 256 + b) 0

theorem val_snoc (zs : List Int) (b : Int) : val (zs ++ [b]) = val zs * 256 + b := by simp [val]

theorem val_bound : ∀ (n : Nat) (zs : List Int), zs.length = n → (∀ z ∈ zs, 0 ≤ z ∧ z ≤ 255) → 0 ≤ val zs ∧ val zs < 256 ^ n
  | 0, zs, h, _ => by
    have : zs = [] := List.eq_nil_of_length_eq_zero h
    subst this
    simp [val]
  | n + 1, zs, h, hz => by
    have hne : zs ≠ [] := by intro e; subst e; simp at h
    have hs : zs = zs.dropLast ++ [zs.getLast hne] := (List.dropLast_concat_getLast hne).symm
    have ih := val_bound n zs.dropLast (by simp [h]) (fun z hm => hz z (List.dropLast_subset _ hm))
    have hl := hz _ (List.getLast_mem hne)
    rw [hs, val_snoc]
    generalize val zs.dropLast = v at *
    generalize zs.getLast hne = l at *
    have e : (256 : Int) ^ (n + 1) = 256 ^ n * 256 := by rw [Int.pow_succ]
    rw [e]
    generalize (256 : Int) ^ n = q at *
    omega

end Go.Proofs.Ytoglcohdanpciaa


/- Walks of the eye: number, counted, truth. -/
namespace Go.Proofs.Ytoglcohdanpciaa
open Go.RowKit

def NumPost (w : World) (B p : Nat) (v : Value) (zs : List Int) (bad n : Int) (e : Ending) (w' : World) : Prop :=
  (¬ (1 ≤ n ∧ n ≤ 7) ∧ e = gaveUp 1 ∧ w' = w) ∨
  (1 ≤ n ∧ n ≤ 7 ∧ zs.length < n.toNat ∧ e = gaveUp 2 ∧ w' = w) ∨
  (1 ≤ n ∧ n ≤ 7 ∧ n.toNat ≤ zs.length ∧ ∃ v2, e = .returned (.int .i64 (val (zs.take n.toNat))) ∧ EyeAt w' B p v2 (zs.drop n.toNat) bad ∧ SameBlk v v2 ∧ Keeps [p] w w')

set_option maxHeartbeats 400000 in
theorem number_ok (w : World) (B p : Nat) (v : Value) (zs : List Int) (bad : Int) (n : Nat) (h : EyeAt w B p v zs bad) (h1 : 1 ≤ n) (h7 : n ≤ 7) :
    Calls Try.prog 163 #[.pointer (some ⟨p, 0, none⟩), .int .i64 n] w (NumPost w B p v zs bad n) := by
  have H := hid h
  have d1 : decide ((n : Int) < 1) = false := by simp; omega
  have d2 : decide (7 < (n : Int)) = false := by simp; omega
  clear h
  go_enter Try.func163, Try.ntmps163
  go_wp2_with fail
  refine (take_any _ B p v zs bad n H.out).mono ?_
  rintro e w1 (⟨q1, rfl, rfl⟩ | ⟨q1, a1, c1, v2, rfl, q2, q3, q4, q5, q6⟩)
  · have Q1 := hid q1
    clear q1
    unfold gaveUp
    go_wp2_with fail
    exact ⟨rfl, Or.inr (Or.inl ⟨by omega, by omega, Q1.out, rfl, rfl⟩)⟩
  · have Q2 := hid q2
    have Q3 := hid q3
    have Q4 := hid q4
    have Q5 := hid q5
    have Q6 := hid q6
    have HB := hid H.out.row.bytes
    have hl : (zs.take n).length = n := by rw [List.length_take]; omega
    obtain ⟨g, off, cap, hv, r1, r2⟩ := q2.open (by omega)
    injection hv with e1 e2 e3
    subst e1
    rw [hl] at r2
    have R2 := hid r2
    clear q3 q4 q5 q6 q2 r1 r2 e2 e3 hl
    go_wp2_with fail
    go_loop [5, 19] (fun x i => ∃ k : Nat, k ≤ n ∧ i = .int .i64 k ∧ x = .int .i64 (val (zs.take k))) (fun _ i => n - (intOf i).toNat)
    case atStart => exact ⟨0, by omega, rfl, rfl⟩
    case round =>
      obtain ⟨k, hk, rfl, rfl⟩ := hrel
      by_cases hlt : k < n
      · have hc := R2.out k hlt
        have hbd := val_bound k (zs.take k) (by rw [List.length_take]; omega) (fun z hz => HB.out z (List.mem_of_mem_take hz))
        have hmono : (256 : Int) ^ k ≤ 256 ^ 6 := by
          have : k ≤ 6 := by omega
          rcases k with _ | _ | _ | _ | _ | _ | _ | k <;> first | omega | decide
        have b1 : val (zs.take k) ≤ 281474976710655 := by
          have h6 : (256 : Int) ^ 6 = 281474976710656 := by decide
          omega
        have b0 : 0 ≤ val (zs.take k) := hbd.1
        have hz := HB.out (zs.getD k 0) (by rw [List.getD_eq_getElem?_getD, List.getElem?_eq_getElem (by omega)]; exact List.getElem_mem _)
        have E := hid (take_snoc zs k (by omega))
        have hcc : w1.cell? ⟨g, off + k, none⟩ = some (.int .u8 (zs.getD k 0)) := by
          rw [hc, List.getD_eq_getElem?_getD, List.getElem?_take, if_pos hlt, List.getD_eq_getElem?_getD]
        generalize zs.getD k 0 = b at *
        have z0 : 0 ≤ b := hz.1
        have z1 : b ≤ 255 := hz.2
        clear hbd hmono hz hc
        go_wp2_with fail
        go_round
        case rel => exact ⟨k + 1, by omega, by go_num, by rw [E.out, val_snoc, or_byte _ _ b0 b1 z0 z1]⟩
        case measure => simp [intOf]; omega
      · have : k = n := by omega
        subst this
        go_wp2_with fail
        go_ret
        exact Or.inr (Or.inr ⟨by omega, by omega, by omega, v2, rfl, Q4.out, Q5.out, Q6.out⟩)

set_option maxHeartbeats 400000 in
theorem number_any (w : World) (B p : Nat) (v : Value) (zs : List Int) (bad n : Int) (h : EyeAt w B p v zs bad) :
    Calls Try.prog 163 #[.pointer (some ⟨p, 0, none⟩), .int .i64 n] w (NumPost w B p v zs bad n) := by
  by_cases hn : 1 ≤ n ∧ n ≤ 7
  · obtain ⟨k, rfl⟩ := Int.eq_ofNat_of_zero_le (show 0 ≤ n by omega)
    exact number_ok w B p v zs bad k h (by omega) (by omega)
  · clear h
    by_cases a1 : n < 1
    · have d1 : decide (n < 1) = true := by simpa using a1
      have HN := hid hn
      clear hn
      go_enter Try.func163, Try.ntmps163
      go_wp2_with fail
      exact ⟨rfl, Or.inl ⟨HN.out, rfl, rfl⟩⟩
    · have d1 : decide (n < 1) = false := by simpa using a1
      have d2 : decide (7 < n) = true := by simp; omega
      have HN := hid hn
      clear hn
      go_enter Try.func163, Try.ntmps163
      go_wp2_with fail
      exact ⟨rfl, Or.inl ⟨HN.out, rfl, rfl⟩⟩
end Go.Proofs.Ytoglcohdanpciaa


/- A region that begins with recover, entered as a deferred call: what is behind it is walked as any code. -/
namespace Go.Proofs.Ytoglcohdanpciaa
open Go.RowKit

section
variable {P : Program} {Q : Exit → Act → List Frame → World → Prop} {a : Act} {cs cs' : List Frame} {w : World} {ops : Array Oper} {o : Oper} {v : Value}

theorem wpS_recover_seq {id : Nat} {y : Code} {l : List Oper} (h0 : ops[0]? = some o) (hgd : o.guard = none) (hl : ∀ j, l[j]? = ops[1 + j]?) (hn : ops.size = 1 + l.length)
    (hrun : (execOp a.eval o).run P w = .ok .recover w) (hrec : recoverD cs = some (v, cs') ∨ (recoverD cs = none ∧ v = .nilIface ∧ cs' = cs))
    (h : wpList P ops (Exit.then (fun a w => y.wp P (fun e a w => Q e a cs' w) a w) (fun e a w => Q e a cs' w)) l (a.put o.dst v) w) :
    (Code.seq (Code.region id ops false) y).wpS P Q a cs w := by
  apply wpS_seq
  intro b k hb hro
  rw [← wpOps_eq_wpList l 1 hl] at h
  obtain ⟨e, a', w', hq, harr⟩ := wp_ops (List.range' 1 l.length) _ _ h b k cs'
  have hQ : Exit.thenS (y.wpS P Q) Q e a' cs' w' := by
    cases e with
    | normal => exact wpS_of_wp hq
    | exit id => exact hq
    | goto l => exact hq
    | ret => exact hq
    | panic ch => exact hq
    | outgrown => exact hq
  refine ⟨e, a', cs', w', hQ, .of_steps (.head step_region (.one ?_)) harr⟩
  have hrg : List.range ops.size = 0 :: List.range' 1 l.length := by rw [hn, List.range_eq_range', Nat.add_comm, List.range'_succ]
  rw [hrg]
  have hw : Region.wanted o (yielded ops a.tmps) = true := by simp [Region.wanted, hgd]
  have hg := stepG_op (P := P) (b := b) (k := k) (cs := cs) (w := w) (rest := List.range' 1 l.length) h0 hw
  have hfin : ∀ v, (b.at a (.inRegion ops (0 :: List.range' 1 l.length) :: k)).finish v = b.at (a.put o.dst v) (.inRegion ops (List.range' 1 l.length) :: k) := by
    intro v; rw [Frame.finish_at, h0]; rfl
  have hk : (b.at a (.inRegion ops (0 :: List.range' 1 l.length) :: k)).kind = .deferred := hb
  have htr := tryRecover_deferred hk cs
  refine step_lone_go ?_
  rw [hg, ← hfin]
  simp only [Frame.at] at htr ⊢
  rcases hrec with hrec | ⟨hrec, rfl, rfl⟩
  · simp [stepG.apply, hrun, htr, hrec]
  · simp [stepG.apply, hrun, htr, hrec]

theorem wpS_recover_lit {id : Nat} {y : Code} {l : List Oper} (hgd : o.guard = none) (hrun : (execOp a.eval o).run P w = .ok .recover w)
    (hrec : recoverD cs = some (v, cs') ∨ (recoverD cs = none ∧ v = .nilIface ∧ cs' = cs))
    (h : wpList P (o :: l).toArray (Exit.then (fun a w => y.wp P (fun e a w => Q e a cs' w) a w) (fun e a w => Q e a cs' w)) l (a.put o.dst v) w) :
    (Code.seq (Code.region id (o :: l).toArray false) y).wpS P Q a cs w :=
  wpS_recover_seq (o := o) (l := l) (by simp) hgd (fun j => by simp [Nat.add_comm]) (by simp [Nat.add_comm]) hrun hrec h
end
end Go.Proofs.Ytoglcohdanpciaa


/- The deferred closure of attempt, at each of its four instances: in a frame that panics (it takes what the reader gave up with, puts the row back and lays the error), in one that returns (it does nothing). -/
namespace Go.Proofs.Ytoglcohdanpciaa
open Go.RowKit

theorem ta_hit (v : Value) (w : World) : (Instr.typeAssert (.iface 23 v) 20 23 true).run Try.prog w = .ok (.tuple #[v, .bool true]) w := by kernel_rfl
theorem ta_nil (w : World) : (Instr.typeAssert .nilIface 20 23 true).run Try.prog w = .ok (.tuple #[.int .i64 0, .bool false]) w := by kernel_rfl

set_option maxHeartbeats 400000 in
theorem catchInt_panicking (p ah eb : Nat) (v x y : Value) (why : Int) (older : List PanicEntry) (w : World) (hb : w.heap[p]? = some (.cells #[x, y, .bool true] 192 (0, 0)))
    (hv : ∃ a n c, v = .slice a n c)
    (ha : w.cell? ⟨ah, 0, none⟩ = some v) (he : w.cell? ⟨eb, 0, none⟩ = some (.pointer (some ⟨p, 0, none⟩))) :
    CallsD Try.prog 185 #[.pointer (some ⟨ah, 0, none⟩), .pointer (some ⟨eb, 0, none⟩)] (.panicking ({ v := .iface 23 (.int .i64 why), recovered := false } :: older)) w fun e u' w' =>
      e = .returned (.tuple #[]) ∧ u' = .panicking ({ v := .iface 23 (.int .i64 why), recovered := true } :: older) ∧ w' = (w.setCell ⟨p, 0, none⟩ v).setCell ⟨p, 1, none⟩ (.int .i64 why) := by
  obtain ⟨a, n, c, rfl⟩ := hv
  have c0 : w.cell? ⟨p, 0, none⟩ = some x := by simp [World.cell?, hb]
  have c1 : w.cell? ⟨p, 1, none⟩ = some y := by simp [World.cell?, hb]
  have f0 : w.frozen? ⟨p, 0, none⟩ = false := by simp [World.frozen?, hb]
  have f1 : w.frozen? ⟨p, 1, none⟩ = false := by simp [World.frozen?, hb]
  have t1 := ta_hit
  refine callsD_of_wpS Try.func185 rfl fun c₀ cs hu => ?_
  simp only [Try.ntmps185, List.size_toArray, List.length_cons, List.length_nil, Nat.reduceAdd, Nat.reduceSub, Array.replicate_succ,
     Array.replicate_zero, List.push_toArray, List.append_toArray, List.nil_append, List.cons_append]
  have hrec : recoverD (c₀ :: cs) = some (.iface 23 (.int .i64 why), { c₀ with mode := .panicking ({ v := .iface 23 (.int .i64 why), recovered := true } :: older) } :: cs) := by
    simp only [recoverD, hu]
  refine wpS_recover_lit rfl rfl (Or.inl hrec) ?_
  simp only [Act.put]
  go_wp2_with fail
  exact ⟨rfl, _, rfl, .tuple #[], results_none rfl _ _ _, rfl, rfl, rfl⟩

set_option maxHeartbeats 400000 in
theorem catchInt_idle (p q : Addr) (w : World) :
    CallsD Try.prog 185 #[.pointer (some p), .pointer (some q)] .returning w fun e u' w' => e = .returned (.tuple #[]) ∧ u' = .returning ∧ w' = w := by
  have t1 := ta_nil
  refine callsD_of_wpS Try.func185 rfl fun c₀ cs hu => ?_
  simp only [Try.ntmps185, List.size_toArray, List.length_cons, List.length_nil, Nat.reduceAdd, Nat.reduceSub, Array.replicate_succ,
     Array.replicate_zero, List.push_toArray, List.append_toArray, List.nil_append, List.cons_append]
  have hrec : recoverD (c₀ :: cs) = none := by simp only [recoverD, hu]
  refine wpS_recover_lit rfl rfl (Or.inr ⟨hrec, rfl, rfl⟩) ?_
  simp only [Act.put]
  go_wp2_with fail
  refine ⟨rfl, .returning, ?_, .tuple #[], results_none rfl _ _ _, rfl, rfl, rfl⟩
  rw [← hu]

set_option maxHeartbeats 400000 in
theorem catchStr_panicking (p ah eb : Nat) (v x y : Value) (why : Int) (older : List PanicEntry) (w : World) (hb : w.heap[p]? = some (.cells #[x, y, .bool true] 192 (0, 0)))
    (hv : ∃ a n c, v = .slice a n c)
    (ha : w.cell? ⟨ah, 0, none⟩ = some v) (he : w.cell? ⟨eb, 0, none⟩ = some (.pointer (some ⟨p, 0, none⟩))) :
    CallsD Try.prog 194 #[.pointer (some ⟨ah, 0, none⟩), .pointer (some ⟨eb, 0, none⟩)] (.panicking ({ v := .iface 23 (.int .i64 why), recovered := false } :: older)) w fun e u' w' =>
      e = .returned (.tuple #[]) ∧ u' = .panicking ({ v := .iface 23 (.int .i64 why), recovered := true } :: older) ∧ w' = (w.setCell ⟨p, 0, none⟩ v).setCell ⟨p, 1, none⟩ (.int .i64 why) := by
  obtain ⟨a, n, c, rfl⟩ := hv
  have c0 : w.cell? ⟨p, 0, none⟩ = some x := by simp [World.cell?, hb]
  have c1 : w.cell? ⟨p, 1, none⟩ = some y := by simp [World.cell?, hb]
  have f0 : w.frozen? ⟨p, 0, none⟩ = false := by simp [World.frozen?, hb]
  have f1 : w.frozen? ⟨p, 1, none⟩ = false := by simp [World.frozen?, hb]
  have t1 := ta_hit
  refine callsD_of_wpS Try.func194 rfl fun c₀ cs hu => ?_
  simp only [Try.ntmps194, List.size_toArray, List.length_cons, List.length_nil, Nat.reduceAdd, Nat.reduceSub, Array.replicate_succ,
     Array.replicate_zero, List.push_toArray, List.append_toArray, List.nil_append, List.cons_append]
  have hrec : recoverD (c₀ :: cs) = some (.iface 23 (.int .i64 why), { c₀ with mode := .panicking ({ v := .iface 23 (.int .i64 why), recovered := true } :: older) } :: cs) := by
    simp only [recoverD, hu]
  refine wpS_recover_lit rfl rfl (Or.inl hrec) ?_
  simp only [Act.put]
  go_wp2_with fail
  exact ⟨rfl, _, rfl, .tuple #[], results_none rfl _ _ _, rfl, rfl, rfl⟩

set_option maxHeartbeats 400000 in
theorem catchStr_idle (p q : Addr) (w : World) :
    CallsD Try.prog 194 #[.pointer (some p), .pointer (some q)] .returning w fun e u' w' => e = .returned (.tuple #[]) ∧ u' = .returning ∧ w' = w := by
  have t1 := ta_nil
  refine callsD_of_wpS Try.func194 rfl fun c₀ cs hu => ?_
  simp only [Try.ntmps194, List.size_toArray, List.length_cons, List.length_nil, Nat.reduceAdd, Nat.reduceSub, Array.replicate_succ,
     Array.replicate_zero, List.push_toArray, List.append_toArray, List.nil_append, List.cons_append]
  have hrec : recoverD (c₀ :: cs) = none := by simp only [recoverD, hu]
  refine wpS_recover_lit rfl rfl (Or.inr ⟨hrec, rfl, rfl⟩) ?_
  simp only [Act.put]
  go_wp2_with fail
  refine ⟨rfl, .returning, ?_, .tuple #[], results_none rfl _ _ _, rfl, rfl, rfl⟩
  rw [← hu]

set_option maxHeartbeats 400000 in
theorem catchRaw_panicking (p ah eb : Nat) (v x y : Value) (why : Int) (older : List PanicEntry) (w : World) (hb : w.heap[p]? = some (.cells #[x, y, .bool true] 192 (0, 0)))
    (hv : ∃ a n c, v = .slice a n c)
    (ha : w.cell? ⟨ah, 0, none⟩ = some v) (he : w.cell? ⟨eb, 0, none⟩ = some (.pointer (some ⟨p, 0, none⟩))) :
    CallsD Try.prog 190 #[.pointer (some ⟨ah, 0, none⟩), .pointer (some ⟨eb, 0, none⟩)] (.panicking ({ v := .iface 23 (.int .i64 why), recovered := false } :: older)) w fun e u' w' =>
      e = .returned (.tuple #[]) ∧ u' = .panicking ({ v := .iface 23 (.int .i64 why), recovered := true } :: older) ∧ w' = (w.setCell ⟨p, 0, none⟩ v).setCell ⟨p, 1, none⟩ (.int .i64 why) := by
  obtain ⟨a, n, c, rfl⟩ := hv
  have c0 : w.cell? ⟨p, 0, none⟩ = some x := by simp [World.cell?, hb]
  have c1 : w.cell? ⟨p, 1, none⟩ = some y := by simp [World.cell?, hb]
  have f0 : w.frozen? ⟨p, 0, none⟩ = false := by simp [World.frozen?, hb]
  have f1 : w.frozen? ⟨p, 1, none⟩ = false := by simp [World.frozen?, hb]
  have t1 := ta_hit
  refine callsD_of_wpS Try.func190 rfl fun c₀ cs hu => ?_
  simp only [Try.ntmps190, List.size_toArray, List.length_cons, List.length_nil, Nat.reduceAdd, Nat.reduceSub, Array.replicate_succ,
     Array.replicate_zero, List.push_toArray, List.append_toArray, List.nil_append, List.cons_append]
  have hrec : recoverD (c₀ :: cs) = some (.iface 23 (.int .i64 why), { c₀ with mode := .panicking ({ v := .iface 23 (.int .i64 why), recovered := true } :: older) } :: cs) := by
    simp only [recoverD, hu]
  refine wpS_recover_lit rfl rfl (Or.inl hrec) ?_
  simp only [Act.put]
  go_wp2_with fail
  exact ⟨rfl, _, rfl, .tuple #[], results_none rfl _ _ _, rfl, rfl, rfl⟩

set_option maxHeartbeats 400000 in
theorem catchRaw_idle (p q : Addr) (w : World) :
    CallsD Try.prog 190 #[.pointer (some p), .pointer (some q)] .returning w fun e u' w' => e = .returned (.tuple #[]) ∧ u' = .returning ∧ w' = w := by
  have t1 := ta_nil
  refine callsD_of_wpS Try.func190 rfl fun c₀ cs hu => ?_
  simp only [Try.ntmps190, List.size_toArray, List.length_cons, List.length_nil, Nat.reduceAdd, Nat.reduceSub, Array.replicate_succ,
     Array.replicate_zero, List.push_toArray, List.append_toArray, List.nil_append, List.cons_append]
  have hrec : recoverD (c₀ :: cs) = none := by simp only [recoverD, hu]
  refine wpS_recover_lit rfl rfl (Or.inr ⟨hrec, rfl, rfl⟩) ?_
  simp only [Act.put]
  go_wp2_with fail
  refine ⟨rfl, .returning, ?_, .tuple #[], results_none rfl _ _ _, rfl, rfl, rfl⟩
  rw [← hu]

set_option maxHeartbeats 400000 in
theorem catchBool_panicking (p ah eb : Nat) (v x y : Value) (why : Int) (older : List PanicEntry) (w : World) (hb : w.heap[p]? = some (.cells #[x, y, .bool true] 192 (0, 0)))
    (hv : ∃ a n c, v = .slice a n c)
    (ha : w.cell? ⟨ah, 0, none⟩ = some v) (he : w.cell? ⟨eb, 0, none⟩ = some (.pointer (some ⟨p, 0, none⟩))) :
    CallsD Try.prog 189 #[.pointer (some ⟨ah, 0, none⟩), .pointer (some ⟨eb, 0, none⟩)] (.panicking ({ v := .iface 23 (.int .i64 why), recovered := false } :: older)) w fun e u' w' =>
      e = .returned (.tuple #[]) ∧ u' = .panicking ({ v := .iface 23 (.int .i64 why), recovered := true } :: older) ∧ w' = (w.setCell ⟨p, 0, none⟩ v).setCell ⟨p, 1, none⟩ (.int .i64 why) := by
  obtain ⟨a, n, c, rfl⟩ := hv
  have c0 : w.cell? ⟨p, 0, none⟩ = some x := by simp [World.cell?, hb]
  have c1 : w.cell? ⟨p, 1, none⟩ = some y := by simp [World.cell?, hb]
  have f0 : w.frozen? ⟨p, 0, none⟩ = false := by simp [World.frozen?, hb]
  have f1 : w.frozen? ⟨p, 1, none⟩ = false := by simp [World.frozen?, hb]
  have t1 := ta_hit
  refine callsD_of_wpS Try.func189 rfl fun c₀ cs hu => ?_
  simp only [Try.ntmps189, List.size_toArray, List.length_cons, List.length_nil, Nat.reduceAdd, Nat.reduceSub, Array.replicate_succ,
     Array.replicate_zero, List.push_toArray, List.append_toArray, List.nil_append, List.cons_append]
  have hrec : recoverD (c₀ :: cs) = some (.iface 23 (.int .i64 why), { c₀ with mode := .panicking ({ v := .iface 23 (.int .i64 why), recovered := true } :: older) } :: cs) := by
    simp only [recoverD, hu]
  refine wpS_recover_lit rfl rfl (Or.inl hrec) ?_
  simp only [Act.put]
  go_wp2_with fail
  exact ⟨rfl, _, rfl, .tuple #[], results_none rfl _ _ _, rfl, rfl, rfl⟩

set_option maxHeartbeats 400000 in
theorem catchBool_idle (p q : Addr) (w : World) :
    CallsD Try.prog 189 #[.pointer (some p), .pointer (some q)] .returning w fun e u' w' => e = .returned (.tuple #[]) ∧ u' = .returning ∧ w' = w := by
  have t1 := ta_nil
  refine callsD_of_wpS Try.func189 rfl fun c₀ cs hu => ?_
  simp only [Try.ntmps189, List.size_toArray, List.length_cons, List.length_nil, Nat.reduceAdd, Nat.reduceSub, Array.replicate_succ,
     Array.replicate_zero, List.push_toArray, List.append_toArray, List.nil_append, List.cons_append]
  have hrec : recoverD (c₀ :: cs) = none := by simp only [recoverD, hu]
  refine wpS_recover_lit rfl rfl (Or.inr ⟨hrec, rfl, rfl⟩) ?_
  simp only [Act.put]
  go_wp2_with fail
  refine ⟨rfl, .returning, ?_, .tuple #[], results_none rfl _ _ _, rfl, rfl, rfl⟩
  rw [← hu]
end Go.Proofs.Ytoglcohdanpciaa


/- Walks of the eye: counted, truth, and the three closures that attempt is handed. -/
namespace Go.Proofs.Ytoglcohdanpciaa
open Go.RowKit

def rdNum (n : Int) (zs : List Int) : Except Int (Int × List Int) :=
  if ¬ (1 ≤ n ∧ n ≤ 7) then .error 1 else if zs.length < n.toNat then .error 2 else .ok (val (zs.take n.toNat), zs.drop n.toNat)
def rdCount (most : Int) (zs : List Int) : Except Int (List Int × List Int) :=
  if most < 0 then .error 1 else if zs.length < 2 then .error 2 else if most < val (zs.take 2) then .error 3
  else if (zs.drop 2).length < (val (zs.take 2)).toNat then .error 2 else .ok ((zs.drop 2).take (val (zs.take 2)).toNat, (zs.drop 2).drop (val (zs.take 2)).toNat)
def rdBool (zs : List Int) : Except Int (Bool × List Int) :=
  if zs.length < 1 then .error 2 else if 1 < val (zs.take 1) then .error 4 else .ok (val (zs.take 1) == 1, zs.drop 1)

/-- What a reader leaves: it gave up, or it read something, and the rest is still to be read. -/
def ReadPost {α : Type} (w : World) (B p : Nat) (v : Value) (bad : Int) (r : Except Int (α × List Int)) (ret : α → World → Ending → Prop) (e : Ending) (w' : World) : Prop :=
  Keeps [p] w w' ∧ match r with
    | .error why => e = gaveUp why ∧ ∃ v2 zs2, EyeAt w' B p v2 zs2 bad
    | .ok (x, rest) => ret x w' e ∧ ∃ v2, EyeAt w' B p v2 rest bad ∧ SameBlk v v2

def retInt (x : Int) (_ : World) (e : Ending) : Prop := e = .returned (.int .i64 x)
def retBool (x : Bool) (_ : World) (e : Ending) : Prop := e = .returned (.bool x)
def retStr (x : List Int) (_ : World) (e : Ending) : Prop := e = .returned (.string (strOfNums x))
def retOld (v : Value) (x : List Int) (w' : World) (e : Ending) : Prop := ∃ a c, e = .returned (.slice a x.length c) ∧ RowAt w' (.slice a x.length c) x ∧ SameBlk v (.slice a x.length c)
def retNew (w : World) (x : List Int) (w' : World) (e : Ending) : Prop := ∃ a c, e = .returned (.slice a x.length c) ∧ RowAt w' (.slice a x.length c) x ∧ ∀ ad, a = some ad → w.heap.size ≤ ad.block

theorem number_read (w : World) (B p : Nat) (v : Value) (zs : List Int) (bad n : Int) (h : EyeAt w B p v zs bad) :
    Calls Try.prog 163 #[.pointer (some ⟨p, 0, none⟩), .int .i64 n] w (ReadPost w B p v bad (rdNum n zs) retInt) := by
  refine (number_any w B p v zs bad n h).mono ?_
  rintro e w' (⟨q1, rfl, rfl⟩ | ⟨q1, q2, q3, rfl, rfl⟩ | ⟨q1, q2, q3, v2, rfl, q4, q5, q6⟩)
  · refine ⟨Keeps.refl _ _, ?_⟩
    rw [rdNum, if_pos q1]
    exact ⟨rfl, v, zs, h⟩
  · refine ⟨Keeps.refl _ _, ?_⟩
    rw [rdNum, if_neg (by simp only [Classical.not_not]; exact ⟨q1, q2⟩), if_pos q3]
    exact ⟨rfl, v, zs, h⟩
  · refine ⟨q6, ?_⟩
    rw [rdNum, if_neg (by simp only [Classical.not_not]; exact ⟨q1, q2⟩), if_neg (by omega)]
    exact ⟨rfl, v2, q4, q5⟩

set_option maxHeartbeats 400000 in
theorem counted_any (w : World) (B p : Nat) (v : Value) (zs : List Int) (bad most : Int) (h : EyeAt w B p v zs bad) :
    Calls Try.prog 174 #[.pointer (some ⟨p, 0, none⟩), .int .i64 most] w (ReadPost w B p v bad (rdCount most zs) (retOld v)) := by
  have H := hid h
  clear h
  by_cases hm : most < 0
  · have e1 : rdCount most zs = .error 1 := by rw [rdCount, if_pos hm]
    have E1 := hid e1
    clear e1
    go_enter Try.func174, Try.ntmps174
    go_wp2_with fail
    exact ⟨rfl, Keeps.refl _ _, by rw [E1.out]; exact ⟨rfl, v, zs, H.out⟩⟩
  · go_enter Try.func174, Try.ntmps174
    go_wp2_with fail
    refine (number_any _ B p v zs bad 2 H.out).mono ?_
    rintro e w1 (⟨q1, rfl, rfl⟩ | ⟨q1, q2, q3, rfl, rfl⟩ | ⟨q1, q2, q3, v2, rfl, q4, q5, q6⟩)
    · exact absurd ⟨by omega, by omega⟩ q1
    · have e1 : rdCount most zs = .error 2 := by rw [rdCount, if_neg (by omega), if_pos (by simpa using q3)]
      have E1 := hid e1
      clear e1 q3
      unfold gaveUp
      go_wp2_with fail
      exact ⟨rfl, Keeps.refl _ _, by rw [E1.out]; exact ⟨rfl, v, zs, H.out⟩⟩
    · have Q4 := hid q4
      have Q5 := hid q5
      have Q6 := hid q6
      have q3' : 2 ≤ zs.length := by simpa using q3
      clear q1 q2 q4 q5 q6 q3
      have hb := val_bound 2 (zs.take 2) (by rw [List.length_take]; omega) (fun z hz => H.out.row.bytes z (List.mem_of_mem_take hz))
      have b0 : 0 ≤ val (zs.take 2) := hb.1
      have b1 : val (zs.take 2) < 65536 := by have := hb.2; simpa using this
      obtain ⟨n, hn⟩ := Int.eq_ofNat_of_zero_le b0
      have HN := hid hn
      have e2 : (2 : Int).toNat = 2 := rfl
      rw [e2, hn]
      rw [hn] at b1
      by_cases hlt : most < n
      · have e1 : rdCount most zs = .error 3 := by rw [rdCount, if_neg (by omega), if_neg (by omega), if_pos (by rw [hn]; exact hlt)]
        have E1 := hid e1
        clear e1 hb b0 hn e2
        go_wp2_with fail
        exact ⟨rfl, Q6.out, by rw [E1.out]; exact ⟨rfl, v2, _, Q4.out⟩⟩
      · clear hb b0 b1 hn e2
        go_wp2_with fail
        refine (take_any _ B p v2 (zs.drop 2) bad n Q4.out).mono ?_
        rintro e w2 (⟨g1, rfl, rfl⟩ | ⟨g1, a1, c1, v3, rfl, g2, g3, g4, g5, g6⟩)
        · have e1 : rdCount most zs = .error 2 := by
            rw [rdCount, if_neg (by omega), if_neg (by omega), if_neg (by rw [HN.out]; omega), if_pos (by rw [HN.out]; exact g1)]
          have E1 := hid e1
          clear e1
          unfold gaveUp
          go_wp2_with fail
          exact ⟨rfl, Q6.out, by rw [E1.out]; exact ⟨rfl, v2, _, Q4.out⟩⟩
        · have e1 : rdCount most zs = .ok ((zs.drop 2).take n, (zs.drop 2).drop n) := by
            rw [rdCount, if_neg (by omega), if_neg (by omega), if_neg (by rw [HN.out]; omega), if_neg (by rw [HN.out]; simp only [Int.toNat_natCast]; omega), HN.out]
            rfl
          have E1 := hid e1
          have G1 := hid g1
          have G2 := hid g2
          have G3 := hid g3
          have G4 := hid g4
          have G5 := hid g5
          have G6 := hid g6
          clear e1 g1 g2 g3 g4 g5 g6
          go_wp2_with fail
          go_ret
          refine ⟨Q6.out.trans G6.out, ?_⟩
          rw [E1.out]
          have hl : ((zs.drop 2).take n).length = n := by rw [List.length_take]; have := G1.out; omega
          refine ⟨⟨a1, c1, by rw [hl]; rfl, by rw [hl]; exact G2.out, ?_⟩, v3, G4.out, Q5.out.trans G5.out⟩
          rw [hl]
          exact Q5.out.trans G3.out

set_option maxHeartbeats 400000 in
theorem truth_any (w : World) (B p : Nat) (v : Value) (zs : List Int) (bad : Int) (h : EyeAt w B p v zs bad) :
    Calls Try.prog 170 #[.pointer (some ⟨p, 0, none⟩)] w (ReadPost w B p v bad (rdBool zs) retBool) := by
  have H := hid h
  clear h
  go_enter Try.func170, Try.ntmps170
  go_wp2_with fail
  refine (number_any _ B p v zs bad 1 H.out).mono ?_
  rintro e w1 (⟨q1, rfl, rfl⟩ | ⟨q1, q2, q3, rfl, rfl⟩ | ⟨q1, q2, q3, v2, rfl, q4, q5, q6⟩)
  · exact absurd ⟨by omega, by omega⟩ q1
  · have e1 : rdBool zs = .error 2 := by rw [rdBool, if_pos (by simpa using q3)]
    have E1 := hid e1
    clear e1 q3
    unfold gaveUp
    go_wp2_with fail
    exact ⟨rfl, Keeps.refl _ _, by rw [E1.out]; exact ⟨rfl, v, zs, H.out⟩⟩
  · have Q4 := hid q4
    have Q5 := hid q5
    have Q6 := hid q6
    have q3' : 1 ≤ zs.length := by simpa using q3
    clear q1 q2 q4 q5 q6 q3
    have e2 : (1 : Int).toNat = 1 := rfl
    rw [e2]
    obtain ⟨n, hn⟩ : ∃ n, n = val (zs.take 1) := ⟨_, rfl⟩
    have HN := hid hn
    rw [← hn]
    clear hn e2
    by_cases hlt : 1 < n
    · have e1 : rdBool zs = .error 4 := by rw [rdBool, if_neg (by omega), if_pos (by rw [← HN.out]; exact hlt)]
      have E1 := hid e1
      clear e1
      go_wp2_with fail
      exact ⟨rfl, Q6.out, by rw [E1.out]; exact ⟨rfl, v2, _, Q4.out⟩⟩
    · have e1 : rdBool zs = .ok (n == 1, zs.drop 1) := by rw [rdBool, if_neg (by omega), if_neg (by rw [← HN.out]; omega), ← HN.out]
      have E1 := hid e1
      clear e1
      go_wp2_with fail
      go_ret
      refine ⟨Q6.out, ?_⟩
      rw [E1.out]
      exact ⟨rfl, v2, Q4.out, Q5.out⟩
end Go.Proofs.Ytoglcohdanpciaa


/- Walks of the eye: the closures that attempt is handed. -/
namespace Go.Proofs.Ytoglcohdanpciaa
open Go.RowKit

theorem conv_row {w : World} {v : Value} {zs : List Int} (h : RowAt w v zs) : (convert 34 9 v).run Try.prog w = .ok (.string (strOfNums zs)) w := by
  by_cases hne : 0 < zs.length
  · obtain ⟨g, off, cap, rfl, h1, h2⟩ := h.open hne
    exact run_convert_bytes_arg w 34 5 Try.underlying34 Try.underlying5 g off zs.length cap zs rfl h2 9 Try.underlying9
  · obtain rfl : zs = [] := List.eq_nil_of_length_eq_zero (by omega)
    obtain ⟨a, cap, rfl, _⟩ := h
    rw [run_convert_bytes_string w 34 9 5 a _ cap Try.underlying34 Try.underlying5 Try.underlying9]
    cases a <;> simp [Conv.bytesToString, loadCells, strOfNums]
    all_goals rfl

set_option maxHeartbeats 400000 in
theorem numC_any (w : World) (B p be bn : Nat) (v : Value) (zs : List Int) (bad n : Int) (h : EyeAt w B p v zs bad)
    (he : w.cell? ⟨be, 0, none⟩ = some (.pointer (some ⟨p, 0, none⟩))) (hn : w.cell? ⟨bn, 0, none⟩ = some (.int .i64 n)) :
    Calls Try.prog 162 #[.pointer (some ⟨be, 0, none⟩), .pointer (some ⟨bn, 0, none⟩)] w (ReadPost w B p v bad (rdNum n zs) retInt) := by
  have H := hid h
  clear h
  go_enter Try.func162, Try.ntmps162
  go_wp2_with fail
  refine (number_read _ B p v zs bad n H.out).mono ?_
  rintro e w1 ⟨q1, q2⟩
  have Q1 := hid q1
  clear q1
  generalize hr : rdNum n zs = r at q2
  have HR := hid hr
  clear hr
  cases r with
  | error why =>
    obtain ⟨rfl, q3⟩ := q2
    have Q3 := hid q3
    clear q3
    unfold gaveUp
    go_wp2_with fail
    exact ⟨rfl, Q1.out, ⟨rfl, Q3.out⟩⟩
  | ok x =>
    obtain ⟨x, rest⟩ := x
    obtain ⟨rfl, q3⟩ := q2
    have Q3 := hid q3
    clear q3
    go_wp2_with fail
    go_ret
    exact ⟨Q1.out, by rw [HR.out]; exact ⟨rfl, Q3.out⟩⟩

set_option maxHeartbeats 400000 in
theorem textC_any (w : World) (B p be bn : Nat) (v : Value) (zs : List Int) (bad n : Int) (h : EyeAt w B p v zs bad)
    (he : w.cell? ⟨be, 0, none⟩ = some (.pointer (some ⟨p, 0, none⟩))) (hn : w.cell? ⟨bn, 0, none⟩ = some (.int .i64 n)) :
    Calls Try.prog 180 #[.pointer (some ⟨be, 0, none⟩), .pointer (some ⟨bn, 0, none⟩)] w (ReadPost w B p v bad (rdCount n zs) retStr) := by
  have H := hid h
  clear h
  go_enter Try.func180, Try.ntmps180
  go_wp2_with fail
  refine (counted_any _ B p v zs bad n H.out).mono ?_
  rintro e w1 ⟨q1, q2⟩
  have Q1 := hid q1
  clear q1
  generalize hr : rdCount n zs = r at q2
  have HR := hid hr
  clear hr
  cases r with
  | error why =>
    obtain ⟨rfl, q3⟩ := q2
    have Q3 := hid q3
    clear q3
    unfold gaveUp
    go_wp2_with fail
    exact ⟨rfl, Q1.out, ⟨rfl, Q3.out⟩⟩
  | ok x =>
    obtain ⟨x, rest⟩ := x
    obtain ⟨⟨a, c, rfl, q4, q5⟩, q3⟩ := q2
    have Q3 := hid q3
    have cv := conv_row q4
    clear q3 q4 q5
    go_wp2_with fail
    go_ret
    exact ⟨Q1.out, by rw [HR.out]; exact ⟨rfl, Q3.out⟩⟩

theorem rdCount_le {most : Int} {zs x rest : List Int} (h : rdCount most zs = .ok (x, rest)) : x.length ≤ zs.length ∧ rest.length ≤ zs.length := by
  unfold rdCount at h
  repeat (split at h; · cases h)
  injection h with h
  injection h with h1 h2
  subst h1; subst h2
  simp only [List.length_take, List.length_drop]
  omega

set_option maxHeartbeats 400000 in
theorem rawC_any (w : World) (B p be bn : Nat) (v : Value) (zs : List Int) (bad n : Int) (h : EyeAt w B p v zs bad)
    (he : w.cell? ⟨be, 0, none⟩ = some (.pointer (some ⟨p, 0, none⟩))) (hn : w.cell? ⟨bn, 0, none⟩ = some (.int .i64 n)) :
    Calls Try.prog 173 #[.pointer (some ⟨be, 0, none⟩), .pointer (some ⟨bn, 0, none⟩)] w (ReadPost w B p v bad (rdCount n zs) (retNew w)) := by
  have H := hid h
  clear h
  go_enter Try.func173, Try.ntmps173
  go_wp2_with fail
  refine (counted_any _ B p v zs bad n H.out).mono ?_
  rintro e w1 ⟨q1, q2⟩
  have Q1 := hid q1
  clear q1
  generalize hr : rdCount n zs = r at q2
  have HR := hid hr
  clear hr
  cases r with
  | error why =>
    obtain ⟨rfl, q3⟩ := q2
    have Q3 := hid q3
    clear q3
    unfold gaveUp
    go_wp2_with fail
    exact ⟨rfl, Q1.out, ⟨rfl, Q3.out⟩⟩
  | ok x =>
    obtain ⟨x, rest⟩ := x
    obtain ⟨⟨a, c, rfl, q4, q5⟩, v2, q6, q7⟩ := q2
    have Q4 := hid q4
    have Q6 := hid q6
    have Q7 := hid q7
    clear q4 q5 q6 q7
    go_wp2_with fail
    refine (clone_any _ _ x Q4.out (by have := (rdCount_le HR.out).1; have := H.out.fits; omega)).mono ?_
    rintro e w2 ⟨a2, c2, rfl, g1, g2, g3⟩
    have G1 := hid g1
    have G2 := hid g2
    have G3 := hid g3
    clear g1 g2 g3
    go_wp2_with fail
    go_ret
    refine ⟨Q1.out.trans (G3.out.mono (by simp)), ?_⟩
    rw [HR.out]
    refine ⟨⟨a2, c2, rfl, G1.out, fun ad had => ?_⟩, v2, Q6.out.keep G3.out (by simp) (by intro _ _ _ _ _; simp), Q7.out⟩
    have := G2.out ad had
    have := Q1.out.size
    omega
end Go.Proofs.Ytoglcohdanpciaa


/- Walks of the eye: Fail, Left, End, and attempt. -/
namespace Go.Proofs.Ytoglcohdanpciaa
open Go.RowKit

theorem fail_any (w : World) (B p : Nat) (v : Value) (zs : List Int) (bad : Int) (h : EyeAt w B p v zs bad) :
    Calls Try.prog 110 #[.pointer (some ⟨p, 0, none⟩)] w fun e w' => e = .returned (.int .i64 bad) ∧ w = w' := by
  have c1 := h.cell1
  have c2 := h.cell2
  clear h
  go_enter Try.func110, Try.ntmps110
  go_wp2_with fail
  go_ret
  exact ⟨rfl, rfl⟩

theorem left_any (w : World) (B p : Nat) (v : Value) (zs : List Int) (bad : Int) (h : EyeAt w B p v zs bad) :
    Calls Try.prog 175 #[.pointer (some ⟨p, 0, none⟩)] w fun e w' => e = .returned (.int .i64 zs.length) ∧ w = w' := by
  have c0 := h.cell0
  have hf := h.fits
  obtain ⟨a, cap, rfl, _⟩ := h.row
  clear h
  go_enter Try.func175, Try.ntmps175
  go_wp2_with fail
  go_ret
  exact ⟨rfl, rfl⟩

def endOf (zs : List Int) (bad : Int) : Int := if bad = 0 then (if zs.length = 0 then 0 else 3) else bad

set_option maxHeartbeats 400000 in
theorem end_any (w : World) (B p : Nat) (v : Value) (zs : List Int) (bad : Int) (h : EyeAt w B p v zs bad) :
    Calls Try.prog 135 #[.pointer (some ⟨p, 0, none⟩)] w fun e w' => e = .returned (.int .i64 (endOf zs bad)) ∧ w = w' := by
  have H := hid h
  clear h
  by_cases hb : bad = 0
  · subst hb
    by_cases hz : zs.length = 0
    · have e1 : endOf zs 0 = 0 := by simp [endOf, hz]
      have E1 := hid e1
      have hz' : ¬ (0 : Int) < zs.length := by omega
      clear e1 hz
      go_enter Try.func135, Try.ntmps135
      go_wp2_with fail
      refine (fail_any _ B p v zs 0 H.out).mono ?_
      rintro e w1 ⟨rfl, rfl⟩
      go_wp2_with fail
      refine (left_any _ B p v zs 0 H.out).mono ?_
      rintro e w1 ⟨rfl, rfl⟩
      go_wp2_with fail
      go_ret
      exact ⟨by rw [E1.out]; rfl, rfl⟩
    · have e1 : endOf zs 0 = 3 := by simp only [endOf, if_true, if_neg hz]
      have E1 := hid e1
      have hz' : (0 : Int) < zs.length := by omega
      clear e1 hz
      go_enter Try.func135, Try.ntmps135
      go_wp2_with fail
      refine (fail_any _ B p v zs 0 H.out).mono ?_
      rintro e w1 ⟨rfl, rfl⟩
      go_wp2_with fail
      refine (left_any _ B p v zs 0 H.out).mono ?_
      rintro e w1 ⟨rfl, rfl⟩
      go_wp2_with fail
      go_ret
      exact ⟨by rw [E1.out]; rfl, rfl⟩
  · have e1 : endOf zs bad = bad := by rw [endOf, if_neg hb]
    have E1 := hid e1
    have hb1 : (bad == 0) = false := by simpa using hb
    clear e1 hb
    go_enter Try.func135, Try.ntmps135
    go_wp2_with fail
    refine (fail_any _ B p v zs bad H.out).mono ?_
    rintro e w1 ⟨rfl, rfl⟩
    go_wp2_with fail
    go_ret
    exact ⟨by rw [E1.out]; rfl, rfl⟩
end Go.Proofs.Ytoglcohdanpciaa


/- The walk of attempt, at its four instances. -/
namespace Go.Proofs.Ytoglcohdanpciaa
open Go.RowKit

/-- What a reading call answers, what is left, and the error. -/
def after {α : Type} (zs : List Int) (bad : Int) (r : Except Int (α × List Int)) : Option α × List Int × Int :=
  if bad ≠ 0 then (none, zs, bad) else match r with
    | .error why => (none, zs, why)
    | .ok (x, rest) => (some x, rest, 0)

def EyePost {α : Type} (w : World) (B p : Nat) (v : Value) (st : Option α × List Int × Int) (zero : Value) (ret : α → World → Ending → Prop) (e : Ending) (w' : World) : Prop :=
  (∃ v2, EyeAt w' B p v2 st.2.1 st.2.2 ∧ SameBlk v v2) ∧ Keeps [p] w w' ∧ match st.1 with
    | none => e = .returned zero
    | some x => ret x w' e

theorem Keeps.cell {S : List Nat} {w w' : World} (k : Keeps S w w') {a : Addr} {v : Value} (h : w.cell? a = some v) (hs : a.block ∉ S) : w'.cell? a = some v := by
  rw [World.cell?_of_block (w := w) (k.block _ (World.block_lt_of_cell? _ _ h) hs)]
  exact h

theorem two_new (w : World) (x y : Value) (T U : TypeId) : ((w.alloc (.cells #[x] T)).alloc (.cells #[y] U)).cell? ⟨w.heap.size, 0, none⟩ = some x ∧
    ((w.alloc (.cells #[x] T)).alloc (.cells #[y] U)).cell? ⟨w.heap.size + 1, 0, none⟩ = some y := by
  have h1 := heap_alloc_new w (.cells #[x] T)
  have h2 := heap_alloc_new (w.alloc (.cells #[x] T)) (.cells #[y] U)
  have h3 := Below.heap_alloc (w.alloc (.cells #[x] T)) (.cells #[y] U) w.heap.size (by rw [World.size_alloc]; omega)
  have e : (w.alloc (.cells #[x] T)).heap.size = w.heap.size + 1 := by simp
  rw [e] at h2
  constructor
  · exact cell_of_one (h3.trans h1)
  · exact cell_of_one h2

/-- The eye as the deferred closure leaves it. -/
theorem EyeAt.back {w w3 : World} {B p : Nat} {v v2 : Value} {zs zs2 : List Int} {bad bad2 : Int} (h : EyeAt w B p v zs bad) (k : Keeps [p] w w3) (h3 : EyeAt w3 B p v2 zs2 bad2) (why : Int) :
    EyeAt ((w3.setCell ⟨p, 0, none⟩ v).setCell ⟨p, 1, none⟩ (.int .i64 why)) B p v zs why ∧ Keeps [p] w ((w3.setCell ⟨p, 0, none⟩ v).setCell ⟨p, 1, none⟩ (.int .i64 why)) := by
  have k' : Keeps [p] w ((w3.setCell ⟨p, 0, none⟩ v).setCell ⟨p, 1, none⟩ (.int .i64 why)) := (k.setCell (Or.inl (by simp)) _).setCell (Or.inl (by simp)) _
  exact ⟨⟨(heap_three (heap_three h3.blk _).1 _).2, h.row.keep k' h.off, h.off, h.lo, h.fits⟩, k'⟩

set_option maxHeartbeats 800000 in
theorem attInt_any (w : World) (B p be bn : Nat) (v : Value) (zs : List Int) (bad n : Int) (h : EyeAt w B p v zs bad)
    (he : w.cell? ⟨be, 0, none⟩ = some (.pointer (some ⟨p, 0, none⟩))) (hn : w.cell? ⟨bn, 0, none⟩ = some (.int .i64 n)) :
    Calls Try.prog 161 #[.pointer (some ⟨p, 0, none⟩), .func (.func 162) #[] #[.pointer (some ⟨be, 0, none⟩), .pointer (some ⟨bn, 0, none⟩)]] w
      (EyePost w B p v (after zs bad (rdNum n zs)) (.int .i64 0) retInt) := by
  have H := hid h
  have HE := hid he
  have HN := hid hn
  have hmf : ∀ (fn : Fn) (first cap : Array Value) (w : World), (Instr.makeFunc fn first cap).run Try.prog w = .ok (.func fn first cap) w := fun _ _ _ _ => rfl
  have K1 := (Keeps.refl [] w).alloc (.cells #[.pointer (some ⟨p, 0, none⟩)] 136)
  have H1 := hid (h.keep K1 (by simp) (by intro _ _ _ _ _; simp))
  have c0 := h.cell0
  obtain ⟨a, cap, rfl, _⟩ := h.row
  have hp := h.lt
  clear h he hn
  by_cases hb : bad = 0
  · subst hb
    go_enter_defers Try.func161, Try.ntmps161
    go_wp2_with fail
    refine (fail_any _ B p _ zs 0 H1.out).mono ?_
    rintro e w1 ⟨rfl, rfl⟩
    have c0' : (w.alloc (.cells #[.pointer (some ⟨p, 0, none⟩)] 136)).cell? ⟨p, 0, none⟩ = some (.slice a zs.length cap) := H1.out.cell0
    go_wp2_with fail
    have K2 : Keeps [] w ((w.alloc (.cells #[.pointer (some ⟨p, 0, none⟩)] 136)).alloc (.cells #[.slice a zs.length cap] 34)) := K1.alloc _
    refine (numC_any _ B p be bn _ zs 0 n (H.out.keep K2 (by simp) (by intro _ _ _ _ _; simp)) (K2.cell HE.out (by simp)) (K2.cell HN.out (by simp))).mono ?_
    have K2H := hid K2
    clear K1 K2 c0'
    rintro e w3 ⟨q1, q2⟩
    have q1' := hid q1
    have x0 : w3.cell? ⟨w.heap.size, 0, none⟩ = some (.pointer (some ⟨p, 0, none⟩)) := q1.cell (two_new _ _ _ _ _).1 (by simp; omega)
    have x1 : w3.cell? ⟨w.heap.size + 1, 0, none⟩ = some (.slice a zs.length cap) := q1.cell (two_new _ _ _ _ _).2 (by simp; omega)
    have X0 := hid x0
    have X1 := hid x1
    clear x0 x1 q1
    generalize hr : rdNum n zs = r at q2
    have HR := hid hr
    clear hr
    cases r with
    | error why =>
      obtain ⟨rfl, v2, zs2, q3⟩ := q2
      have Q3 := hid q3
      clear q3
      unfold gaveUp
      go_wp2_with fail
      refine leaves_cons (f := 185) (args := #[.pointer (some ⟨w.heap.size + 1, 0, none⟩), .pointer (some ⟨w.heap.size, 0, none⟩)]) (by simp) (by simp [go_sem]) ?_
      refine (catchInt_panicking p (w.heap.size + 1) w.heap.size _ _ _ why [] w3 Q3.out.blk ⟨_, _, _, rfl⟩ X1.out X0.out).mono ?_
      rintro e u' w4 ⟨rfl, rfl, rfl⟩
      have kk : Keeps [p] w w3 := (K2H.out.mono (by simp)).trans q1'.out
      have hb := H.out.back kk Q3.out why
      refine ⟨_, results_tmp rfl _ _ _, ⟨_, ?_, SameBlk.refl _⟩, hb.2, ?_⟩
      · have e1 : after zs 0 (Except.error why : Except Int (Int × List Int)) = (none, zs, why) := by simp [after]
        rw [e1]
        exact hb.1
      · simp [after]
    | ok x =>
      obtain ⟨x, rest⟩ := x
      obtain ⟨rfl, v2, q3, q4⟩ := q2
      have Q3 := hid q3
      have Q4 := hid q4
      clear q3 q4
      go_wp2_with fail
      refine leaves_cons (f := 185) (args := #[.pointer (some ⟨w.heap.size + 1, 0, none⟩), .pointer (some ⟨w.heap.size, 0, none⟩)]) (by simp) (by simp [go_sem]) ?_
      refine (catchInt_idle _ _ w3).mono ?_
      rintro e u' w4 ⟨rfl, rfl, rfl⟩
      have kk : Keeps [p] w w4 := (K2H.out.mono (by simp)).trans q1'.out
      rw [HR.out]
      refine ⟨_, results_tmp rfl _ _ _, ?_, kk, ?_⟩
      · have e1 : after zs 0 (Except.ok (x, rest) : Except Int (Int × List Int)) = (some x, rest, 0) := by simp [after]
        rw [e1]
        exact ⟨v2, Q3.out, Q4.out⟩
      · simp [after, retInt]
  · have hb1 : (bad == 0) = false := by simpa using hb
    have hb2 : (bad != 0) = true := by simpa using hb
    have HB := hid hb
    clear hb
    go_enter_defers Try.func161, Try.ntmps161
    go_wp2_with fail
    refine (fail_any _ B p _ zs bad H1.out).mono ?_
    rintro e w1 ⟨rfl, rfl⟩
    go_wp2_with fail
    refine ⟨_, results_tmp rfl _ _ _, ?_⟩
    have e1 : after zs bad (rdNum n zs) = (none, zs, bad) := by unfold after; rw [if_pos HB.out]
    rw [e1]
    exact ⟨⟨_, H1.out, SameBlk.refl _⟩, K1.mono (by simp), rfl⟩
set_option maxHeartbeats 800000 in
theorem attStr_any (w : World) (B p be bn : Nat) (v : Value) (zs : List Int) (bad n : Int) (h : EyeAt w B p v zs bad)
    (he : w.cell? ⟨be, 0, none⟩ = some (.pointer (some ⟨p, 0, none⟩))) (hn : w.cell? ⟨bn, 0, none⟩ = some (.int .i64 n)) :
    Calls Try.prog 179 #[.pointer (some ⟨p, 0, none⟩), .func (.func 180) #[] #[.pointer (some ⟨be, 0, none⟩), .pointer (some ⟨bn, 0, none⟩)]] w
      (EyePost w B p v (after zs bad (rdCount n zs)) (.string ⟨#[]⟩) retStr) := by
  have H := hid h
  have HE := hid he
  have HN := hid hn
  have hmf : ∀ (fn : Fn) (first cap : Array Value) (w : World), (Instr.makeFunc fn first cap).run Try.prog w = .ok (.func fn first cap) w := fun _ _ _ _ => rfl
  have K1 := (Keeps.refl [] w).alloc (.cells #[.pointer (some ⟨p, 0, none⟩)] 136)
  have H1 := hid (h.keep K1 (by simp) (by intro _ _ _ _ _; simp))
  have c0 := h.cell0
  obtain ⟨a, cap, rfl, _⟩ := h.row
  have hp := h.lt
  clear h he hn
  by_cases hb : bad = 0
  · subst hb
    go_enter_defers Try.func179, Try.ntmps179
    go_wp2_with fail
    refine (fail_any _ B p _ zs 0 H1.out).mono ?_
    rintro e w1 ⟨rfl, rfl⟩
    have c0' : (w.alloc (.cells #[.pointer (some ⟨p, 0, none⟩)] 136)).cell? ⟨p, 0, none⟩ = some (.slice a zs.length cap) := H1.out.cell0
    go_wp2_with fail
    have K2 : Keeps [] w ((w.alloc (.cells #[.pointer (some ⟨p, 0, none⟩)] 136)).alloc (.cells #[.slice a zs.length cap] 34)) := K1.alloc _
    refine (textC_any _ B p be bn _ zs 0 n (H.out.keep K2 (by simp) (by intro _ _ _ _ _; simp)) (K2.cell HE.out (by simp)) (K2.cell HN.out (by simp))).mono ?_
    have K2H := hid K2
    clear K1 K2 c0'
    rintro e w3 ⟨q1, q2⟩
    have q1' := hid q1
    have x0 : w3.cell? ⟨w.heap.size, 0, none⟩ = some (.pointer (some ⟨p, 0, none⟩)) := q1.cell (two_new _ _ _ _ _).1 (by simp; omega)
    have x1 : w3.cell? ⟨w.heap.size + 1, 0, none⟩ = some (.slice a zs.length cap) := q1.cell (two_new _ _ _ _ _).2 (by simp; omega)
    have X0 := hid x0
    have X1 := hid x1
    clear x0 x1 q1
    generalize hr : rdCount n zs = r at q2
    have HR := hid hr
    clear hr
    cases r with
    | error why =>
      obtain ⟨rfl, v2, zs2, q3⟩ := q2
      have Q3 := hid q3
      clear q3
      unfold gaveUp
      go_wp2_with fail
      refine leaves_cons (f := 194) (args := #[.pointer (some ⟨w.heap.size + 1, 0, none⟩), .pointer (some ⟨w.heap.size, 0, none⟩)]) (by simp) (by simp [go_sem]) ?_
      refine (catchStr_panicking p (w.heap.size + 1) w.heap.size _ _ _ why [] w3 Q3.out.blk ⟨_, _, _, rfl⟩ X1.out X0.out).mono ?_
      rintro e u' w4 ⟨rfl, rfl, rfl⟩
      have kk : Keeps [p] w w3 := (K2H.out.mono (by simp)).trans q1'.out
      have hb := H.out.back kk Q3.out why
      refine ⟨_, results_tmp rfl _ _ _, ⟨_, ?_, SameBlk.refl _⟩, hb.2, ?_⟩
      · have e1 : after zs 0 (Except.error why : Except Int (List Int × List Int)) = (none, zs, why) := by simp [after]
        rw [e1]
        exact hb.1
      · simp [after]
    | ok x =>
      obtain ⟨x, rest⟩ := x
      obtain ⟨rfl, v2, q3, q4⟩ := q2
      have Q3 := hid q3
      have Q4 := hid q4
      clear q3 q4
      go_wp2_with fail
      refine leaves_cons (f := 194) (args := #[.pointer (some ⟨w.heap.size + 1, 0, none⟩), .pointer (some ⟨w.heap.size, 0, none⟩)]) (by simp) (by simp [go_sem]) ?_
      refine (catchStr_idle _ _ w3).mono ?_
      rintro e u' w4 ⟨rfl, rfl, rfl⟩
      have kk : Keeps [p] w w4 := (K2H.out.mono (by simp)).trans q1'.out
      rw [HR.out]
      refine ⟨_, results_tmp rfl _ _ _, ?_, kk, ?_⟩
      · have e1 : after zs 0 (Except.ok (x, rest) : Except Int (List Int × List Int)) = (some x, rest, 0) := by simp [after]
        rw [e1]
        exact ⟨v2, Q3.out, Q4.out⟩
      · simp [after, retStr]
  · have hb1 : (bad == 0) = false := by simpa using hb
    have hb2 : (bad != 0) = true := by simpa using hb
    have HB := hid hb
    clear hb
    go_enter_defers Try.func179, Try.ntmps179
    go_wp2_with fail
    refine (fail_any _ B p _ zs bad H1.out).mono ?_
    rintro e w1 ⟨rfl, rfl⟩
    go_wp2_with fail
    refine ⟨_, results_tmp rfl _ _ _, ?_⟩
    have e1 : after zs bad (rdCount n zs) = (none, zs, bad) := by unfold after; rw [if_pos HB.out]
    rw [e1]
    exact ⟨⟨_, H1.out, SameBlk.refl _⟩, K1.mono (by simp), rfl⟩
set_option maxHeartbeats 800000 in
theorem attRaw_any (w : World) (B p be bn : Nat) (v : Value) (zs : List Int) (bad n : Int) (h : EyeAt w B p v zs bad)
    (he : w.cell? ⟨be, 0, none⟩ = some (.pointer (some ⟨p, 0, none⟩))) (hn : w.cell? ⟨bn, 0, none⟩ = some (.int .i64 n)) :
    Calls Try.prog 172 #[.pointer (some ⟨p, 0, none⟩), .func (.func 173) #[] #[.pointer (some ⟨be, 0, none⟩), .pointer (some ⟨bn, 0, none⟩)]] w
      (EyePost w B p v (after zs bad (rdCount n zs)) (.slice none 0 0) (retNew w)) := by
  have H := hid h
  have HE := hid he
  have HN := hid hn
  have hmf : ∀ (fn : Fn) (first cap : Array Value) (w : World), (Instr.makeFunc fn first cap).run Try.prog w = .ok (.func fn first cap) w := fun _ _ _ _ => rfl
  have K1 := (Keeps.refl [] w).alloc (.cells #[.pointer (some ⟨p, 0, none⟩)] 136)
  have H1 := hid (h.keep K1 (by simp) (by intro _ _ _ _ _; simp))
  have c0 := h.cell0
  obtain ⟨a, cap, rfl, _⟩ := h.row
  have hp := h.lt
  clear h he hn
  by_cases hb : bad = 0
  · subst hb
    go_enter_defers Try.func172, Try.ntmps172
    go_wp2_with fail
    refine (fail_any _ B p _ zs 0 H1.out).mono ?_
    rintro e w1 ⟨rfl, rfl⟩
    have c0' : (w.alloc (.cells #[.pointer (some ⟨p, 0, none⟩)] 136)).cell? ⟨p, 0, none⟩ = some (.slice a zs.length cap) := H1.out.cell0
    go_wp2_with fail
    have K2 : Keeps [] w ((w.alloc (.cells #[.pointer (some ⟨p, 0, none⟩)] 136)).alloc (.cells #[.slice a zs.length cap] 34)) := K1.alloc _
    refine (rawC_any _ B p be bn _ zs 0 n (H.out.keep K2 (by simp) (by intro _ _ _ _ _; simp)) (K2.cell HE.out (by simp)) (K2.cell HN.out (by simp))).mono ?_
    have K2H := hid K2
    clear K1 K2 c0'
    rintro e w3 ⟨q1, q2⟩
    have q1' := hid q1
    have x0 : w3.cell? ⟨w.heap.size, 0, none⟩ = some (.pointer (some ⟨p, 0, none⟩)) := q1.cell (two_new _ _ _ _ _).1 (by simp; omega)
    have x1 : w3.cell? ⟨w.heap.size + 1, 0, none⟩ = some (.slice a zs.length cap) := q1.cell (two_new _ _ _ _ _).2 (by simp; omega)
    have X0 := hid x0
    have X1 := hid x1
    clear x0 x1 q1
    generalize hr : rdCount n zs = r at q2
    have HR := hid hr
    clear hr
    cases r with
    | error why =>
      obtain ⟨rfl, v2, zs2, q3⟩ := q2
      have Q3 := hid q3
      clear q3
      unfold gaveUp
      go_wp2_with fail
      refine leaves_cons (f := 190) (args := #[.pointer (some ⟨w.heap.size + 1, 0, none⟩), .pointer (some ⟨w.heap.size, 0, none⟩)]) (by simp) (by simp [go_sem]) ?_
      refine (catchRaw_panicking p (w.heap.size + 1) w.heap.size _ _ _ why [] w3 Q3.out.blk ⟨_, _, _, rfl⟩ X1.out X0.out).mono ?_
      rintro e u' w4 ⟨rfl, rfl, rfl⟩
      have kk : Keeps [p] w w3 := (K2H.out.mono (by simp)).trans q1'.out
      have hb := H.out.back kk Q3.out why
      refine ⟨_, results_tmp rfl _ _ _, ⟨_, ?_, SameBlk.refl _⟩, hb.2, ?_⟩
      · have e1 : after zs 0 (Except.error why : Except Int (List Int × List Int)) = (none, zs, why) := by simp [after]
        rw [e1]
        exact hb.1
      · simp [after]
    | ok x =>
      obtain ⟨x, rest⟩ := x
      obtain ⟨⟨ra, rc, rfl, r1, r2⟩, v2, q3, q4⟩ := q2
      have R1 := hid r1
      have R2 := hid r2
      have Q3 := hid q3
      have Q4 := hid q4
      clear q3 q4 r1 r2
      go_wp2_with fail
      refine leaves_cons (f := 190) (args := #[.pointer (some ⟨w.heap.size + 1, 0, none⟩), .pointer (some ⟨w.heap.size, 0, none⟩)]) (by simp) (by simp [go_sem]) ?_
      refine (catchRaw_idle _ _ w3).mono ?_
      rintro e u' w4 ⟨rfl, rfl, rfl⟩
      have kk : Keeps [p] w w4 := (K2H.out.mono (by simp)).trans q1'.out
      rw [HR.out]
      refine ⟨_, results_tmp rfl _ _ _, ?_, kk, ?_⟩
      · have e1 : after zs 0 (Except.ok (x, rest) : Except Int (List Int × List Int)) = (some x, rest, 0) := by simp [after]
        rw [e1]
        exact ⟨v2, Q3.out, Q4.out⟩
      · exact ⟨ra, rc, rfl, R1.out, fun ad had => by have := R2.out ad had; simp at this; omega⟩
  · have hb1 : (bad == 0) = false := by simpa using hb
    have hb2 : (bad != 0) = true := by simpa using hb
    have HB := hid hb
    clear hb
    go_enter_defers Try.func172, Try.ntmps172
    go_wp2_with fail
    refine (fail_any _ B p _ zs bad H1.out).mono ?_
    rintro e w1 ⟨rfl, rfl⟩
    go_wp2_with fail
    refine ⟨_, results_tmp rfl _ _ _, ?_⟩
    have e1 : after zs bad (rdCount n zs) = (none, zs, bad) := by unfold after; rw [if_pos HB.out]
    rw [e1]
    exact ⟨⟨_, H1.out, SameBlk.refl _⟩, K1.mono (by simp), rfl⟩
set_option maxHeartbeats 800000 in
theorem attBool_any (w : World) (B p : Nat) (v : Value) (zs : List Int) (bad : Int) (h : EyeAt w B p v zs bad) :
    Calls Try.prog 169 #[.pointer (some ⟨p, 0, none⟩), .func (.func 170) #[.pointer (some ⟨p, 0, none⟩)] #[]] w
      (EyePost w B p v (after zs bad (rdBool zs)) (.bool false) retBool) := by
  have H := hid h
  have hmf : ∀ (fn : Fn) (first cap : Array Value) (w : World), (Instr.makeFunc fn first cap).run Try.prog w = .ok (.func fn first cap) w := fun _ _ _ _ => rfl
  have K1 := (Keeps.refl [] w).alloc (.cells #[.pointer (some ⟨p, 0, none⟩)] 136)
  have H1 := hid (h.keep K1 (by simp) (by intro _ _ _ _ _; simp))
  have c0 := h.cell0
  obtain ⟨a, cap, rfl, _⟩ := h.row
  have hp := h.lt
  clear h
  by_cases hb : bad = 0
  · subst hb
    go_enter_defers Try.func169, Try.ntmps169
    go_wp2_with fail
    refine (fail_any _ B p _ zs 0 H1.out).mono ?_
    rintro e w1 ⟨rfl, rfl⟩
    have c0' : (w.alloc (.cells #[.pointer (some ⟨p, 0, none⟩)] 136)).cell? ⟨p, 0, none⟩ = some (.slice a zs.length cap) := H1.out.cell0
    go_wp2_with fail
    have K2 : Keeps [] w ((w.alloc (.cells #[.pointer (some ⟨p, 0, none⟩)] 136)).alloc (.cells #[.slice a zs.length cap] 34)) := K1.alloc _
    refine (truth_any _ B p _ zs 0 (H.out.keep K2 (by simp) (by intro _ _ _ _ _; simp))).mono ?_
    have K2H := hid K2
    clear K1 K2 c0'
    rintro e w3 ⟨q1, q2⟩
    have q1' := hid q1
    have x0 : w3.cell? ⟨w.heap.size, 0, none⟩ = some (.pointer (some ⟨p, 0, none⟩)) := q1.cell (two_new _ _ _ _ _).1 (by simp; omega)
    have x1 : w3.cell? ⟨w.heap.size + 1, 0, none⟩ = some (.slice a zs.length cap) := q1.cell (two_new _ _ _ _ _).2 (by simp; omega)
    have X0 := hid x0
    have X1 := hid x1
    clear x0 x1 q1
    generalize hr : rdBool zs = r at q2
    have HR := hid hr
    clear hr
    cases r with
    | error why =>
      obtain ⟨rfl, v2, zs2, q3⟩ := q2
      have Q3 := hid q3
      clear q3
      unfold gaveUp
      go_wp2_with fail
      refine leaves_cons (f := 189) (args := #[.pointer (some ⟨w.heap.size + 1, 0, none⟩), .pointer (some ⟨w.heap.size, 0, none⟩)]) (by simp) (by simp [go_sem]) ?_
      refine (catchBool_panicking p (w.heap.size + 1) w.heap.size _ _ _ why [] w3 Q3.out.blk ⟨_, _, _, rfl⟩ X1.out X0.out).mono ?_
      rintro e u' w4 ⟨rfl, rfl, rfl⟩
      have kk : Keeps [p] w w3 := (K2H.out.mono (by simp)).trans q1'.out
      have hb := H.out.back kk Q3.out why
      refine ⟨_, results_tmp rfl _ _ _, ⟨_, ?_, SameBlk.refl _⟩, hb.2, ?_⟩
      · have e1 : after zs 0 (Except.error why : Except Int (Bool × List Int)) = (none, zs, why) := by simp [after]
        rw [e1]
        exact hb.1
      · simp [after]
    | ok x =>
      obtain ⟨x, rest⟩ := x
      obtain ⟨rfl, v2, q3, q4⟩ := q2
      have Q3 := hid q3
      have Q4 := hid q4
      clear q3 q4
      go_wp2_with fail
      refine leaves_cons (f := 189) (args := #[.pointer (some ⟨w.heap.size + 1, 0, none⟩), .pointer (some ⟨w.heap.size, 0, none⟩)]) (by simp) (by simp [go_sem]) ?_
      refine (catchBool_idle _ _ w3).mono ?_
      rintro e u' w4 ⟨rfl, rfl, rfl⟩
      have kk : Keeps [p] w w4 := (K2H.out.mono (by simp)).trans q1'.out
      rw [HR.out]
      refine ⟨_, results_tmp rfl _ _ _, ?_, kk, ?_⟩
      · have e1 : after zs 0 (Except.ok (x, rest) : Except Int (Bool × List Int)) = (some x, rest, 0) := by simp [after]
        rw [e1]
        exact ⟨v2, Q3.out, Q4.out⟩
      · simp [after, retBool]
  · have hb1 : (bad == 0) = false := by simpa using hb
    have hb2 : (bad != 0) = true := by simpa using hb
    have HB := hid hb
    clear hb
    go_enter_defers Try.func169, Try.ntmps169
    go_wp2_with fail
    refine (fail_any _ B p _ zs bad H1.out).mono ?_
    rintro e w1 ⟨rfl, rfl⟩
    go_wp2_with fail
    refine ⟨_, results_tmp rfl _ _ _, ?_⟩
    have e1 : after zs bad (rdBool zs) = (none, zs, bad) := by unfold after; rw [if_pos HB.out]
    rw [e1]
    exact ⟨⟨_, H1.out, SameBlk.refl _⟩, K1.mono (by simp), rfl⟩
end Go.Proofs.Ytoglcohdanpciaa


/- Walks of the eye: NewEye, Num, Text, Raw, Bool. -/
namespace Go.Proofs.Ytoglcohdanpciaa
open Go.RowKit

set_option maxHeartbeats 400000 in
theorem eyeNum_any (w : World) (B p : Nat) (v : Value) (zs : List Int) (bad n : Int) (h : EyeAt w B p v zs bad) :
    Calls Try.prog 109 #[.pointer (some ⟨p, 0, none⟩), .int .i64 n] w (EyePost w B p v (after zs bad (rdNum n zs)) (.int .i64 0) retInt) := by
  have hmf : ∀ (fn : Fn) (first cap : Array Value) (w : World), (Instr.makeFunc fn first cap).run Try.prog w = .ok (.func fn first cap) w := fun _ _ _ _ => rfl
  have K := hid (((Keeps.refl [] w).alloc (.cells #[.pointer (some ⟨p, 0, none⟩)] 136)).alloc (.cells #[.int .i64 n] 3))
  have H := hid (h.keep K.out (by simp) (by intro _ _ _ _ _; simp))
  have hc := two_new w (.pointer (some ⟨p, 0, none⟩)) (.int .i64 n) 136 3
  have HC := hid hc
  clear h hc
  go_enter Try.func109, Try.ntmps109
  go_wp2_with fail
  refine (attInt_any _ B p w.heap.size (w.heap.size + 1) v zs bad n H.out HC.out.1 HC.out.2).mono ?_
  rintro e w1 ⟨q1, q2, q3⟩
  have Q1 := hid q1
  have Q2 := hid q2
  clear q1 q2
  generalize hst : after zs bad (rdNum n zs) = st at *
  obtain ⟨o, rest⟩ := st
  cases o with
  | none =>
    obtain rfl := q3
    clear hst
    go_wp2_with fail
    go_ret
    exact ⟨Q1.out, (K.out.mono (by simp)).trans Q2.out, rfl⟩
  | some x =>
    obtain rfl := q3
    clear hst
    go_wp2_with fail
    go_ret
    exact ⟨Q1.out, (K.out.mono (by simp)).trans Q2.out, rfl⟩

set_option maxHeartbeats 400000 in
theorem eyeText_any (w : World) (B p : Nat) (v : Value) (zs : List Int) (bad n : Int) (h : EyeAt w B p v zs bad) :
    Calls Try.prog 145 #[.pointer (some ⟨p, 0, none⟩), .int .i64 n] w (EyePost w B p v (after zs bad (rdCount n zs)) (.string ⟨#[]⟩) retStr) := by
  have hmf : ∀ (fn : Fn) (first cap : Array Value) (w : World), (Instr.makeFunc fn first cap).run Try.prog w = .ok (.func fn first cap) w := fun _ _ _ _ => rfl
  have K := hid (((Keeps.refl [] w).alloc (.cells #[.pointer (some ⟨p, 0, none⟩)] 136)).alloc (.cells #[.int .i64 n] 3))
  have H := hid (h.keep K.out (by simp) (by intro _ _ _ _ _; simp))
  have hc := two_new w (.pointer (some ⟨p, 0, none⟩)) (.int .i64 n) 136 3
  have HC := hid hc
  clear h hc
  go_enter Try.func145, Try.ntmps145
  go_wp2_with fail
  refine (attStr_any _ B p w.heap.size (w.heap.size + 1) v zs bad n H.out HC.out.1 HC.out.2).mono ?_
  rintro e w1 ⟨q1, q2, q3⟩
  have Q1 := hid q1
  have Q2 := hid q2
  clear q1 q2
  generalize hst : after zs bad (rdCount n zs) = st at *
  obtain ⟨o, rest⟩ := st
  cases o with
  | none =>
    obtain rfl := q3
    clear hst
    go_wp2_with fail
    go_ret
    exact ⟨Q1.out, (K.out.mono (by simp)).trans Q2.out, rfl⟩
  | some x =>
    obtain rfl := q3
    clear hst
    go_wp2_with fail
    go_ret
    exact ⟨Q1.out, (K.out.mono (by simp)).trans Q2.out, rfl⟩

set_option maxHeartbeats 400000 in
theorem eyeRaw_any (w : World) (B p : Nat) (v : Value) (zs : List Int) (bad n : Int) (h : EyeAt w B p v zs bad) :
    Calls Try.prog 133 #[.pointer (some ⟨p, 0, none⟩), .int .i64 n] w (EyePost w B p v (after zs bad (rdCount n zs)) (.slice none 0 0) (retNew w)) := by
  have hmf : ∀ (fn : Fn) (first cap : Array Value) (w : World), (Instr.makeFunc fn first cap).run Try.prog w = .ok (.func fn first cap) w := fun _ _ _ _ => rfl
  have K := hid (((Keeps.refl [] w).alloc (.cells #[.pointer (some ⟨p, 0, none⟩)] 136)).alloc (.cells #[.int .i64 n] 3))
  have H := hid (h.keep K.out (by simp) (by intro _ _ _ _ _; simp))
  have hc := two_new w (.pointer (some ⟨p, 0, none⟩)) (.int .i64 n) 136 3
  have HC := hid hc
  clear h hc
  go_enter Try.func133, Try.ntmps133
  go_wp2_with fail
  refine (attRaw_any _ B p w.heap.size (w.heap.size + 1) v zs bad n H.out HC.out.1 HC.out.2).mono ?_
  rintro e w1 ⟨q1, q2, q3⟩
  have Q1 := hid q1
  have Q2 := hid q2
  clear q1 q2
  generalize hst : after zs bad (rdCount n zs) = st at *
  obtain ⟨o, rest⟩ := st
  cases o with
  | none =>
    obtain rfl := q3
    clear hst
    go_wp2_with fail
    go_ret
    exact ⟨Q1.out, (K.out.mono (by simp)).trans Q2.out, rfl⟩
  | some x =>
    obtain ⟨ra, rc, rfl, r1, r2⟩ := q3
    have R1 := hid r1
    have R2 := hid r2
    clear hst r1 r2
    go_wp2_with fail
    go_ret
    exact ⟨Q1.out, (K.out.mono (by simp)).trans Q2.out, ra, rc, rfl, R1.out, fun ad had => by have := R2.out ad had; simp at this; omega⟩

set_option maxHeartbeats 400000 in
theorem eyeBool_any (w : World) (B p : Nat) (v : Value) (zs : List Int) (bad : Int) (h : EyeAt w B p v zs bad) :
    Calls Try.prog 130 #[.pointer (some ⟨p, 0, none⟩)] w (EyePost w B p v (after zs bad (rdBool zs)) (.bool false) retBool) := by
  have hmf : ∀ (fn : Fn) (first cap : Array Value) (w : World), (Instr.makeFunc fn first cap).run Try.prog w = .ok (.func fn first cap) w := fun _ _ _ _ => rfl
  have H := hid h
  clear h
  go_enter Try.func130, Try.ntmps130
  go_wp2_with fail
  refine (attBool_any _ B p v zs bad H.out).mono ?_
  rintro e w1 ⟨q1, q2, q3⟩
  have Q1 := hid q1
  have Q2 := hid q2
  clear q1 q2
  generalize hst : after zs bad (rdBool zs) = st at *
  obtain ⟨o, rest⟩ := st
  cases o with
  | none =>
    obtain rfl := q3
    clear hst
    go_wp2_with fail
    go_ret
    exact ⟨Q1.out, Q2.out, rfl⟩
  | some x =>
    obtain rfl := q3
    clear hst
    go_wp2_with fail
    go_ret
    exact ⟨Q1.out, Q2.out, rfl⟩

/-- What NewEye leaves. -/
def NewEyePost (w : World) (B : Nat) (zs : List Int) (e : Ending) (w' : World) : Prop :=
  ∃ q v, e = .returned (.pointer (some ⟨q, 0, none⟩)) ∧ w.heap.size ≤ q ∧ EyeAt w' B q v zs 0 ∧ Keeps [] w w' ∧ ∀ ad n c, v = .slice (some ad) n c → w.heap.size ≤ ad.block

set_option maxHeartbeats 400000 in
theorem newEye_any (w : World) (B : Nat) (u : Value) (zs : List Int) (h : RowAt w u zs) (hB : B ≤ w.heap.size) (hl : zs.length ≤ 35184372088832) :
    Calls Try.prog 81 #[u] w (NewEyePost w B zs) := by
  go_enter Try.func81, Try.ntmps81
  go_wp2_with fail
  refine (clone_any _ u zs h hl).mono ?_
  rintro e w1 ⟨a, c, rfl, q1, q2, q3⟩
  have Q1 := hid q1
  have Q2 := hid q2
  have Q3 := hid q3
  clear q1 q2 q3 h
  go_wp2_with fail
  go_ret
  have hs := Q3.out.size
  have K : Keeps [] w1 (w1.alloc (.cells #[.slice a zs.length c, .int .i64 0, .bool true] 192)) := (Keeps.refl [] w1).alloc _
  refine ⟨w1.heap.size, .slice a zs.length c, rfl, hs, ⟨heap_alloc_new _ _, Q1.out.keep K (by intro _ _ _ _ _; simp), ?_, by omega, hl⟩, Q3.out.alloc _, ?_⟩
  · intro ad n' c' e hne hm
    simp at hm
    have hpos : 0 < zs.length := by cases zs with
      | nil => exact absurd rfl hne
      | cons _ _ => simp
    obtain ⟨g, off, cap, hv, _, hc⟩ := Q1.out.open hpos
    rw [hv] at e
    injection e with e1 _ _
    obtain rfl := Option.some.inj e1
    have := World.block_lt_of_cell? _ _ (hc 0 hpos)
    simp at this hm
    omega
  · intro ad n' c' e
    injection e with e1 _ _
    exact Q2.out ad e1

end Go.Proofs.Ytoglcohdanpciaa
