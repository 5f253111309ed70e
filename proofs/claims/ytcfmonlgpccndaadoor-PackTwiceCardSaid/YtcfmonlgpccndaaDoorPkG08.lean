/- Nums, EyeB, Rec, Catch, EyeC, EyeD. -/
import Derived.Test.YtcfmonlgpccndaaDoorPkG01
import Derived.Laws.BitsAllLaws
import Derived.Test.YtcfmonlgpccndaaDoorPkG07
import Derived.Defers
import Derived.Recover
import Derived.Laws.Pointers
import Derived.Laws.BytesArg
/- Plain facts on numbers: bytes joined into a number, and cut out of it; or and and on int. -/
namespace Go.Proofs.YtcfmonlgpccndaaDoor
open Go.RowKit

theorem ofInt_64 (a : Nat) (h : a < 9223372036854775808) : (BitVec.ofInt 64 (a : Int)).toNat = a := by
  rw [BitVec.toNat_ofInt]; omega

theorem i64_or (a b : Nat) (ha : a < 9223372036854775808) (hb : b < 9223372036854775808) : bits .or .i64 (a : Int) (b : Int) = ((a ||| b : Nat) : Int) := by
  have hx : a ||| b < 2 ^ 63 := Nat.or_lt_two_pow (by omega) (by omega)
  show IntKind.i64.wrap ((BitVec.ofInt 64 (a : Int) ||| BitVec.ofInt 64 (b : Int)).toNat : Int) = _
  rw [BitVec.toNat_or, ofInt_64 a ha, ofInt_64 b hb, IntWalk.i64_in]
  omega

theorem i64_and (a b : Nat) (ha : a < 9223372036854775808) (hb : b < 9223372036854775808) : bits .and .i64 (a : Int) (b : Int) = ((a &&& b : Nat) : Int) := by
  have hx : a &&& b ≤ a := Nat.and_le_left
  show IntKind.i64.wrap ((BitVec.ofInt 64 (a : Int) &&& BitVec.ofInt 64 (b : Int)).toNat : Int) = _
  rw [BitVec.toNat_and, ofInt_64 a ha, ofInt_64 b hb, IntWalk.i64_in]
  omega

theorem or_byte (x b : Int) (hx : 0 ≤ x) (hx2 : x ≤ 281474976710655) (hb : 0 ≤ b) (hb2 : b ≤ 255) : bits .or .i64 (x * 256) b = x * 256 + b := by
  obtain ⟨m, rfl⟩ := Int.eq_ofNat_of_zero_le hx
  obtain ⟨n, rfl⟩ := Int.eq_ofNat_of_zero_le hb
  have e : ((m : Int) * 256) = ((m * 256 : Nat) : Int) := by omega
  rw [e, i64_or (m * 256) n (by omega) (by omega)]
  have e2 : m * 256 ||| n = m * 256 + n := by
    have := Nat.shiftLeft_add_eq_or_of_lt (i := 8) (b := n) (by omega) m
    rw [Nat.shiftLeft_eq, show (2 : Nat) ^ 8 = 256 from rfl] at this
    omega
  rw [e2]
  omega

def val (zs : List Int) : Int := zs.foldl (fun x b => x * 256 + b) 0

theorem val_snoc (zs : List Int) (b : Int) : val (zs ++ [b]) = val zs * 256 + b := by simp [val]

theorem val_bound : ∀ (n : Nat) (zs : List Int), zs.length = n → (∀ z ∈ zs, 0 ≤ z ∧ z ≤ 255) → 0 ≤ val zs ∧ val zs < 256 ^ n
  | 0, zs, h, _ => by
    have : zs = [] := List.eq_nil_of_length_eq_zero h
    subst this
    simp [val]
  | n + 1, zs, h, hz => by
    have hne : zs ≠ [] := by intro e; subst e; simp at h
    have hs : zs = zs.dropLast ++ [zs.getLast hne] := (List.dropLast_concat_getLast hne).symm
    have ih := val_bound n zs.dropLast (by simp [h]) (fun z hm => hz z (List.dropLast_subset _ hm))
    have hl := hz _ (List.getLast_mem hne)
    rw [hs, val_snoc]
    generalize val zs.dropLast = v at *
    generalize zs.getLast hne = l at *
    have e : (256 : Int) ^ (n + 1) = 256 ^ n * 256 := by rw [Int.pow_succ]
    rw [e]
    generalize (256 : Int) ^ n = q at *
    omega

end Go.Proofs.YtcfmonlgpccndaaDoor


/- Walks of the eye: number, counted, truth. -/
namespace Go.Proofs.YtcfmonlgpccndaaDoor
open Go.RowKit

end Go.Proofs.YtcfmonlgpccndaaDoor


/- A region that begins with recover, entered as a deferred call: what is behind it is walked as any code. -/
namespace Go.Proofs.YtcfmonlgpccndaaDoor
open Go.RowKit

section
variable {P : Program} {Q : Exit → Act → List Frame → World → Prop} {a : Act} {cs cs' : List Frame} {w : World} {ops : Array Oper} {o : Oper} {v : Value}

theorem wpS_recover_seq {id : Nat} {y : Code} {l : List Oper} (h0 : ops[0]? = some o) (hgd : o.guard = none) (hl : ∀ j, l[j]? = ops[1 + j]?) (hn : ops.size = 1 + l.length)
    (hrun : (execOp a.eval o).run P w = .ok .recover w) (hrec : recoverD cs = some (v, cs') ∨ (recoverD cs = none ∧ v = .nilIface ∧ cs' = cs))
    (h : wpList P ops (Exit.then (fun a w => y.wp P (fun e a w => Q e a cs' w) a w) (fun e a w => Q e a cs' w)) l (a.put o.dst v) w) :
    (Code.seq (Code.region id ops false) y).wpS P Q a cs w := by
  apply wpS_seq
  intro b k hb hro
  rw [← wpOps_eq_wpList l 1 hl] at h
  obtain ⟨e, a', w', hq, harr⟩ := wp_ops (List.range' 1 l.length) _ _ h b k cs'
  have hQ : Exit.thenS (y.wpS P Q) Q e a' cs' w' := by
    cases e with
    | normal => exact wpS_of_wp hq
    | exit id => exact hq
    | goto l => exact hq
    | ret => exact hq
    | panic ch => exact hq
    | outgrown => exact hq
  refine ⟨e, a', cs', w', hQ, .of_steps (.head step_region (.one ?_)) harr⟩
  have hrg : List.range ops.size = 0 :: List.range' 1 l.length := by rw [hn, List.range_eq_range', Nat.add_comm, List.range'_succ]
  rw [hrg]
  have hw : Region.wanted o (yielded ops a.tmps) = true := by simp [Region.wanted, hgd]
  have hg := stepG_op (P := P) (b := b) (k := k) (cs := cs) (w := w) (rest := List.range' 1 l.length) h0 hw
  have hfin : ∀ v, (b.at a (.inRegion ops (0 :: List.range' 1 l.length) :: k)).finish v = b.at (a.put o.dst v) (.inRegion ops (List.range' 1 l.length) :: k) := by
    intro v; rw [Frame.finish_at, h0]; rfl
  have hk : (b.at a (.inRegion ops (0 :: List.range' 1 l.length) :: k)).kind = .deferred := hb
  have htr := tryRecover_deferred hk cs
  refine step_lone_go ?_
  rw [hg, ← hfin]
  simp only [Frame.at] at htr ⊢
  rcases hrec with hrec | ⟨hrec, rfl, rfl⟩
  · simp [stepG.apply, hrun, htr, hrec]
  · simp [stepG.apply, hrun, htr, hrec]

theorem wpS_recover_lit {id : Nat} {y : Code} {l : List Oper} (hgd : o.guard = none) (hrun : (execOp a.eval o).run P w = .ok .recover w)
    (hrec : recoverD cs = some (v, cs') ∨ (recoverD cs = none ∧ v = .nilIface ∧ cs' = cs))
    (h : wpList P (o :: l).toArray (Exit.then (fun a w => y.wp P (fun e a w => Q e a cs' w) a w) (fun e a w => Q e a cs' w)) l (a.put o.dst v) w) :
    (Code.seq (Code.region id (o :: l).toArray false) y).wpS P Q a cs w :=
  wpS_recover_seq (o := o) (l := l) (by simp) hgd (fun j => by simp [Nat.add_comm]) (by simp [Nat.add_comm]) hrun hrec h
end
end Go.Proofs.YtcfmonlgpccndaaDoor


/- The deferred closure of attempt, at each of its four instances: in a frame that panics (it takes what the reader gave up with, puts the row back and lays the error), in one that returns (it does nothing). -/
namespace Go.Proofs.YtcfmonlgpccndaaDoor
open Go.RowKit

theorem ta_hit (v : Value) (w : World) : (Instr.typeAssert (.iface 25 v) 20 25 true).run Tryd.prog w = .ok (.tuple #[v, .bool true]) w := by kernel_rfl
theorem ta_nil (w : World) : (Instr.typeAssert .nilIface 20 25 true).run Tryd.prog w = .ok (.tuple #[.int .i64 0, .bool false]) w := by kernel_rfl

end Go.Proofs.YtcfmonlgpccndaaDoor


/- Walks of the eye: counted, truth, and the three closures that attempt is handed. -/
namespace Go.Proofs.YtcfmonlgpccndaaDoor
open Go.RowKit

def rdNum (n : Int) (zs : List Int) : Except Int (Int × List Int) :=
  if ¬ (1 ≤ n ∧ n ≤ 7) then .error 1 else if zs.length < n.toNat then .error 2 else .ok (val (zs.take n.toNat), zs.drop n.toNat)
def rdCount (most : Int) (zs : List Int) : Except Int (List Int × List Int) :=
  if most < 0 then .error 1 else if zs.length < 2 then .error 2 else if most < val (zs.take 2) then .error 3
  else if (zs.drop 2).length < (val (zs.take 2)).toNat then .error 2 else .ok ((zs.drop 2).take (val (zs.take 2)).toNat, (zs.drop 2).drop (val (zs.take 2)).toNat)
def rdBool (zs : List Int) : Except Int (Bool × List Int) :=
  if zs.length < 1 then .error 2 else if 1 < val (zs.take 1) then .error 4 else .ok (val (zs.take 1) == 1, zs.drop 1)

def retInt (x : Int) (_ : World) (e : Ending) : Prop := e = .returned (.int .i64 x)
def retBool (x : Bool) (_ : World) (e : Ending) : Prop := e = .returned (.bool x)
def retStr (x : List Int) (_ : World) (e : Ending) : Prop := e = .returned (.string (strOfNums x))
def retOld (v : Value) (x : List Int) (w' : World) (e : Ending) : Prop := ∃ a c, e = .returned (.slice a x.length c) ∧ RowAt w' (.slice a x.length c) x ∧ SameBlk v (.slice a x.length c)
def retNew (w : World) (x : List Int) (w' : World) (e : Ending) : Prop := ∃ a c, e = .returned (.slice a x.length c) ∧ RowAt w' (.slice a x.length c) x ∧ ∀ ad, a = some ad → w.heap.size ≤ ad.block

end Go.Proofs.YtcfmonlgpccndaaDoor


/- Walks of the eye: the closures that attempt is handed. -/
namespace Go.Proofs.YtcfmonlgpccndaaDoor
open Go.RowKit

theorem conv_row {w : World} {v : Value} {zs : List Int} (h : RowAt w v zs) : (convert 31 9 v).run Tryd.prog w = .ok (.string (strOfNums zs)) w := by
  by_cases hne : 0 < zs.length
  · obtain ⟨g, off, cap, rfl, h1, h2⟩ := h.open hne
    exact run_convert_bytes_arg w 31 5 Tryd.underlying31 Tryd.underlying5 g off zs.length cap zs rfl h2 9 Tryd.underlying9
  · obtain rfl : zs = [] := List.eq_nil_of_length_eq_zero (by omega)
    obtain ⟨a, cap, rfl, _⟩ := h
    rw [run_convert_bytes_string w 31 9 5 a _ cap Tryd.underlying31 Tryd.underlying5 Tryd.underlying9]
    cases a <;> simp [Conv.bytesToString, loadCells, strOfNums]
    all_goals rfl

theorem rdCount_le {most : Int} {zs x rest : List Int} (h : rdCount most zs = .ok (x, rest)) : x.length ≤ zs.length ∧ rest.length ≤ zs.length := by
  unfold rdCount at h
  repeat (split at h; · cases h)
  injection h with h
  injection h with h1 h2
  subst h1; subst h2
  simp only [List.length_take, List.length_drop]
  omega

end Go.Proofs.YtcfmonlgpccndaaDoor
