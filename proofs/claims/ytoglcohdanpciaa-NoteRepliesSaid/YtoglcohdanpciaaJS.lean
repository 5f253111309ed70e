/- Deeds, Write, RefE, Known, Fails, RefF, REyeL. -/
import Derived.Test.YtoglcohdanpciaaJK
import Derived.Test.YtoglcohdanpciaaJR
import Derived.ProofKit
import Derived.Test.YtoglcohdanpciaaJE
/- The deeds that a law is handed, as they lie in memory; the walk of the laws' room. -/
namespace Go.Proofs.Ytoglcohdanpciaa
open Go.RowKit

structure Dd where
  act : Int
  x : Int
  n : Int
  row : Value
  bs : List Int


/-- Deed d lies in the four cells from there on. -/
structure DeedAt (w : World) (g off : Nat) (d : Dd) : Prop where
  c0 : w.cell? ⟨g, off, none⟩ = some (.int .i64 d.act)
  c1 : w.cell? ⟨g, off + 1, none⟩ = some (.int .i64 d.x)
  c2 : w.cell? ⟨g, off + 2, none⟩ = some (.int .i64 d.n)
  c3 : w.cell? ⟨g, off + 3, none⟩ = some d.row
  row : RowAt w d.row d.bs
  fit : d.bs.length ≤ 140737488351232
  b0 : i64 d.act
  b1 : i64 d.x
  b2 : i64 d.n

/-- A slice of deeds. -/
def DeedsAt (w : World) (v : Value) (ds : List Dd) : Prop :=
  ∃ (a : Option Addr) (cap : Nat), v = .slice a ds.length cap ∧ ds.length ≤ cap ∧ cap ≤ maxLen ∧ (a = none → cap = 0) ∧
    (ds ≠ [] → ∃ g off, a = some ⟨g, off, none⟩ ∧ ∀ i (h : i < ds.length), DeedAt w g (off + i * 4) ds[i])

theorem DeedAt.keep {w w' : World} {g off : Nat} {d : Dd} (h : DeedAt w g off d) (k : Keeps [] w w') : DeedAt w' g off d :=
  ⟨k.cell h.c0 (by simp), k.cell h.c1 (by simp), k.cell h.c2 (by simp), k.cell h.c3 (by simp), h.row.keep k (by intro _ _ _ _ _; simp), h.fit, h.b0, h.b1, h.b2⟩

theorem DeedsAt.keep {w w' : World} {v : Value} {ds : List Dd} (h : DeedsAt w v ds) (k : Keeps [] w w') : DeedsAt w' v ds := by
  obtain ⟨a, cap, rfl, h1, h2, h0, h3⟩ := h
  refine ⟨a, cap, rfl, h1, h2, h0, fun hne => ?_⟩
  obtain ⟨g, off, rfl, h4⟩ := h3 hne
  exact ⟨g, off, rfl, fun i hi => (h4 i hi).keep k⟩

def RoomOk (ds : List Dd) : Prop := ds.length ≤ 100 ∧ ∀ d ∈ ds, d.bs.length ≤ 70000

def RoomPost (w : World) (ds : List Dd) (e : Ending) (w' : World) : Prop := ∃ b, e = .returned (.bool b) ∧ w = w' ∧ (b = true → RoomOk ds)

end Go.Proofs.Ytoglcohdanpciaa


/- The walk of the laws' write: the same deeds, of both pens. -/
namespace Go.Proofs.Ytoglcohdanpciaa
open Go.RowKit

def odd (x : Int) : Bool := bits .and .i64 x 1 == 1
def deedW (s : List Int × Int) (d : Dd) : List Int × Int :=
  if d.act ≤ 1 then penNum d.x d.n s else if d.act = 2 then penRaw d.bs s else if d.act = 3 then penRaw d.bs s else penBool (odd d.x) s
def deedR (s : List Int × Int) (d : Dd) : List Int × Int :=
  if d.act ≤ 1 then refNum d.x d.n s else if d.act = 2 then refRaw d.bs s else if d.act = 3 then refRaw d.bs s else refBool (odd d.x) s

theorem Rel.deed {s r : List Int × Int} (h : Rel s r) (d : Dd) : Rel (deedW s d) (deedR r d) := by
  unfold deedW deedR
  split
  · exact h.num _ _
  · split
    · exact h.raw _
    · split
      · exact h.raw _
      · exact h.bool _

theorem Rel.deeds (ds : List Dd) : ∀ {s r : List Int × Int}, Rel s r → Rel (ds.foldl deedW s) (ds.foldl deedR r) := by
  induction ds with
  | nil => exact fun h => h
  | cons d ds ih => exact fun h => ih (h.deed d)

/-- Two pens that were made since w, apart from each other. -/
structure TwoAt (w w' : World) (p q : Nat) (v u : Value) (s r : List Int × Int) : Prop where
  pen : PenAt w' w.heap.size 172 5 p v s.1 s.2
  ref : PenAt w' w.heap.size 151 5 q u r.1 r.2
  kept : Keeps [] w w'
  pq : p ≠ q
  vq : v.ownBlock ≠ some q
  up : u.ownBlock ≠ some p
  vu : ∀ k, v.ownBlock = some k → u.ownBlock ≠ some k

theorem PenAt.ge {w' : World} {B : Nat} {T U : TypeId} {p : Nat} {v : Value} {zs : List Int} {bad : Int} (h : PenAt w' B T U p v zs bad) : ∀ k ∈ p :: v.ownBlock.toList, B ≤ k := by
  intro k hk
  rcases List.mem_cons.1 hk with rfl | hk
  · exact h.lo
  · exact (h.own.lt k (by simpa using hk)).1

theorem TwoAt.stepW {w w2 w3 : World} {p q : Nat} {v u : Value} {s r s' : List Int × Int} {e : Ending} (h : TwoAt w w2 p q v u s r) (hp : PenPost w2 w.heap.size 172 5 p v s' e w3) :
    e = .returned (.tuple #[]) ∧ ∃ v', TwoAt w w3 p q v' u s' r := by
  obtain ⟨rfl, v', q1, q2, q3⟩ := hp
  refine ⟨rfl, v', q1, h.ref.keep q2 ?_ ?_, h.kept.trans' q2 (fun i hi hm => by have := h.pen.ge i hm; omega), h.pq, ?_, h.up, ?_⟩
  · intro hm
    rcases List.mem_cons.1 hm with hm | hm
    · exact h.pq hm.symm
    · exact h.vq (by simpa using hm)
  · intro g hg hm
    rcases List.mem_cons.1 hm with hm | hm
    · exact h.up (by rw [hg, hm])
    · exact h.vu g (by simpa using hm) hg
  · rcases q3 with q3 | q3
    · rw [q3]; exact h.vq
    · intro hq
      have := q3 q hq
      have := h.ref.lt
      omega
  · intro k hk hu
    rcases q3 with q3 | q3
    · exact h.vu k (by rw [← q3]; exact hk) hu
    · have := q3 k hk
      have := (h.ref.own.lt k hu).2
      omega

theorem TwoAt.stepR {w w2 w3 : World} {p q : Nat} {v u : Value} {s r r' : List Int × Int} {e : Ending} (h : TwoAt w w2 p q v u s r) (hp : PenPost w2 w.heap.size 151 5 q u r' e w3) :
    e = .returned (.tuple #[]) ∧ ∃ u', TwoAt w w3 p q v u' s r' := by
  obtain ⟨rfl, u', q1, q2, q3⟩ := hp
  refine ⟨rfl, u', h.pen.keep q2 ?_ ?_, q1, h.kept.trans' q2 (fun i hi hm => by have := h.ref.ge i hm; omega), h.pq, h.vq, ?_, ?_⟩
  · intro hm
    rcases List.mem_cons.1 hm with hm | hm
    · exact h.pq hm
    · exact h.up (by simpa using hm)
  · intro g hg hm
    rcases List.mem_cons.1 hm with hm | hm
    · exact h.vq (by rw [hg, hm])
    · exact h.vu g hg (by simpa using hm)
  · rcases q3 with q3 | q3
    · rw [q3]; exact h.up
    · intro hq
      have := q3 p hq
      have := h.pen.lt
      omega
  · intro k hk hu
    rcases q3 with q3 | q3
    · exact h.vu k hk (by rw [← q3]; exact hu)
    · have := q3 k hu
      have := (h.pen.own.lt k hk).2
      omega

theorem TwoAt.keep {w w2 w3 : World} {p q : Nat} {v u : Value} {s r : List Int × Int} (h : TwoAt w w2 p q v u s r) (k : Keeps [] w2 w3) : TwoAt w w3 p q v u s r :=
  ⟨h.pen.keep k (by simp) (by simp), h.ref.keep k (by simp) (by simp), h.kept.trans k, h.pq, h.vq, h.up, h.vu⟩

theorem off_old {w : World} {v : Value} {zs : List Int} {S : List Nat} (h : RowAt w v zs) (hs : ∀ k ∈ S, w.heap.size ≤ k) : Off S v zs := by
  intro ad n c e hne hm
  have hpos : 0 < zs.length := by cases zs with
    | nil => exact absurd rfl hne
    | cons _ _ => simp
  obtain ⟨g, off, cap, hv, _, hc⟩ := h.open hpos
  rw [hv] at e
  injection e with e1 _ _
  obtain rfl := Option.some.inj e1
  have := World.block_lt_of_cell? _ _ (hc 0 hpos)
  have := hs _ hm
  simp at *
  omega

def WritePost (w : World) (ds : List Dd) (e : Ending) (w' : World) : Prop :=
  ∃ p q v u, e = .returned (.tuple #[.pointer (some ⟨p, 0, none⟩), .pointer (some ⟨q, 0, none⟩)]) ∧ TwoAt w w' p q v u (ds.foldl deedW ([], 0)) (ds.foldl deedR ([], 0))

end Go.Proofs.Ytoglcohdanpciaa


/- Walks of the reference's eye: Num. -/
namespace Go.Proofs.Ytoglcohdanpciaa
open Go.RowKit

/-- The reference's eye: its two cells; its row lies in memory that was there below B. -/
structure REyeAt (w : World) (B : Nat) (q : Nat) (v : Value) (zs : List Int) (bad : Int) : Prop where
  blk : w.heap[q]? = some (.cells #[v, .int .i64 bad] 125 (0, 0))
  row : RowAt w v zs
  old : ∀ S, (∀ k ∈ S, B ≤ k) → Off S v zs
  lo : B ≤ q
  fits : zs.length ≤ 35184372088832

theorem REyeAt.cell0 {w : World} {B q v zs bad} (h : REyeAt w B q v zs bad) : w.cell? ⟨q, 0, none⟩ = some v := by simp [World.cell?, h.blk]
theorem REyeAt.cell1 {w : World} {B q v zs bad} (h : REyeAt w B q v zs bad) : w.cell? ⟨q, 1, none⟩ = some (.int .i64 bad) := by simp [World.cell?, h.blk]
theorem REyeAt.free0 {w : World} {B q v zs bad} (h : REyeAt w B q v zs bad) : w.frozen? ⟨q, 0, none⟩ = false := by simp [World.frozen?, h.blk]
theorem REyeAt.free1 {w : World} {B q v zs bad} (h : REyeAt w B q v zs bad) : w.frozen? ⟨q, 1, none⟩ = false := by simp [World.frozen?, h.blk]
theorem REyeAt.lt {w : World} {B q v zs bad} (h : REyeAt w B q v zs bad) : q < w.heap.size := lt_of_block h.blk
theorem REyeAt.off {w : World} {B q v zs bad} (h : REyeAt w B q v zs bad) : Off [q] v zs := h.old [q] (by intro k hk; simp at hk; rw [hk]; exact h.lo)

theorem REyeAt.keep {w w' : World} {B q v zs bad} {S : List Nat} (h : REyeAt w B q v zs bad) (k : Keeps S w w') (hq : q ∉ S) (hS : ∀ k ∈ S, B ≤ k) : REyeAt w' B q v zs bad :=
  ⟨by rw [k.block q h.lt hq]; exact h.blk, h.row.keep k (h.old S hS), h.old, h.lo, h.fits⟩

/-- Its error is set. -/
theorem REyeAt.setBad {w : World} {B q v zs bad} (h : REyeAt w B q v zs bad) (b : Int) : REyeAt (w.setCell ⟨q, 1, none⟩ (.int .i64 b)) B q v zs b ∧ Keeps [q] w (w.setCell ⟨q, 1, none⟩ (.int .i64 b)) := by
  have k : Keeps [q] w (w.setCell ⟨q, 1, none⟩ (.int .i64 b)) := (Keeps.refl _ _).setCell (Or.inl (by simp)) _
  exact ⟨⟨(heap_two h.blk _).2, h.row.keep k h.off, h.old, h.lo, h.fits⟩, k⟩

/-- Its row is set to another one of the same memory. -/
theorem REyeAt.setRow {w w2 : World} {B q v zs bad v2 zs2 bad2} {S : List Nat} (h : REyeAt w B q v zs bad) (k0 : Keeps S w w2) (hS : ∀ k ∈ S, B ≤ k) (h2 : REyeAt w2 B q v2 zs2 bad2) (v' : Value) (zs' : List Int) (hr : ∀ W, RowAt W v zs → RowAt W v' zs') (hs : SameBlk v v') (hz : zs' ≠ [] → zs ≠ []) (hl : zs'.length ≤ zs.length) :
    REyeAt (w2.setCell ⟨q, 0, none⟩ v') B q v' zs' bad2 ∧ Keeps [q] w2 (w2.setCell ⟨q, 0, none⟩ v') := by
  have k : Keeps [q] w2 (w2.setCell ⟨q, 0, none⟩ v') := (Keeps.refl _ _).setCell (Or.inl (by simp)) _
  exact ⟨⟨(heap_two h2.blk _).1, hr _ ((h.row.keep k0 (h.old S hS)).keep k h.off), fun S hS => (h.old S hS).same hs hz, h.lo, by have := h.fits; omega⟩, k⟩

def REyePost {α : Type} (w : World) (B q : Nat) (st : Option α × List Int × Int) (zero : Value) (ret : α → World → Ending → Prop) (e : Ending) (w' : World) : Prop :=
  (∃ v2, REyeAt w' B q v2 st.2.1 st.2.2) ∧ Keeps [q] w w' ∧ match st.1 with
    | none => e = .returned zero
    | some x => ret x w' e

set_option maxHeartbeats 1600000 in
theorem renum_ok (w : World) (B q : Nat) (v : Value) (zs : List Int) (n : Nat) (h : REyeAt w B q v zs 0) (h1 : 1 ≤ n) (h7 : n ≤ 7) (hn : n ≤ zs.length) :
    Calls Try.prog 68 #[.pointer (some ⟨q, 0, none⟩), .int .i64 n] w (REyePost w B q (some (val (zs.take n)), zs.drop n, 0) (.int .i64 0) retInt) := by
  have H := hid h
  have c0 := h.cell0
  have c1 := h.cell1
  have f0 := h.free0
  have d1 : decide ((n : Int) < 1) = false := by simp; omega
  have d2 : decide (7 < (n : Int)) = false := by simp; omega
  have d3 : decide ((zs.length : Int) < n) = false := by simp; omega
  obtain ⟨g, off, cap, rfl, _, hc⟩ := h.row.open (by omega)
  have HC := hid hc
  obtain ⟨a2, s1, s2, s3, s4⟩ := row_drop h.row n hn
  have S3 := hid s3
  have S4 := hid s4
  have HB := hid h.row.bytes
  clear hc h s3 s4
  go_enter Try.func68, Try.ntmps68
  go_wp2_with fail
  go_loop [5, 6] (fun x i => ∃ k : Nat, k ≤ n ∧ i = .int .i64 k ∧ x = .int .i64 (val (zs.take k))) (fun _ i => n - (intOf i).toNat)
  case atStart => exact ⟨0, by omega, rfl, rfl⟩
  case round =>
    obtain ⟨k, hk, rfl, rfl⟩ := hrel
    by_cases hlt : k < n
    · have hbd := val_bound k (zs.take k) (by rw [List.length_take]; omega) (fun z hz => HB.out z (List.mem_of_mem_take hz))
      have hmono : (256 : Int) ^ k ≤ 256 ^ 6 := by
        have : k ≤ 6 := by omega
        rcases k with _ | _ | _ | _ | _ | _ | _ | k <;> first | omega | decide
      have b1 : val (zs.take k) ≤ 281474976710655 := by
        have h6 : (256 : Int) ^ 6 = 281474976710656 := by decide
        omega
      have b0 : 0 ≤ val (zs.take k) := hbd.1
      have hz := HB.out (zs.getD k 0) (by rw [List.getD_eq_getElem?_getD, List.getElem?_eq_getElem (by omega)]; exact List.getElem_mem _)
      have E := hid (take_snoc zs k (by omega))
      have hcc := HC.out k (by omega)
      have hkl : (k : Int) < zs.length := by omega
      generalize zs.getD k 0 = b at *
      have z0 : 0 ≤ b := hz.1
      have z1 : b ≤ 255 := hz.2
      clear hbd hmono hz
      go_wp2_with fail
      go_round
      case rel => exact ⟨k + 1, by omega, by go_num, by rw [E.out, val_snoc, or_byte _ _ b0 b1 z0 z1]⟩
      case measure => simp [intOf]; omega
    · have : k = n := by omega
      subst this
      go_wp2_with fail
      go_ret
      have hb2 : SameBlk (.slice (some ⟨g, off, none⟩) zs.length cap) (.slice a2 (zs.length - k) (cap - k)) := by
        intro ad n' c' e
        injection e with e1 _ _
        obtain ⟨ad', h1, h2⟩ := S4.out ad e1
        exact ⟨ad', _, _, by rw [h1], h2⟩
      have hr := H.out.setRow (Keeps.refl [] w) (by simp) H.out _ (zs.drop k) S3.out hb2 (by intro h1 h2; rw [h2] at h1; simp at h1) (by rw [List.length_drop]; omega)
      exact ⟨⟨_, hr.1⟩, hr.2, rfl⟩
end Go.Proofs.Ytoglcohdanpciaa


/- Chapter 1's examples (the law WireKnown): whatever the start, the law returns true and nothing that was there has turned. No condition. -/
namespace Go.Proofs.Ytoglcohdanpciaa
open Go.ChangeShapes Go.WideShapes Go.ChangeAt Go.RowKit



theorem known_num : after [0, 5, 0, 2, 97] 0 (rdNum 2 [0, 5, 0, 2, 97]) = (some 5, [0, 2, 97], 0) := by decide +kernel
theorem known_text : after [0, 2, 97] 0 (rdCount 9 [0, 2, 97]) = (none, [0, 2, 97], 2) := by decide +kernel
theorem known_pen : penNum 256 1 ([], 0) = ([], 1) := by decide +kernel

end Go.Proofs.Ytoglcohdanpciaa


/- An eye that failed answers nothing more, takes nothing more, and keeps the first error (the law WireFails): the walk. -/
namespace Go.Proofs.Ytoglcohdanpciaa
open Go.RowKit

theorem after_bad {α : Type} (zs : List Int) (r : Except Int (α × List Int)) : after zs 1 r = (none, zs, 1) := by
  unfold after
  rw [if_pos (by omega)]

end Go.Proofs.Ytoglcohdanpciaa


/- Walks of the reference's eye: Num at whatever width, Raw, Bool, End. -/
namespace Go.Proofs.Ytoglcohdanpciaa
open Go.RowKit

theorem REyePost.fail {α : Type} {w w2 : World} {B q : Nat} {v : Value} {zs : List Int} {bad : Int} {zero : Value} {ret : α → World → Ending → Prop} (h : REyeAt w2 B q v zs bad) (k : Keeps [q] w w2) :
    REyePost w B q ((none, zs, bad) : Option α × List Int × Int) zero ret (.returned zero) w2 := ⟨⟨v, h⟩, k, rfl⟩

set_option maxHeartbeats 1600000 in
theorem renum_any (w : World) (B q : Nat) (v : Value) (zs : List Int) (bad n : Int) (h : REyeAt w B q v zs bad) :
    Calls Try.prog 68 #[.pointer (some ⟨q, 0, none⟩), .int .i64 n] w (REyePost w B q (after zs bad (rdNum n zs)) (.int .i64 0) retInt) := by
  by_cases hb : bad = 0
  · subst hb
    have H := hid h
    have c0 := h.cell0
    have c1 := h.cell1
    have f1 := h.free1
    obtain ⟨a, cap, rfl, z⟩ := h.row
    clear z
    by_cases hv : 1 ≤ n ∧ n ≤ 7
    · obtain ⟨k, rfl⟩ := Int.eq_ofNat_of_zero_le (show 0 ≤ n by omega)
      by_cases hn : zs.length < k
      · have E1 := hid (show after zs 0 (rdNum k zs) = (none, zs, 2) by
          unfold after rdNum
          rw [if_neg (by omega), if_neg (by simp only [Classical.not_not]; exact hv), if_pos (by rw [Int.toNat_natCast]; exact hn)])
        have d1 : decide ((k : Int) < 1) = false := by simp; omega
        have d2 : decide (7 < (k : Int)) = false := by simp; omega
        have d3 : decide ((zs.length : Int) < k) = true := by simp; omega
        clear h hv
        go_enter Try.func68, Try.ntmps68
        go_wp2_with fail
        go_ret
        rw [E1.out]
        exact REyePost.fail (H.out.setBad 2).1 (H.out.setBad 2).2
      · have e1 : after zs 0 (rdNum k zs) = (some (val (zs.take k)), zs.drop k, 0) := by
          unfold after rdNum
          rw [if_neg (by omega), if_neg (by simp only [Classical.not_not]; exact hv), if_neg (by rw [Int.toNat_natCast]; exact hn)]
          rfl
        rw [e1]
        exact renum_ok w B q _ zs k h (by omega) (by omega) (by omega)
    · have E1 := hid (show after zs 0 (rdNum n zs) = (none, zs, 1) by
        unfold after rdNum
        rw [if_neg (by omega), if_pos hv])
      by_cases a1 : n < 1
      · have d1 : decide (n < 1) = true := by simpa using a1
        clear h hv
        go_enter Try.func68, Try.ntmps68
        go_wp2_with fail
        go_ret
        rw [E1.out]
        exact REyePost.fail (H.out.setBad 1).1 (H.out.setBad 1).2
      · have d1 : decide (n < 1) = false := by simpa using a1
        have d2 : decide (7 < n) = true := by simp; omega
        clear h hv
        go_enter Try.func68, Try.ntmps68
        go_wp2_with fail
        go_ret
        rw [E1.out]
        exact REyePost.fail (H.out.setBad 1).1 (H.out.setBad 1).2
  · have E1 := hid (show after zs bad (rdNum n zs) = (none, zs, bad) by unfold after; rw [if_pos hb])
    have H := hid h
    have c0 := h.cell0
    have c1 := h.cell1
    have b1 : (bad == 0) = false := by simpa using hb
    have b2 : (bad != 0) = true := by simpa using hb
    clear h hb
    go_enter Try.func68, Try.ntmps68
    go_wp2_with fail
    go_ret
    rw [E1.out]
    exact REyePost.fail H.out (Keeps.refl _ _)

theorem reend_any (w : World) (B q : Nat) (v : Value) (zs : List Int) (bad : Int) (h : REyeAt w B q v zs bad) :
    Calls Try.prog 99 #[.pointer (some ⟨q, 0, none⟩)] w fun e w' => e = .returned (.int .i64 (endOf zs bad)) ∧ w = w' := by
  have c0 := h.cell0
  have c1 := h.cell1
  obtain ⟨a, cap, rfl, z⟩ := h.row
  clear z h
  by_cases hb : bad = 0
  · subst hb
    by_cases hz : zs.length = 0
    · have E1 := hid (show endOf zs 0 = 0 by simp [endOf, hz])
      have d1 : ¬ (0 : Int) < zs.length := by omega
      clear hz
      go_enter Try.func99, Try.ntmps99
      go_wp2_with fail
      go_ret
      exact ⟨by rw [E1.out]; rfl, rfl⟩
    · have E1 := hid (show endOf zs 0 = 3 by simp only [endOf, if_true, if_neg hz])
      have d1 : (0 : Int) < zs.length := by omega
      clear hz
      go_enter Try.func99, Try.ntmps99
      go_wp2_with fail
      go_ret
      exact ⟨by rw [E1.out]; rfl, rfl⟩
  · have E1 := hid (show endOf zs bad = bad by rw [endOf, if_neg hb])
    have b2 : (bad != 0) = true := by simpa using hb
    clear hb
    go_enter Try.func99, Try.ntmps99
    go_wp2_with fail
    go_ret
    exact ⟨by rw [E1.out]; rfl, rfl⟩

/-- Behind a failure Raw puts its row back. -/
theorem REyeAt.putBack {w w1 : World} {B q v zs bad v1 zs1 bad1} (h : REyeAt w B q v zs bad) (k : Keeps [q] w w1) (h1 : REyeAt w1 B q v1 zs1 bad1) :
    REyeAt (w1.setCell ⟨q, 0, none⟩ v) B q v zs bad1 ∧ Keeps [q] w (w1.setCell ⟨q, 0, none⟩ v) := by
  have := h.setRow k (by intro i hi; simp at hi; rw [hi]; exact h.lo) h1 v zs (fun _ hr => hr) (SameBlk.refl _) (fun hz => hz) (Nat.le_refl _)
  exact ⟨this.1, k.trans this.2⟩

set_option maxHeartbeats 3200000 in
theorem reraw_any (w : World) (B q : Nat) (v : Value) (zs : List Int) (bad most : Int) (h : REyeAt w B q v zs bad) :
    Calls Try.prog 94 #[.pointer (some ⟨q, 0, none⟩), .int .i64 most] w (REyePost w B q (after zs bad (rdCount most zs)) (.slice none 0 0) (retNew w)) := by
  have H := hid h
  have c0 := h.cell0
  have c1 := h.cell1
  have f1 := h.free1
  obtain ⟨a, cap, rfl, z⟩ := h.row
  clear z h
  by_cases hb : bad = 0
  · subst hb
    by_cases hm : most < 0
    · have E1 := hid (show after zs 0 (rdCount most zs) = (none, zs, 1) by
        unfold after rdCount
        rw [if_neg (by omega), if_pos hm])
      have d1 : decide (most < 0) = true := by simpa using hm
      have S1 := hid (H.out.setBad 1)
      clear hm
      go_enter Try.func94, Try.ntmps94
      go_wp2_with fail
      refine (renum_any _ B q _ zs 1 2 S1.out.1).mono ?_
      intro e w1 hq
      rw [after_bad] at hq
      obtain ⟨⟨v1, q1⟩, q2, rfl⟩ := hq
      have Q1 := hid q1
      have Q2 := hid (S1.out.2.trans q2)
      have y0 := q1.cell0
      have y1 := q1.cell1
      have g0 := q1.free0
      clear q1 q2
      go_wp2_with fail
      go_ret
      have P := H.out.putBack Q2.out Q1.out
      rw [E1.out]
      exact REyePost.fail P.1 P.2
    · have d1 : decide (most < 0) = false := by simpa using hm
      go_enter Try.func94, Try.ntmps94
      go_wp2_with fail
      refine (renum_any _ B q _ zs 0 2 H.out).mono ?_
      intro e w1 hq
      by_cases hsh : zs.length < 2
      · have E1 := hid (show after zs 0 (rdCount most zs) = (none, zs, 2) by
          unfold after rdCount
          rw [if_neg (by omega), if_neg (by omega), if_pos hsh])
        rw [show after zs 0 (rdNum 2 zs) = (none, zs, 2) by
          unfold after rdNum
          rw [if_neg (by omega), if_neg (by omega), if_pos (by show zs.length < 2; exact hsh)]] at hq
        obtain ⟨⟨v1, q1⟩, q2, rfl⟩ := hq
        have Q1 := hid q1
        have Q2 := hid q2
        have y0 := q1.cell0
        have y1 := q1.cell1
        have g0 := q1.free0
        clear q1 q2 hsh
        go_wp2_with fail
        go_ret
        have P := H.out.putBack Q2.out Q1.out
        rw [E1.out]
        exact REyePost.fail P.1 P.2
      · rw [show after zs 0 (rdNum 2 zs) = (some (val (zs.take 2)), zs.drop 2, 0) by
          unfold after rdNum
          rw [if_neg (by omega), if_neg (by omega), if_neg (by show ¬ zs.length < 2; exact hsh)]
          rfl] at hq
        obtain ⟨⟨v1, q1⟩, q2, rfl⟩ := hq
        change REyeAt w1 B q v1 (zs.drop 2) 0 at q1
        have Q1 := hid q1
        have Q2 := hid q2
        have hvb := val_bound 2 (zs.take 2) (by rw [List.length_take]; omega) (fun z hz => H.out.row.bytes z (List.mem_of_mem_take hz))
        obtain ⟨m, hm2⟩ := Int.eq_ofNat_of_zero_le hvb.1
        have HM := hid hm2
        have hm3 : m < 65536 := by have := hvb.2; rw [hm2] at this; have : (m : Int) < 65536 := this; omega
        rw [hm2]
        have y0 := q1.cell0
        have y1 := q1.cell1
        have g0 := q1.free0
        have g1 := q1.free1
        have r1 := q1.row
        have hf1 := q1.fits
        obtain ⟨a1, cap1, rfl, z⟩ := q1.row
        generalize hys : zs.drop 2 = ys at *
        have HYS := hid hys
        clear hvb hm2 z q1 q2 hys
        by_cases hlt : most < m
        · have E1 := hid (show after zs 0 (rdCount most zs) = (none, zs, 3) by
            unfold after rdCount
            rw [if_neg (by omega), if_neg (by omega), if_neg hsh, if_pos (by rw [HM.out]; exact hlt)])
          have S2 := hid (Q1.out.setBad 3)
          clear hsh hm hm3 r1
          go_wp2_with fail
          go_ret
          have P := H.out.putBack (Q2.out.trans S2.out.2) S2.out.1
          rw [E1.out]
          exact REyePost.fail P.1 P.2
        · by_cases hl2 : ys.length < m
          · have E1 := hid (show after zs 0 (rdCount most zs) = (none, zs, 2) by
              unfold after rdCount
              rw [if_neg (by omega), if_neg (by omega), if_neg hsh, if_neg (by rw [HM.out]; exact hlt), HM.out, HYS.out, if_pos (by rw [Int.toNat_natCast]; exact hl2)])
            have S2 := hid (Q1.out.setBad 2)
            have hl2' : (ys.length : Int) < m := by omega
            clear hsh hm hm3 r1
            go_wp2_with fail
            go_ret
            have P := H.out.putBack (Q2.out.trans S2.out.2) S2.out.1
            rw [E1.out]
            exact REyePost.fail P.1 P.2
          · have E1 := hid (show after zs 0 (rdCount most zs) = (some (ys.take m), ys.drop m, 0) by
              unfold after rdCount
              rw [if_neg (by omega), if_neg (by omega), if_neg hsh, if_neg (by rw [HM.out]; exact hlt), HM.out, HYS.out, if_neg (by rw [Int.toNat_natCast]; exact hl2)]
              rfl)
            have hl2' : ¬ (ys.length : Int) < m := by omega
            obtain ⟨b1, t1, t2, t3, t4⟩ := row_take r1 m (by omega)
            obtain ⟨b2, s1, s2, s3, s4⟩ := row_drop r1 m (by omega)
            have T3 := hid (t3 w1 r1)
            have S3 := hid s3
            have S4 := hid s4
            have htl : (ys.take m).length = m := by rw [List.length_take]; omega
            have HTL := hid htl
            clear hsh hm r1 t3 t4 s3 s4 htl
            go_wp2_with fail
            refine (copy_any _ _ (ys.take m) T3.out (by rw [HTL.out]; omega)).mono ?_
            intro e w2 hq
            obtain ⟨a5, c5, rfl, g2, g3, g4⟩ := hq.new T3.out.bytes
            rw [HTL.out]
            have G2 := hid g2
            have G3 := hid g3
            have G4 := hid g4
            have Q5 := hid (Q1.out.keep g4 (by simp) (by simp))
            have y0' := Q5.out.cell0
            have g0' := Q5.out.free0
            clear g2 g3 g4 hq y0 y1 g0 g1
            go_wp2_with fail
            go_ret
            have hb2 : SameBlk (.slice a1 ys.length cap1) (.slice b2 (ys.length - m) (cap1 - m)) := by
              intro ad n' c' e
              injection e with e1 _ _
              obtain ⟨ad', h1, h2⟩ := S4.out ad e1
              exact ⟨ad', _, _, by rw [h1], h2⟩
            have hr := Q1.out.setRow G4.out (by simp) Q5.out _ (ys.drop m) S3.out hb2 (by intro h1 h2; rw [h2] at h1; simp at h1) (by rw [List.length_drop]; omega)
            rw [E1.out]
            refine ⟨⟨_, hr.1⟩, (Q2.out.trans (G4.out.mono (by simp))).trans hr.2, a5, c5, by rw [HTL.out]; rfl, ?_, ?_⟩
            · refine G2.out.keep hr.2 ?_
              intro ad n' c' e hne hq
              injection e with e1 _ _
              have := G3.out ad e1
              have := Q1.out.lt
              simp at hq
              omega
            · intro ad had
              have := G3.out ad had
              have := Q2.out.size
              omega
  · have E1 := hid (show after zs bad (rdCount most zs) = (none, zs, bad) by unfold after; rw [if_pos hb])
    have b1 : (bad == 0) = false := by simpa using hb
    have b2 : (bad != 0) = true := by simpa using hb
    have EA := hid (show after zs bad (rdNum 2 zs) = (none, zs, bad) by unfold after; rw [if_pos hb])
    clear hb
    go_enter Try.func94, Try.ntmps94
    go_wp2_with fail
    refine (renum_any _ B q _ zs bad 2 H.out).mono ?_
    intro e w1 hq
    rw [EA.out] at hq
    obtain ⟨⟨v1, q1⟩, q2, rfl⟩ := hq
    have Q1 := hid q1
    have Q2 := hid q2
    have y0 := q1.cell0
    have y1 := q1.cell1
    have g0 := q1.free0
    clear q1 q2
    go_wp2_with fail
    go_ret
    have P := H.out.putBack Q2.out Q1.out
    rw [E1.out]
    exact REyePost.fail P.1 P.2
end Go.Proofs.Ytoglcohdanpciaa


/- The reference's eye in a later world (for every layer). -/
namespace Go.Proofs.Ytoglcohdanpciaa
open Go.RowKit
set_option maxRecDepth 100000
set_option linter.unusedSimpArgs false

def REyL (w : World) (B p : Nat) (st : PSt) : Prop := ∃ v2, REyeAt w B p v2 st.1 st.2
theorem REyL.num {wr : World} {B p : Nat} {st : PSt} (h : REyL wr B p st) (n : Int) :
    Calls Try.prog 68 #[.pointer (some ⟨p, 0, none⟩), .int .i64 n] wr fun e w' => e = .returned (.int .i64 (numE n st).1) ∧ REyL w' B p (numE n st).2 ∧ Keeps [p] wr w' := by
  obtain ⟨v2, he⟩ := h
  exact (renum_any wr B p v2 st.1 st.2 n he).mono fun e w' ⟨h1, k, m⟩ => by
    refine ⟨?_, h1, k⟩
    unfold numE
    cases hr : (after st.1 st.2 (rdNum n st.1)).1 with
    | none => rw [hr] at m; exact m
    | some x => rw [hr] at m; exact m
theorem REyL.later {wr w' : World} {B p g : Nat} {st : PSt} (h : REyL wr B p st) (k : Keeps [g] wr w') (hg : B ≤ g) (hp : p ≠ g) : REyL w' B p st := by
  obtain ⟨v2, he⟩ := h
  exact ⟨v2, he.keep k (by simpa using hp) (by simpa using hg)⟩
theorem REyL.more {wr w' : World} {B p : Nat} {st : PSt} (h : REyL wr B p st) (k : Keeps [] wr w') : REyL w' B p st := by
  obtain ⟨v2, he⟩ := h
  exact ⟨v2, he.keep k (by simp) (by simp)⟩
theorem REyL.lt {wr : World} {B p : Nat} {st : PSt} (h : REyL wr B p st) : p < wr.heap.size := by
  obtain ⟨v2, he⟩ := h
  exact lt_of_block he.blk
theorem REyL.cells {wr : World} {B p : Nat} {st : PSt} (h : REyL wr B p st) : wr.cell? ⟨p, 1, none⟩ = some (.int .i64 st.2) ∧ wr.frozen? ⟨p, 1, none⟩ = false := by
  obtain ⟨v2, he⟩ := h
  exact ⟨he.cell1, he.free1⟩
theorem reye_newB {w0 w : World} {u : Value} {zs : List Int} (k0 : Keeps [] w0 w) (h : RowAt w0 u zs) (hl : zs.length ≤ 35184372088832) : REyL (w.alloc (.cells #[u, .int .i64 0] 125)) w0.heap.size w.heap.size (zs, 0) := by
  have k := (k0).alloc (.cells #[u, .int .i64 0] 125)
  refine ⟨u, heap_alloc_new w _, h.keep k (by intro _ _ _ _ _; simp), fun S hS ad n c e hne hm => ?_, k0.size, hl⟩
  have hpos : 0 < zs.length := List.length_pos_iff.2 hne
  obtain ⟨g2, off, cap, rfl, _, hc⟩ := h.open hpos
  injection e with e1 _ _
  obtain rfl := Option.some.inj e1
  have h1 := World.block_lt_of_cell? _ _ (hc 0 hpos)
  have h2 := hS _ hm
  simp only at h1 h2
  omega
end Go.Proofs.Ytoglcohdanpciaa
