/- Walks of the reference's pen: Raw, Bool, Copy, Bytes; what both pens make of the same calls. -/
import Derived.Test.YtoglcohdanpciaaRefA
namespace Go.Proofs.Ytoglcohdanpciaa
open Go.RowKit

def refRawBad (bs : List Int) (s : List Int × Int) : Int :=
  if s.2 = 0 then (if 65535 < bs.length then 3 else if 65536 < s.1.length + 2 + bs.length then 3 else 0) else s.2
def refRaw (bs : List Int) (s : List Int × Int) : List Int × Int :=
  refAdd bs (refNum ((bs.length : Int) % 65536) 2 (s.1, refRawBad bs s))
def refBool (b : Bool) (s : List Int × Int) : List Int × Int := refNum (if b then 1 else 0) 1 s

set_option maxRecDepth 100000 in
set_option maxHeartbeats 1600000 in
theorem rraw_any (w : World) (B p : Nat) (v : Value) (zs : List Int) (bad : Int) (u : Value) (bs : List Int) (h : PenAt w B 151 5 p v zs bad) (hr : RowAt w u bs)
    (ho : Off (p :: v.ownBlock.toList) u bs) (hB : B ≤ w.heap.size) (hl : bs.length ≤ 35184372088832) :
    Calls Try.prog 88 #[.pointer (some ⟨p, 0, none⟩), u] w (PenPost w B 151 5 p v (refRaw bs (zs, bad))) := by
  have H := hid h
  have HR := hid hr
  have HO := hid ho
  have c0 := h.cell0
  have c1 := h.cell1
  have f0 := h.free0
  have f1 := h.free1
  have hfit := h.fits
  obtain ⟨va, vc, hv⟩ := h.vlen
  have HV := hid hv
  obtain ⟨a, cap, rfl, r1, r2, r3, r4, r5⟩ := hr
  have hb65 : bits .and .i64 (bs.length : Int) 65535 = (bs.length : Int) % 65536 := by
    have := i64_and bs.length 65535 (by omega) (by omega)
    rw [show ((65535 : Nat) : Int) = 65535 from rfl] at this
    rw [this, show (65535 : Nat) = 2 ^ 16 - 1 from rfl, Nat.and_two_pow_sub_one_eq_mod]
    omega
  clear h r3 r4 r5 ho hv
  by_cases hb : bad = 0
  · subst hb
    obtain rfl := HV.out
    clear HV
    by_cases h1 : 65535 < bs.length
    · have d1 : decide ((65535 : Int) < bs.length) = true := by simp; omega
      have E1 := hid (show refRawBad bs (zs, 0) = 3 by simp only [refRawBad, if_true]; rw [if_pos h1])
      have S1 : Hid (PenAt (w.setCell ⟨p, 1, none⟩ (.int .i64 3)) B 151 5 p (.slice va zs.length vc) zs 3) := by
        exact ⟨(heap_two H.out.blk _).2, ownsRow_setCell_other H.out.own H.out.ne _, H.out.ne, H.out.lo, H.out.byte, H.out.fits⟩
      have SK : Hid (Keeps (p :: (Value.slice va zs.length vc).ownBlock.toList) w (w.setCell ⟨p, 1, none⟩ (.int .i64 3))) := (Keeps.refl _ _).setCell (Or.inl (by simp)) _
      have SB : Hid (B ≤ (w.setCell ⟨p, 1, none⟩ (.int .i64 3)).heap.size) := by have := SK.out.size; exact Nat.le_trans hB this
      go_enter Try.func88, Try.ntmps88
      go_wp2_with fail
      refine (rnum_any _ B p _ zs 3 ((bs.length : Int) % 65536) 2 S1.out SB.out).mono ?_
      rintro e w1 ⟨rfl, v1, q1, q2, q3⟩
      have Q1 := hid q1
      have Q2 := hid (SK.out.trans q2)
      have Q3 : Hid (NewRow w (.slice va zs.length vc) v1) := by
        rcases q3 with q3 | q3
        · exact Or.inl q3
        · exact Or.inr fun k hk => Nat.le_trans SK.out.size (q3 k hk)
      clear q1 q2 q3
      go_wp2_with fail
      refine (radd_any _ B p v1 _ _ _ bs Q1.out (HR.out.keep Q2.out HO.out) (by have := Q2.out.size; omega) hl).mono ?_
      rintro e w2 hq
      obtain rfl := hq.1
      have HQ := hid hq
      clear hq
      go_wp2_with fail
      go_end0
      have e2 : refRaw bs (zs, 0) = refAdd bs (refNum ((bs.length : Int) % 65536) 2 (zs, 3)) := by unfold refRaw; rw [E1.out]
      rw [e2]
      clear e2 Q1
      generalize refNum ((bs.length : Int) % 65536) 2 (zs, 3) = r at *
      exact PenPost.then Q2.out Q3.out HQ.out
    · have d1 : decide ((65535 : Int) < bs.length) = false := by simp; omega
      by_cases h2 : 65536 < zs.length + 2 + bs.length
      · have d2 : decide ((65536 : Int) < zs.length + 2 + bs.length) = true := by simp; omega
        have E1 := hid (show refRawBad bs (zs, 0) = 3 by simp only [refRawBad, if_true]; rw [if_neg h1, if_pos h2])
        have S1 : Hid (PenAt (w.setCell ⟨p, 1, none⟩ (.int .i64 3)) B 151 5 p (.slice va zs.length vc) zs 3) := by
          exact ⟨(heap_two H.out.blk _).2, ownsRow_setCell_other H.out.own H.out.ne _, H.out.ne, H.out.lo, H.out.byte, H.out.fits⟩
        have SK : Hid (Keeps (p :: (Value.slice va zs.length vc).ownBlock.toList) w (w.setCell ⟨p, 1, none⟩ (.int .i64 3))) := (Keeps.refl _ _).setCell (Or.inl (by simp)) _
        have SB : Hid (B ≤ (w.setCell ⟨p, 1, none⟩ (.int .i64 3)).heap.size) := by have := SK.out.size; exact Nat.le_trans hB this
        go_enter Try.func88, Try.ntmps88
        go_wp2_with fail
        refine (rnum_any _ B p _ zs 3 ((bs.length : Int) % 65536) 2 S1.out SB.out).mono ?_
        rintro e w1 ⟨rfl, v1, q1, q2, q3⟩
        have Q1 := hid q1
        have Q2 := hid (SK.out.trans q2)
        have Q3 : Hid (NewRow w (.slice va zs.length vc) v1) := by
          rcases q3 with q3 | q3
          · exact Or.inl q3
          · exact Or.inr fun k hk => Nat.le_trans SK.out.size (q3 k hk)
        clear q1 q2 q3
        go_wp2_with fail
        refine (radd_any _ B p v1 _ _ _ bs Q1.out (HR.out.keep Q2.out HO.out) (by have := Q2.out.size; omega) hl).mono ?_
        rintro e w2 hq
        obtain rfl := hq.1
        have HQ := hid hq
        clear hq
        go_wp2_with fail
        go_end0
        have e2 : refRaw bs (zs, 0) = refAdd bs (refNum ((bs.length : Int) % 65536) 2 (zs, 3)) := by unfold refRaw; rw [E1.out]
        rw [e2]
        clear e2 Q1
        generalize refNum ((bs.length : Int) % 65536) 2 (zs, 3) = r at *
        exact PenPost.then Q2.out Q3.out HQ.out
      · have d2 : decide ((65536 : Int) < zs.length + 2 + bs.length) = false := by simp; omega
        have E1 := hid (show refRawBad bs (zs, 0) = 0 by simp only [refRawBad, if_true]; rw [if_neg h1, if_neg h2])
        have S1 := H
        have SK : Hid (Keeps (p :: (Value.slice va zs.length vc).ownBlock.toList) w w) := Keeps.refl _ _
        have SB := hid hB
        go_enter Try.func88, Try.ntmps88
        go_wp2_with fail
        refine (rnum_any _ B p _ zs 0 ((bs.length : Int) % 65536) 2 S1.out SB.out).mono ?_
        rintro e w1 ⟨rfl, v1, q1, q2, q3⟩
        have Q1 := hid q1
        have Q2 := hid (SK.out.trans q2)
        have Q3 : Hid (NewRow w (.slice va zs.length vc) v1) := by
          rcases q3 with q3 | q3
          · exact Or.inl q3
          · exact Or.inr fun k hk => Nat.le_trans SK.out.size (q3 k hk)
        clear q1 q2 q3
        go_wp2_with fail
        refine (radd_any _ B p v1 _ _ _ bs Q1.out (HR.out.keep Q2.out HO.out) (by have := Q2.out.size; omega) hl).mono ?_
        rintro e w2 hq
        obtain rfl := hq.1
        have HQ := hid hq
        clear hq
        go_wp2_with fail
        go_end0
        have e2 : refRaw bs (zs, 0) = refAdd bs (refNum ((bs.length : Int) % 65536) 2 (zs, 0)) := by unfold refRaw; rw [E1.out]
        rw [e2]
        clear e2 Q1
        generalize refNum ((bs.length : Int) % 65536) 2 (zs, 0) = r at *
        exact PenPost.then Q2.out Q3.out HQ.out
  · have hb' : (bad == 0) = false := by simpa using hb
    have E1 := hid (show refRawBad bs (zs, bad) = bad by simp only [refRawBad]; rw [if_neg hb])
    clear HV hb
    have S1 := H
    have SK : Hid (Keeps (p :: v.ownBlock.toList) w w) := Keeps.refl _ _
    have SB := hid hB
    go_enter Try.func88, Try.ntmps88
    go_wp2_with fail
    refine (rnum_any _ B p _ zs bad ((bs.length : Int) % 65536) 2 S1.out SB.out).mono ?_
    rintro e w1 ⟨rfl, v1, q1, q2, q3⟩
    have Q1 := hid q1
    have Q2 := hid (SK.out.trans q2)
    have Q3 : Hid (NewRow w v v1) := by
      rcases q3 with q3 | q3
      · exact Or.inl q3
      · exact Or.inr fun k hk => Nat.le_trans SK.out.size (q3 k hk)
    clear q1 q2 q3
    go_wp2_with fail
    refine (radd_any _ B p v1 _ _ _ bs Q1.out (HR.out.keep Q2.out HO.out) (by have := Q2.out.size; omega) hl).mono ?_
    rintro e w2 hq
    obtain rfl := hq.1
    have HQ := hid hq
    clear hq
    go_wp2_with fail
    go_end0
    have e2 : refRaw bs (zs, bad) = refAdd bs (refNum ((bs.length : Int) % 65536) 2 (zs, bad)) := by unfold refRaw; rw [E1.out]
    rw [e2]
    clear e2 Q1
    generalize refNum ((bs.length : Int) % 65536) 2 (zs, bad) = r at *
    exact PenPost.then Q2.out Q3.out HQ.out

set_option maxHeartbeats 400000 in
theorem rbool_any (w : World) (B p : Nat) (v : Value) (zs : List Int) (bad : Int) (b : Bool) (h : PenAt w B 151 5 p v zs bad) (hB : B ≤ w.heap.size) :
    Calls Try.prog 89 #[.pointer (some ⟨p, 0, none⟩), .bool b] w (PenPost w B 151 5 p v (refBool b (zs, bad))) := by
  have H := hid h
  clear h
  cases b with
  | true =>
    go_enter Try.func89, Try.ntmps89
    go_wp2_with fail
    refine (rnum_any _ B p v zs bad 1 1 H.out hB).mono ?_
    rintro e w' ⟨rfl, hq⟩
    go_wp2_with fail
    go_end0
    exact ⟨rfl, hq⟩
  | false =>
    go_enter Try.func89, Try.ntmps89
    go_wp2_with fail
    refine (rnum_any _ B p v zs bad 0 1 H.out hB).mono ?_
    rintro e w' ⟨rfl, hq⟩
    go_wp2_with fail
    go_end0
    exact ⟨rfl, hq⟩
end Go.Proofs.Ytoglcohdanpciaa
