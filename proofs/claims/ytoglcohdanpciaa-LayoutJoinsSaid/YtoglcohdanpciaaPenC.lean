/- Walks of the pen: Raw, Text, Bool, Bytes. -/
import Derived.Test.YtoglcohdanpciaaClone
namespace Go.Proofs.Ytoglcohdanpciaa
open Go.RowKit

def penRaw (bs : List Int) (s : List Int × Int) : List Int × Int :=
  if bs.length > 65535 then penFail 3 s else penAdd bs (penNum bs.length 2 s)
def penBool (b : Bool) (s : List Int × Int) : List Int × Int := penNum (if b then 1 else 0) 1 s

/-- Two calls one behind the other. -/
theorem PenPost.then {w w1 w2 : World} {B : Nat} {T U : TypeId} {p : Nat} {v v1 : Value} {s' : List Int × Int} (k1 : Keeps (p :: v.ownBlock.toList) w w1) (n1 : NewRow w v v1) {e : Ending}
    (h2 : PenPost w1 B T U p v1 s' e w2) : PenPost w B T U p v s' e w2 := by
  obtain ⟨rfl, v2, q1, q2, q3⟩ := h2
  refine ⟨rfl, v2, q1, k1.trans' q2 ?_, ?_⟩
  · intro i hi hm
    rcases List.mem_cons.1 hm with hm | hm
    · exact List.mem_cons.2 (Or.inl hm)
    · rcases n1 with n1 | n1
      · rw [n1] at hm; exact List.mem_cons.2 (Or.inr hm)
      · have := n1 i (by simpa using hm)
        omega
  · have hs := k1.size
    rcases q3 with q3 | q3
    · rcases n1 with n1 | n1
      · exact Or.inl (q3.trans n1)
      · exact Or.inr fun k hk => n1 k (by rw [← q3]; exact hk)
    · exact Or.inr fun k hk => by have := q3 k hk; omega

set_option maxHeartbeats 400000 in
theorem raw_any (w : World) (B p : Nat) (v : Value) (zs : List Int) (bad : Int) (u : Value) (bs : List Int) (h : PenAt w B 172 5 p v zs bad) (hr : RowAt w u bs)
    (ho : Off (p :: v.ownBlock.toList) u bs) (hB : B ≤ w.heap.size) (hl : bs.length ≤ 35184372088832) :
    Calls Try.prog 127 #[.pointer (some ⟨p, 0, none⟩), u] w (PenPost w B 172 5 p v (penRaw bs (zs, bad))) := by
  have H := hid h
  have HR := hid hr
  have HO := hid ho
  have hp := h.lt
  obtain ⟨a, cap, rfl, r1, r2, r3, r4, r5⟩ := hr
  clear h r3 r4 r5 ho
  by_cases hb : bs.length > 65535
  · have e1 : penRaw bs (zs, bad) = penFail 3 (zs, bad) := by simp [penRaw, hb]
    have E1 := hid e1
    clear e1
    have hb' : (65535 : Int) < bs.length := by omega
    go_enter Try.func127, Try.ntmps127
    go_wp2_with fail
    refine (give_any _ B p v zs bad 3 H.out).mono ?_
    rintro e w' ⟨rfl, hq⟩
    go_wp2_with fail
    go_end0
    rw [E1.out]
    exact ⟨rfl, hq⟩
  · have e1 : penRaw bs (zs, bad) = penAdd bs (penNum bs.length 2 (zs, bad)) := by rw [penRaw, if_neg hb]
    have E1 := hid e1
    clear e1
    have hb' : ¬ (65535 : Int) < bs.length := by omega
    go_enter Try.func127, Try.ntmps127
    go_wp2_with fail
    refine (num_any _ B p v zs bad bs.length 2 H.out hB).mono ?_
    rintro e w1 ⟨rfl, v1, q1, q2, q3⟩
    have Q1 := hid q1
    have Q2 := hid q2
    have Q3 := hid q3
    clear q1 q2 q3
    go_wp2_with fail
    refine (add_any _ B p v1 _ _ _ bs Q1.out (HR.out.keep Q2.out HO.out) (by have := Q2.out.size; omega)).mono ?_
    rintro e w2 hq
    obtain rfl := hq.1
    have HQ := hid hq
    clear hq
    go_wp2_with fail
    go_end0
    rw [E1.out]
    exact PenPost.then Q2.out Q3.out HQ.out

set_option maxHeartbeats 400000 in
theorem bool_any (w : World) (B p : Nat) (v : Value) (zs : List Int) (bad : Int) (b : Bool) (h : PenAt w B 172 5 p v zs bad) (hB : B ≤ w.heap.size) :
    Calls Try.prog 124 #[.pointer (some ⟨p, 0, none⟩), .bool b] w (PenPost w B 172 5 p v (penBool b (zs, bad))) := by
  have H := hid h
  clear h
  cases b with
  | true =>
    go_enter Try.func124, Try.ntmps124
    go_wp2_with fail
    refine (num_any _ B p v zs bad 1 1 H.out hB).mono ?_
    rintro e w' ⟨rfl, hq⟩
    go_wp2_with fail
    go_end0
    exact ⟨rfl, hq⟩
  | false =>
    go_enter Try.func124, Try.ntmps124
    go_wp2_with fail
    refine (num_any _ B p v zs bad 0 1 H.out hB).mono ?_
    rintro e w' ⟨rfl, hq⟩
    go_wp2_with fail
    go_end0
    exact ⟨rfl, hq⟩

def codes (s : ByteArray) : List Int := s.data.toList.map fun b => (b.toNat : Int)
theorem codes_length (s : ByteArray) : (codes s).length = s.size := by simp [codes]
theorem codes_byte (s : ByteArray) : ∀ z ∈ codes s, 0 ≤ z ∧ z ≤ 255 := by
  intro z hz
  obtain ⟨b, _, rfl⟩ := List.mem_map.1 hz
  have := b.toNat_lt
  omega

/-- The bytes of a string in new memory. -/
theorem row_of_string (w : World) (s : ByteArray) (n : Nat) (e : TypeId) (f : Nat × Nat) (hn : s.size ≤ n) (hm : n ≤ maxLen) :
    RowAt (w.alloc (.cells (bytesRow s n) e f)) (.slice (some ⟨w.heap.size, 0, none⟩) s.size n) (codes s) := by
  refine ⟨some ⟨w.heap.size, 0, none⟩, n, by rw [codes_length], by rw [codes_length]; omega, hm, by simp, codes_byte s, ?_⟩
  rintro ad had j u hu
  obtain rfl := Option.some.inj had
  have hj : j < s.size := by
    have := (List.getElem?_eq_some_iff.1 hu).1
    simpa [codes_length] using this
  rw [Addr.add_lit, cell_of_row _ _ _ _ _ _ (heap_alloc_new w _), Nat.zero_add, bytesRow_at s n j hj]
  rw [← hu]
  have hj' : j < s.data.toList.length := by rw [Array.length_toList]; exact hj
  simp [codes, List.getElem?_eq_getElem hj']

set_option maxHeartbeats 400000 in
theorem text_any (w : World) (B p : Nat) (v : Value) (zs : List Int) (bad : Int) (s : ByteArray) (h : PenAt w B 172 5 p v zs bad) (hB : B ≤ w.heap.size) (hl : s.size ≤ 35184372088832) :
    Calls Try.prog 139 #[.pointer (some ⟨p, 0, none⟩), .string s] w (PenPost w B 172 5 p v (penRaw (codes s) (zs, bad))) := by
  have H := hid h
  have hp := h.lt
  have hv := h.own.lt
  have HV := hid hv
  have hcv := fun w => run_bytes_of_string (P := Try.prog) w 9 34 5 s Try.underlying9 Try.underlying34 Try.underlying5
  clear h hv
  go_enter Try.func139, Try.ntmps139
  go_wp2_with fail
  have hc1 := grownCap_ge w s.size 0 5
  have hc2 := grownCap_le_maxLen w s.size 0 5 (by unfold maxLen; omega)
  generalize grownCap w s.size 0 5 = n at *
  have K0 := ((Keeps.refl [] w).alloc (.cells (bytesRow s n) 5 ((bytesRow s n).size, (bytesRow s n).size + 1))).drew
  have R0 : RowAt ((w.alloc (.cells (bytesRow s n) 5 ((bytesRow s n).size, (bytesRow s n).size + 1))).drew) (.slice (some ⟨w.heap.size, 0, none⟩) s.size n) (codes s) :=
    (row_of_string w s n 5 _ hc1 hc2).keep (S := []) (Keeps.refl _ _).drew (by intro _ _ _ _ _; simp)
  refine (raw_any _ B p v zs bad _ (codes s) (H.out.keep K0 (by simp) (by simp)) R0 ?_ (by simp; omega) (by rw [codes_length]; exact hl)).mono ?_
  · intro ad _ _ hs _ hm
    injection hs with e1 _ _
    obtain rfl := Option.some.inj e1
    rcases List.mem_cons.1 hm with hm | hm
    · simp at hm; omega
    · have := (HV.out _ (by simpa using hm)).2
      simp at this
  · rintro e w2 hq
    obtain rfl := hq.1
    have HQ := hid hq
    clear hq
    go_wp2_with fail
    go_end0
    obtain ⟨_, v', q1, q2, q3⟩ := HQ.out
    refine ⟨rfl, v', q1, (K0.mono (by simp)).trans q2, ?_⟩
    rcases q3 with q3 | q3
    · exact Or.inl q3
    · exact Or.inr fun k hk => by have := q3 k hk; simp at this; omega

/-- What Bytes answers: a row of new memory and OK, or none and the error. -/
def BytesPost (w : World) (s : List Int × Int) (e : Ending) (w' : World) : Prop :=
  ∃ a c, (let zs := if s.2 = 0 then s.1 else []
    e = .returned (.tuple #[.slice a zs.length c, .int .i64 s.2]) ∧ RowAt w' (.slice a zs.length c) zs ∧ (∀ ad, a = some ad → w.heap.size ≤ ad.block) ∧ Keeps [] w w')

set_option maxHeartbeats 400000 in
theorem bytes_any (w : World) (B p : Nat) (v : Value) (zs : List Int) (bad : Int) (h : PenAt w B 172 5 p v zs bad) :
    Calls Try.prog 107 #[.pointer (some ⟨p, 0, none⟩)] w (BytesPost w (zs, bad)) := by
  have H := hid h
  have c0 := h.cell0
  have c1 := h.cell1
  by_cases hb : bad = 0
  · subst hb
    have HR := hid (row_of_own h.own h.byte)
    have hn := h.fits
    clear h
    go_enter Try.func107, Try.ntmps107
    go_wp2_with fail
    refine (clone_any _ v zs HR.out (by omega)).mono ?_
    rintro e w1 ⟨a, c, rfl, q1, q2, q3⟩
    have Q1 := hid q1
    have Q2 := hid q2
    have Q3 := hid q3
    clear q1 q2 q3
    go_wp2_with fail
    go_ret2
    exact ⟨a, c, rfl, Q1.out, Q2.out, Q3.out⟩
  · have hb1 : (bad == 0) = false := by simpa using hb
    have hb2 : (bad != 0) = true := by simpa using hb
    have HB := hid hb
    clear h hb
    go_enter Try.func107, Try.ntmps107
    go_wp2_with fail
    go_region
    all_goals go_wp2
    go_ret2
    refine ⟨none, 0, ?_, ?_, by simp, ?_⟩
    · simp [HB.out]
    · simp only [HB.out, if_false]
      exact RowAt.nil _
    · exact (Keeps.refl _ _).drew

end Go.Proofs.Ytoglcohdanpciaa
