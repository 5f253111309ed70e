/- LyE, LyF, LyG. -/
import Derived.Test.YtoglcohdanpciaaLyJ1
import Derived.Test.YtoglcohdanpciaaNumK
import Derived.Test.YtoglcohdanpciaaAwake
import Derived.Test.YtoglcohdanpciaaRefC
import Derived.Test.YtoglcohdanpciaaKitB
/- layout: a fragment is formed: its head's bytes, then its own (form; the reference's head). -/
namespace Go.Proofs.Ytoglcohdanpciaa
open Go.RowKit
set_option maxRecDepth 100000
set_option linter.unusedSimpArgs false
set_option linter.unusedVariables false

theorem ownsRow_low {w : World} {B B' : Nat} {e : TypeId} {s : Nat} {v : Value} {n : Nat} {xs : List Value} (hB : B' ≤ B) (h : w.ownsRow B e s v n xs) : w.ownsRow B' e s v n xs := by
  refine ⟨h.1, ?_⟩
  rcases h.2 with hn | ⟨g, cap, cur, rfl, hb, rest⟩
  · exact Or.inl hn
  · exact Or.inr ⟨g, cap, cur, rfl, Nat.le_trans hB hb, rest⟩
theorem cloneO_any (w : World) (v : Value) (zs : List Int) (h : RowAt w v zs) (hn : zs.length ≤ 35184372088832) :
    Calls Try.prog 113 #[v] w (OwnPost w zs) := by
  have HR := hid h
  obtain ⟨a, cap, rfl, h1, h2, h3, h4, h5⟩ := h
  obtain ⟨i0, hi, hz0, hz1, hz2⟩ := info_parts info5
  clear h5 h4 h2
  cases a with
  | none =>
    obtain rfl := h3 rfl
    obtain rfl : zs = [] := List.eq_nil_of_length_eq_zero (by omega)
    clear h1 h3
    have hnil : ∀ W, (binOp .eql 34 (.slice none 0 0) (.slice none 0 0)).run Try.prog W = .ok (.bool true) W := fun W => Lib.run_eql_slice_nil W _ _ _ _ _ _ _ Try.underlying34
    simp only [List.length_nil] at *
    go_enter Try.func113, Try.ntmps113
    go_wp2_with fail
    go_ret
    exact ⟨none, 0, rfl, World.ownsRow_nil _ _ _ _, Keeps.refl _ _⟩
  | some ad =>
    clear h3
    have hnil : ∀ W, (binOp .eql 34 (.slice (some ad) zs.length cap) (.slice none 0 0)).run Try.prog W = .ok (.bool false) W := fun W => Lib.run_eql_slice_nil W _ _ _ _ _ _ _ Try.underlying34
    go_enter Try.func113, Try.ntmps113
    have HO := hid (World.ownsRow_made (base := w.heap.size) (e := 5) (size := 1) w #[] 0 (Nat.le_refl _) (by unfold maxLen; omega) (by simp))
    have HR2 := hid (HR.out.keep ((Keeps.refl [] w).alloc (.cells #[] 5)) (by intro _ _ _ _ _; simp))
    go_wp2_with (at_builtin; refine wpList_append_row rfl _ _ 34 rfl w.heap.size 5 i0 (.int .u8 0) Try.underlying34 hi hz0 hz1 hz2 rfl (.slice (some ⟨w.heap.size, 0, none⟩) 0 0) 0 [] rfl HO.out _ zs rfl HR2.out (by omega) (by simp) ?_; intro a' c' w1 k1 k2 k3; simp only [Nat.zero_add, List.nil_append] at k1 k3 ⊢)
    go_ret
    exact ⟨a', c', rfl, k1.out, ((Keeps.refl [] w).alloc _).grown k2.out (fun k hk => Or.inr (by simp [Value.ownBlock] at hk; omega))⟩
/-- A pen's bytes, the call's own. -/
theorem bytesO_any (w : World) (B p : Nat) (v : Value) (zs : List Int) (h : PenAt w B 172 5 p v zs 0) :
    Calls Try.prog 107 #[.pointer (some ⟨p, 0, none⟩)] w fun e w' => ∃ a c, e = .returned (.tuple #[.slice a zs.length c, .int .i64 0]) ∧ w'.ownsRow w.heap.size 5 1 (.slice a zs.length c) zs.length (zs.map (Value.int .u8)) ∧ Keeps [] w w' := by
  have c0 := h.cell0
  have c1 := h.cell1
  have HR := hid (row_of_own h.own h.byte)
  have hn := h.fits
  clear h
  go_enter Try.func107, Try.ntmps107
  go_wp2_with fail
  refine (cloneO_any _ v zs HR.out (by omega)).mono ?_
  rintro e w1 ⟨a, c, rfl, q1, q3⟩
  have Q1 := hid q1
  have Q3 := hid q3
  clear q1 q3
  go_wp2_with fail
  go_ret2
  exact ⟨a, c, rfl, Q1.out, Q3.out⟩

/-- A head's bytes. -/
def headB13 (h : Hd13) : List Int := be h.s.c 1 ++ be h.s.l 3 ++ be h.s.n 4 ++ be h.i 1 ++ be h.n 1 ++ be h.z 2
theorem headB13_len (h : Hd13) : (headB13 h).length = 12 := by simp [headB13, be_length]
theorem headB13_byte (h : Hd13) : ∀ z ∈ headB13 h, 0 ≤ z ∧ z ≤ 255 := by
  intro z hz
  unfold headB13 at hz
  simp only [List.mem_append] at hz
  rcases hz with ((((hz | hz) | hz) | hz) | hz) | hz <;> exact be_byte _ _ z hz
structure FitH (h : Hd13) : Prop where
  c : FitN h.s.c 1
  l : FitN h.s.l 3
  n : FitN h.s.n 4
  i : FitN h.i 1
  k : FitN h.n 1
  z : FitN h.z 2
theorem fit_n {x : Int} {n : Nat} (h1 : 1 ≤ n) (h7 : n ≤ 7) (h0 : 0 ≤ x) (hx : x < 256 ^ n) : FitN x n := ⟨h1, h7, h0, hx⟩
theorem fitH_of {s : Spe} {i n z : Int} (hs : mayE s = true) (h : SmallF i z n) : FitH ⟨s, i, n, z⟩ := by
  unfold mayE msB at hs
  rw [Bool.and_eq_true, Bool.and_eq_true, btw_is, btw_is, btw_is] at hs
  obtain ⟨i0, i1, z0, z1, n0, n1⟩ := h
  exact ⟨fit_n (by decide) (by decide) (by show 0 ≤ s.c; omega) (by show s.c < 256; omega), fit_n (by decide) (by decide) (by show 0 ≤ s.l; omega) (by show s.l < 16777216; omega), fit_n (by decide) (by decide) (by show 0 ≤ s.n; omega) (by show s.n < 4294967296; omega),
    fit_n (by decide) (by decide) i0 (by show i < 256; omega), fit_n (by decide) (by decide) (by show (0 : Int) ≤ n; omega) (by show n < 256; omega), fit_n (by decide) (by decide) z0 (by show z < 65536; omega)⟩

/-- A number that fits is written. -/
theorem PenSince.numF {w W : World} {p : Nat} {v : Value} {zs : List Int} (x : Int) (n : Nat) (h : PenSince w W 172 p v zs 0) (hf : FitN x n) (hl : zs.length + n ≤ 65536) :
    Calls Try.prog 106 #[.pointer (some ⟨p, 0, none⟩), .int .i64 x, .int .i64 n] W fun e W' => e = .returned (.tuple #[]) ∧ ∃ v', PenSince w W' 172 p v' (zs ++ be x n) 0 :=
  (num_any W w.heap.size p v zs 0 x n h.pen h.kept.size).mono fun e W' hq => by
    obtain ⟨rfl, v', q⟩ := h.step hq
    rw [(penNum_fit (n : Int) rfl hf hl).1] at q
    exact ⟨rfl, v', q⟩
theorem PenSince.rnumF {w W : World} {p : Nat} {v : Value} {zs : List Int} (x : Int) (n : Nat) (h : PenSince w W 151 p v zs 0) (hf : FitN x n) (hl : zs.length + n ≤ 65536) :
    Calls Try.prog 87 #[.pointer (some ⟨p, 0, none⟩), .int .i64 x, .int .i64 n] W fun e W' => e = .returned (.tuple #[]) ∧ ∃ v', PenSince w W' 151 p v' (zs ++ be x n) 0 :=
  (rnum_any W w.heap.size p v zs 0 x n h.pen h.kept.size).mono fun e W' hq => by
    obtain ⟨rfl, v', q⟩ := h.step hq
    rw [(penNum_fit (n : Int) rfl hf hl).2] at q
    exact ⟨rfl, v', q⟩
/-- The cells of a box that is kept. -/
theorem box_cell13 {w W X : World} {b : Nat} {cs : Array Value} {T : TypeId} (h : W.heap[b]? = some (.cells cs T (0, 0))) (k : Keeps [] W X) (i : Nat) : X.cell? ⟨b, i, none⟩ = cs[i]? :=
  (five_cells ((k.block b (lt_of_block h) (by simp)).trans h) i).1

set_option maxHeartbeats 12800000 in
theorem lform_any (w : World) (h : Hd13) (v : Value) (row : List Int) (hf : FitH h) (hr : RowAt w v row) (hl : row.length ≤ 65536) : Calls Try.prog 59 #[hdV13 h, v] w (RowPost w (headB13 h ++ row)) := by
  have BX := hid (heap_alloc_new w (.cells #[.int .i64 h.s.c, .int .i64 h.s.l, .int .i64 h.s.n, .int .i64 h.i, .int .i64 h.n, .int .i64 h.z] 33))
  have KW := hid ((Keeps.refl [] w).alloc (.cells #[.int .i64 h.s.c, .int .i64 h.s.l, .int .i64 h.s.n, .int .i64 h.i, .int .i64 h.n, .int .i64 h.z] 33))
  have P0 := hid (PenSince.new (w.alloc (.cells #[.int .i64 h.s.c, .int .i64 h.s.l, .int .i64 h.s.n, .int .i64 h.i, .int .i64 h.n, .int .i64 h.z] 33)) (Keeps.refl [] _) 172)
  rw [World.size_alloc] at P0
  have HF := hid hf
  clear hf
  have HR := hid hr
  clear hr
  unfold hdV13
  go_enter Try.func59, Try.ntmps59
  go_wp2_with fail
  refine (P0.out.numF h.s.c 1 HF.out.c (by simp [be_length])).mono ?_
  rintro e W1 ⟨rfl, v1, q⟩
  have P1 := hid q
  clear q
  have cc := box_cell13 (w := w) BX.out P1.out.kept 1
  simp only [List.getElem?_toArray, List.getElem?_cons_zero, List.getElem?_cons_succ] at cc
  go_wp2_with fail
  clear cc
  refine (P1.out.numF h.s.l 3 HF.out.l (by simp [be_length])).mono ?_
  rintro e W2 ⟨rfl, v2, q⟩
  have P2 := hid q
  clear q
  have cc := box_cell13 (w := w) BX.out P2.out.kept 2
  simp only [List.getElem?_toArray, List.getElem?_cons_zero, List.getElem?_cons_succ] at cc
  go_wp2_with fail
  clear cc
  refine (P2.out.numF h.s.n 4 HF.out.n (by simp [be_length])).mono ?_
  rintro e W3 ⟨rfl, v3, q⟩
  have P3 := hid q
  clear q
  have cc := box_cell13 (w := w) BX.out P3.out.kept 3
  simp only [List.getElem?_toArray, List.getElem?_cons_zero, List.getElem?_cons_succ] at cc
  go_wp2_with fail
  clear cc
  refine (P3.out.numF h.i 1 HF.out.i (by simp [be_length])).mono ?_
  rintro e W4 ⟨rfl, v4, q⟩
  have P4 := hid q
  clear q
  have cc := box_cell13 (w := w) BX.out P4.out.kept 4
  simp only [List.getElem?_toArray, List.getElem?_cons_zero, List.getElem?_cons_succ] at cc
  go_wp2_with fail
  clear cc
  refine (P4.out.numF h.n 1 HF.out.k (by simp [be_length])).mono ?_
  rintro e W5 ⟨rfl, v5, q⟩
  have P5 := hid q
  clear q
  have cc := box_cell13 (w := w) BX.out P5.out.kept 5
  simp only [List.getElem?_toArray, List.getElem?_cons_zero, List.getElem?_cons_succ] at cc
  go_wp2_with fail
  clear cc
  refine (P5.out.numF h.z 2 HF.out.z (by simp [be_length])).mono ?_
  rintro e W6 ⟨rfl, v6, q⟩
  have P6 := hid q
  clear q
  go_wp2_with fail
  refine (bytesO_any _ _ _ v6 _ P6.out.pen).mono ?_
  rintro e W7 ⟨a, c, rfl, q1, q2⟩
  have HB := hid (show [] ++ be h.s.c 1 ++ be h.s.l 3 ++ be h.s.n 4 ++ be h.i 1 ++ be h.n 1 ++ be h.z 2 = headB13 h from rfl)
  rw [HB.out] at q1 ⊢
  rw [headB13_len] at q1 ⊢
  have O := hid q1
  have K7 := hid (KW.out.trans (P6.out.kept.trans q2))
  have R7 := hid (HR.out.later K7.out)
  have q2s := hid q2.size
  have S6 := hid P6.out.kept.size
  obtain ⟨i0, hi, hz0, hz1, hz2⟩ := info_parts info5
  clear q1 q2
  go_wp2_with (at_builtin; refine wpList_append_row rfl _ _ 34 rfl W6.heap.size 5 i0 (.int .u8 0) Try.underlying34 hi hz0 hz1 hz2 rfl (.slice a 12 c) 12 ((headB13 h).map (Value.int .u8)) rfl O.out _ row rfl R7.out (by omega) q2s.out ?_; intro a' c' w8 k1 k2 k3)
  go_ret
  have k1' := k1.out
  rw [← List.map_append] at k1'
  have hlen : (headB13 h ++ row).length = 12 + row.length := by rw [List.length_append, headB13_len]
  refine ⟨a', c', by rw [hlen]; rfl, ?_, ?_, ?_⟩
  · rw [hlen]
    exact row_of_own (by rw [hlen]; exact k1') (fun z hz => by
      rcases List.mem_append.1 hz with hz | hz
      · exact headB13_byte h z hz
      · exact R7.out.bytes z hz)
  · rintro ad rfl
    have := (k1'.lt _ rfl).1
    have := S6.out
    rw [World.size_alloc] at this
    omega
  · exact K7.out.grown k2.out (fun k hk => Or.inr (by have := (O.out.lt k hk).1; have := S6.out; rw [World.size_alloc] at this; omega))

set_option maxHeartbeats 12800000 in
theorem rhead_any (w : World) (h : Hd13) (hf : FitH h) : Calls Try.prog 67 #[hdV13 h] w (OwnPost w (headB13 h)) := by
  have BX := hid (heap_alloc_new w (.cells #[.int .i64 h.s.c, .int .i64 h.s.l, .int .i64 h.s.n, .int .i64 h.i, .int .i64 h.n, .int .i64 h.z] 46))
  have KW := hid ((Keeps.refl [] w).alloc (.cells #[.int .i64 h.s.c, .int .i64 h.s.l, .int .i64 h.s.n, .int .i64 h.i, .int .i64 h.n, .int .i64 h.z] 46))
  have P0 := hid (PenSince.new (w.alloc (.cells #[.int .i64 h.s.c, .int .i64 h.s.l, .int .i64 h.s.n, .int .i64 h.i, .int .i64 h.n, .int .i64 h.z] 46)) (Keeps.refl [] _) 151)
  rw [World.size_alloc] at P0
  have HF := hid hf
  clear hf
  unfold hdV13
  go_enter Try.func67, Try.ntmps67
  go_wp2_with fail
  refine (P0.out.rnumF h.s.c 1 HF.out.c (by simp [be_length])).mono ?_
  rintro e W1 ⟨rfl, v1, q⟩
  have P1 := hid q
  clear q
  have cc := box_cell13 (w := w) BX.out P1.out.kept 1
  simp only [List.getElem?_toArray, List.getElem?_cons_zero, List.getElem?_cons_succ] at cc
  go_wp2_with fail
  clear cc
  refine (P1.out.rnumF h.s.l 3 HF.out.l (by simp [be_length])).mono ?_
  rintro e W2 ⟨rfl, v2, q⟩
  have P2 := hid q
  clear q
  have cc := box_cell13 (w := w) BX.out P2.out.kept 2
  simp only [List.getElem?_toArray, List.getElem?_cons_zero, List.getElem?_cons_succ] at cc
  go_wp2_with fail
  clear cc
  refine (P2.out.rnumF h.s.n 4 HF.out.n (by simp [be_length])).mono ?_
  rintro e W3 ⟨rfl, v3, q⟩
  have P3 := hid q
  clear q
  have cc := box_cell13 (w := w) BX.out P3.out.kept 3
  simp only [List.getElem?_toArray, List.getElem?_cons_zero, List.getElem?_cons_succ] at cc
  go_wp2_with fail
  clear cc
  refine (P3.out.rnumF h.i 1 HF.out.i (by simp [be_length])).mono ?_
  rintro e W4 ⟨rfl, v4, q⟩
  have P4 := hid q
  clear q
  have cc := box_cell13 (w := w) BX.out P4.out.kept 4
  simp only [List.getElem?_toArray, List.getElem?_cons_zero, List.getElem?_cons_succ] at cc
  go_wp2_with fail
  clear cc
  refine (P4.out.rnumF h.n 1 HF.out.k (by simp [be_length])).mono ?_
  rintro e W5 ⟨rfl, v5, q⟩
  have P5 := hid q
  clear q
  have cc := box_cell13 (w := w) BX.out P5.out.kept 5
  simp only [List.getElem?_toArray, List.getElem?_cons_zero, List.getElem?_cons_succ] at cc
  go_wp2_with fail
  clear cc
  refine (P5.out.rnumF h.z 2 HF.out.z (by simp [be_length])).mono ?_
  rintro e W6 ⟨rfl, v6, q⟩
  have P6 := hid q
  clear q
  have cc := P6.out.pen.cell0
  go_wp2_with fail
  go_ret
  have o := P6.out.pen.own
  have HB : [] ++ be h.s.c 1 ++ be h.s.l 3 ++ be h.s.n 4 ++ be h.i 1 ++ be h.n 1 ++ be h.z 2 = headB13 h := rfl
  rw [HB] at o
  obtain ⟨a, c, hv⟩ := P6.out.pen.vlen
  rw [HB] at hv
  subst hv
  refine ⟨a, c, rfl, ?_, KW.out.trans P6.out.kept⟩
  exact ownsRow_low (by rw [World.size_alloc]; omega) o
end Go.Proofs.Ytoglcohdanpciaa


/- layout, plainly: what a fragment's bytes say. -/
namespace Go.Proofs.Ytoglcohdanpciaa
open Go.RowKit
set_option maxRecDepth 100000
set_option linter.unusedSimpArgs false
set_option linter.unusedVariables false

/-- The six numbers of a head. -/
def headS13 (st : PSt) : Hd13 × PSt :=
  let a := numE 1 st; let b := numE 3 a.2; let c := numE 4 b.2; let d := numE 1 c.2; let f := numE 1 d.2; let g := numE 2 f.2
  (⟨⟨a.1, b.1, c.1⟩, d.1, f.1, g.1⟩, g.2)
def hZ13 : Hd13 := ⟨⟨0, 0, 0⟩, 0, 0, 0⟩
theorem headS_of {st s1 s2 s3 s4 s5 s6 : PSt} {x1 x2 x3 x4 x5 x6 : Int} (e1 : numE 1 st = (x1, s1)) (e2 : numE 3 s1 = (x2, s2)) (e3 : numE 4 s2 = (x3, s3)) (e4 : numE 1 s3 = (x4, s4)) (e5 : numE 1 s4 = (x5, s5)) (e6 : numE 2 s5 = (x6, s6)) :
    headS13 st = (⟨⟨x1, x2, x3⟩, x4, x5, x6⟩, s6) := by
  unfold headS13
  rw [e1]; simp only
  rw [e2]; simp only
  rw [e3]; simp only
  rw [e4]; simp only
  rw [e5]; simp only
  rw [e6]
theorem headS_be {h : Hd13} (hf : FitH h) (r : List Int) : headS13 (headB13 h ++ r, 0) = (h, (r, 0)) := by
  unfold headB13
  simp only [List.append_assoc]
  exact headS_of (numE_be 1 rfl hf.c _) (numE_be 3 rfl hf.l _) (numE_be 4 rfl hf.n _) (numE_be 1 rfl hf.i _) (numE_be 1 rfl hf.k _) (numE_be 2 rfl hf.z _)
theorem headS_ok {zs : List Int} (hb : ∀ z ∈ zs, 0 ≤ z ∧ z ≤ 255) (h0 : (headS13 (zs, 0)).2.2 = 0) : zs = headB13 (headS13 (zs, 0)).1 ++ (headS13 (zs, 0)).2.1 ∧ FitH (headS13 (zs, 0)).1 := by
  obtain ⟨x1, s1, e1⟩ : ∃ x s, numE 1 (zs, 0) = (x, s) := ⟨_, _, rfl⟩
  obtain ⟨x2, s2, e2⟩ : ∃ x s, numE 3 s1 = (x, s) := ⟨_, _, rfl⟩
  obtain ⟨x3, s3, e3⟩ : ∃ x s, numE 4 s2 = (x, s) := ⟨_, _, rfl⟩
  obtain ⟨x4, s4, e4⟩ : ∃ x s, numE 1 s3 = (x, s) := ⟨_, _, rfl⟩
  obtain ⟨x5, s5, e5⟩ : ∃ x s, numE 1 s4 = (x, s) := ⟨_, _, rfl⟩
  obtain ⟨x6, s6, e6⟩ : ∃ x s, numE 2 s5 = (x, s) := ⟨_, _, rfl⟩
  rw [headS_of e1 e2 e3 e4 e5 e6] at h0 ⊢
  simp only at h0 ⊢
  have z5 : s5.2 = 0 := numE_was (n := 2) (by rw [e6]; exact h0)
  have z4 : s4.2 = 0 := numE_was (n := 1) (by rw [e5]; exact z5)
  have z3 : s3.2 = 0 := numE_was (n := 1) (by rw [e4]; exact z4)
  have z2 : s2.2 = 0 := numE_was (n := 4) (by rw [e3]; exact z3)
  have z1 : s1.2 = 0 := numE_was (n := 3) (by rw [e2]; exact z2)
  obtain ⟨y1, b1⟩ := s1
  obtain ⟨y2, b2⟩ := s2
  obtain ⟨y3, b3⟩ := s3
  obtain ⟨y4, b4⟩ := s4
  obtain ⟨y5, b5⟩ := s5
  obtain ⟨y6, b6⟩ := s6
  simp only at z1 z2 z3 z4 z5 h0
  subst z1 z2 z3 z4 z5 h0
  have k1 := numE_bytes 1 (st := (zs, 0)) hb
  have o1 := numE_ok (n := 1) 1 rfl (by decide) (by decide) hb (by rw [e1])
  rw [e1] at k1 o1
  have k2 := numE_bytes 3 (st := (y1, 0)) k1
  have o2 := numE_ok (n := 3) 3 rfl (by decide) (by decide) k1 (by rw [e2])
  rw [e2] at k2 o2
  have k3 := numE_bytes 4 (st := (y2, 0)) k2
  have o3 := numE_ok (n := 4) 4 rfl (by decide) (by decide) k2 (by rw [e3])
  rw [e3] at k3 o3
  have k4 := numE_bytes 1 (st := (y3, 0)) k3
  have o4 := numE_ok (n := 1) 1 rfl (by decide) (by decide) k3 (by rw [e4])
  rw [e4] at k4 o4
  have k5 := numE_bytes 1 (st := (y4, 0)) k4
  have o5 := numE_ok (n := 1) 1 rfl (by decide) (by decide) k4 (by rw [e5])
  rw [e5] at k5 o5
  have o6 := numE_ok (n := 2) 2 rfl (by decide) (by decide) k5 (by rw [e6])
  rw [e6] at o6
  simp only at o1 o2 o3 o4 o5 o6
  refine ⟨?_, o1.2, o2.2, o3.2, o4.2, o5.2, o6.2⟩
  unfold headB13
  simp only [List.append_assoc]
  rw [← o6.1, ← o5.1, ← o4.1, ← o3.1, ← o2.1, ← o1.1]
theorem headS_bad (zs : List Int) : (headS13 (zs, 0)).2.2 = 0 ∨ (headS13 (zs, 0)).2.2 = 2 := by
  obtain ⟨x1, s1, e1⟩ : ∃ x s, numE 1 (zs, 0) = (x, s) := ⟨_, _, rfl⟩
  obtain ⟨x2, s2, e2⟩ : ∃ x s, numE 3 s1 = (x, s) := ⟨_, _, rfl⟩
  obtain ⟨x3, s3, e3⟩ : ∃ x s, numE 4 s2 = (x, s) := ⟨_, _, rfl⟩
  obtain ⟨x4, s4, e4⟩ : ∃ x s, numE 1 s3 = (x, s) := ⟨_, _, rfl⟩
  obtain ⟨x5, s5, e5⟩ : ∃ x s, numE 1 s4 = (x, s) := ⟨_, _, rfl⟩
  obtain ⟨x6, s6, e6⟩ : ∃ x s, numE 2 s5 = (x, s) := ⟨_, _, rfl⟩
  rw [headS_of e1 e2 e3 e4 e5 e6]
  have n1 := numE_bad (n := 1) 1 rfl (by decide) (by decide) (zs, 0)
  have n2 := numE_bad (n := 3) 3 rfl (by decide) (by decide) s1
  have n3 := numE_bad (n := 4) 4 rfl (by decide) (by decide) s2
  have n4 := numE_bad (n := 1) 1 rfl (by decide) (by decide) s3
  have n5 := numE_bad (n := 1) 1 rfl (by decide) (by decide) s4
  have n6 := numE_bad (n := 2) 2 rfl (by decide) (by decide) s5
  rw [e1] at n1
  rw [e2] at n2
  rw [e3] at n3
  rw [e4] at n4
  rw [e5] at n5
  rw [e6] at n6
  have r1 : s1.2 = 0 ∨ s1.2 = 2 := by simpa using n1
  have r2 : s2.2 = 0 ∨ s2.2 = 2 := by rcases r1 with h | h <;> rw [h] at n2 <;> simpa using n2
  have r3 : s3.2 = 0 ∨ s3.2 = 2 := by rcases r2 with h | h <;> rw [h] at n3 <;> simpa using n3
  have r4 : s4.2 = 0 ∨ s4.2 = 2 := by rcases r3 with h | h <;> rw [h] at n4 <;> simpa using n4
  have r5 : s5.2 = 0 ∨ s5.2 = 2 := by rcases r4 with h | h <;> rw [h] at n5 <;> simpa using n5
  rcases r5 with h | h <;> rw [h] at n6 <;> simpa using n6
theorem headS_short {zs : List Int} (hb : ∀ z ∈ zs, 0 ≤ z ∧ z ≤ 255) (hl : zs.length < 12) : (headS13 (zs, 0)).2.2 = 2 := by
  rcases headS_bad zs with h | h
  · have := (headS_ok hb h).1
    have hc := congrArg List.length this
    rw [List.length_append, headB13_len] at hc
    omega
  · exact h
/-- What is as long as a head is one. -/
theorem head_of {zs : List Int} (hb : ∀ z ∈ zs, 0 ≤ z ∧ z ≤ 255) (hl : 12 ≤ zs.length) : ∃ h, FitH h ∧ zs = headB13 h ++ zs.drop 12 := by
  have e : ∃ h, FitH h ∧ zs.take 12 = headB13 h := by
    have htl : (zs.take 12).length = 12 := by rw [List.length_take]; omega
    have hk : ∀ (a b : Nat), ∀ z ∈ ((zs.drop a).take b), 0 ≤ z ∧ z ≤ 255 := fun a b z hz => hb z (List.mem_of_mem_drop (List.mem_of_mem_take hz))
    have hf : ∀ (a b : Nat), 1 ≤ b → b ≤ 7 → a + b ≤ 12 → FitN (val ((zs.drop a).take b)) b := fun a b h1 h7 h => by
      have hlen : ((zs.drop a).take b).length = b := by rw [List.length_take, List.length_drop]; omega
      exact ⟨h1, h7, val_bound b _ hlen (hk a b)⟩
    have hbe : ∀ (a b : Nat), a + b ≤ 12 → be (val ((zs.drop a).take b)) b = (zs.drop a).take b := fun a b h => be_val b _ (by rw [List.length_take, List.length_drop]; omega) (hk a b)
    refine ⟨⟨⟨val ((zs.drop 0).take 1), val ((zs.drop 1).take 3), val ((zs.drop 4).take 4)⟩, val ((zs.drop 8).take 1), val ((zs.drop 9).take 1), val ((zs.drop 10).take 2)⟩, ⟨hf 0 1 (by decide) (by decide) (by decide), hf 1 3 (by decide) (by decide) (by decide), hf 4 4 (by decide) (by decide) (by decide), hf 8 1 (by decide) (by decide) (by decide), hf 9 1 (by decide) (by decide) (by decide), hf 10 2 (by decide) (by decide) (by decide)⟩, ?_⟩
    unfold headB13
    simp only
    rw [hbe 0 1 (by decide), hbe 1 3 (by decide), hbe 4 4 (by decide), hbe 8 1 (by decide), hbe 9 1 (by decide), hbe 10 2 (by decide), List.drop_zero, ← List.take_add, ← List.take_add, ← List.take_add, ← List.take_add, ← List.take_add]
  obtain ⟨h, hf, he⟩ := e
  exact ⟨h, hf, by rw [← he, List.take_append_drop]⟩

/-- Is a fragment of this head so long? -/
def fitsH (h : Hd13) (len : Nat) : Bool := mayH h && decide ((len : Int) = 12 + longI h.i h.z h.n)
/-- What Read answers. -/
def readL (zs : List Int) : Hd13 × List Int × Int :=
  if zs.length < 12 then (hZ13, [], 2) else if fitsH (headS13 (zs, 0)).1 zs.length = true then ((headS13 (zs, 0)).1, zs.drop 12, 0) else (hZ13, [], 4)
theorem readL_short {zs : List Int} (h : zs.length < 12) : readL zs = (hZ13, [], 2) := by unfold readL; rw [if_pos h]
theorem readL_head {h : Hd13} (hf : FitH h) (r : List Int) : readL (headB13 h ++ r) = if fitsH h (12 + r.length) = true then (h, r, 0) else (hZ13, [], 4) := by
  unfold readL
  have hlen : (headB13 h ++ r).length = 12 + r.length := by rw [List.length_append, headB13_len]
  rw [if_neg (by omega), headS_be hf, hlen]
  simp only
  have hd : (headB13 h ++ r).drop 12 = r := by
    have := List.drop_left' (l₁ := headB13 h) (l₂ := r) (headB13_len h)
    exact this
  rw [hd]
end Go.Proofs.Ytoglcohdanpciaa


/- layout: a fragment is read (read, which gives up). -/
namespace Go.Proofs.Ytoglcohdanpciaa
open Go.RowKit
set_option maxRecDepth 100000
set_option linter.unusedSimpArgs false
set_option linter.unusedVariables false

theorem iFrag : (Try.prog.info? 116).map (fun i => (i.zero, i.size)) = some (some (.agg #[.int .i64 0, .int .i64 0, .int .i64 0, .int .i64 0, .int .i64 0, .int .i64 0, .slice none 0 0]), 7) := by kernel_rfl
theorem uFrag : Try.prog.underlying 116 = some (.struct (Try.prog.fieldsOf 116)) := by kernel_rfl
theorem sFrag : (Try.prog.info? 116).map (·.size) = some 7 := by kernel_rfl
theorem iHead : (Try.prog.info? 33).map (fun i => (i.zero, i.size)) = some (some (.agg #[.int .i64 0, .int .i64 0, .int .i64 0, .int .i64 0, .int .i64 0, .int .i64 0]), 6) := by kernel_rfl
theorem uHead : Try.prog.underlying 33 = some (.struct (Try.prog.fieldsOf 33)) := by kernel_rfl
theorem sHead : (Try.prog.info? 33).map (·.size) = some 6 := by kernel_rfl
theorem loadHd (W : World) (b off : Nat) (h : Hd13) (hc : W.rangeAt b off h.cells) : (Instr.loadAt 33 (.pointer (some ⟨b, off, none⟩))).run Try.prog W = .ok (hdV13 h) W :=
  run_loadAt_mid W b off 33 h.cells _ hc uHead rfl (by rw [sHead]; rfl)
def frV (h : Hd13) (v : Value) : Value := .agg #[.int .i64 h.s.c, .int .i64 h.s.l, .int .i64 h.s.n, .int .i64 h.i, .int .i64 h.n, .int .i64 h.z, v]
theorem buildFr (h : Hd13) (a : Option Addr) (n c : Nat) (w : World) : (Instr.build 116 #[(0, hdV13 h), (1, .slice a n c)]).run Try.prog w = .ok (frV h (.slice a n c)) w := by kernel_rfl
theorem exec_buildFr {ρ : Operand → Value} {o : Oper} {w : World} (x y : Operand) (ho : o.op = .build 116 #[(0, x), (1, y)]) (h : Hd13) (a : Option Addr) (n c : Nat) (hx : ρ x = hdV13 h) (hy : ρ y = .slice a n c) : (execOp ρ o).run Try.prog w = .ok (.value (frV h (.slice a n c))) w := by
  simp [execOp, ho, hx, hy, buildFr, Result.andThen]
theorem exec_sliceK {ρ : Operand → Value} {o : Oper} {w : World} (t : TypeId) (x : Operand) (lo hi mx : Option Operand) (v : Value) (ho : o.op = .slice t x lo hi mx) (h : (Instr.sliceAt t (ρ x) (lo.map ρ) (hi.map ρ) (mx.map ρ)).run Try.prog w = .ok v w) : (execOp ρ o).run Try.prog w = .ok (.value v) w := by
  simp [execOp, ho, h, Result.andThen]
theorem exec_minK {ρ : Operand → Value} {o : Oper} {w : World} (x y : Operand) (ho : o.op = .call { callee := .builtin .min, args := #[x, y], argTypes := #[3, 3] }) (ht : o.type = 3) (a b m : Int) (hx : ρ x = .int .i64 a) (hy : ρ y = .int .i64 b) (hm : m = min a b) :
    (execOp ρ o).run Try.prog w = .ok (.value (.int .i64 m)) w := by
  subst hm
  rcases Int.le_total a b with h | h
  · rw [Int.min_eq_left h]
    simp [execOp, ho, ht, hx, hy, resolve, invoke, builtin, Result.andThen, Builtin.min_, Builtin.min2]
    try omega
  · rw [Int.min_eq_right h]
    simp [execOp, ho, ht, hx, hy, resolve, invoke, builtin, Result.andThen, Builtin.min_, Builtin.min2]
    try omega
theorem setRow_keeps13 {w : World} {b : Nat} {cur cs : Array Value} {T : TypeId} (h : w.heap[b]? = some (.cells cur T (0, 0))) : (w.setRow b cs).heap[b]? = some (.cells cs T (0, 0)) ∧ Keeps [b] w (w.setRow b cs) :=
  ⟨setRow_heap w b cur cs T (0, 0) h, ⟨rfl, rfl, rfl, by simp [World.setRow], fun k _ hm => setRow_other w b k cs (by simpa using hm)⟩⟩
theorem exec_storeFr {ρ : Operand → Value} {o : Oper} {w : World} (x y : Operand) (ho : o.op = .store 116 x y) (g : Nat) (cur : Array Value) (hb : w.heap[g]? = some (.cells cur 116 (0, 0))) (hsz : cur.size = 7) (hx : ρ x = .pointer (some ⟨g, 0, none⟩))
    (h : Hd13) (a : Option Addr) (n c : Nat) (hy : ρ y = frV h (.slice a n c)) : (execOp ρ o).run Try.prog w = .ok .skip (w.setRow g (h.cells ++ [Value.slice a n c]).toArray) := by
  have hst := run_storeCells_at Try.prog g 0 116 (h.cells ++ [Value.slice a n c]) 0 cur w hb (by simp [Hd13.cells, hsz]) (fun v hv => by
    simp [Hd13.cells] at hv
    rcases hv with rfl | rfl | rfl | rfl | rfl | rfl | rfl <;> rfl)
  have e4 : (h.cells ++ [Value.slice a n c]).length = 7 := rfl
  have e6 : cur.toList.drop 7 = [] := List.drop_of_length_le (by simp [hsz])
  simp only [Nat.zero_add, e4, List.take_zero, List.nil_append, e6, List.append_nil] at hst
  have e3 : (frV h (.slice a n c)).cells = (h.cells ++ [Value.slice a n c]).toArray := rfl
  have e5 : (h.cells ++ [Value.slice a n c]).toArray.size = 7 := rfl
  have hs : (sizeOf 116).run Try.prog w = .ok 7 w := by
    have := sFrag
    cases hq : Try.prog.info? 116 with
    | none => simp [hq] at this
    | some i => simp [hq] at this; simp [sizeOf, typeInfo, hq, this]
  have hr : (Instr.storeAt 116 (.pointer (some ⟨g, 0, none⟩)) (frV h (.slice a n c))).run Try.prog w = .ok () (w.setRow g (h.cells ++ [Value.slice a n c]).toArray) := by
    simp only [Instr.storeAt, Instr.sureAddr, Sem.run_bind, Sem.run_pure, Result.andThen_ok, storeVar]
    simp [hs, e3, e4, e5, hst, Result.andThen]
  unfold execOp
  simp only [ho, hx, hy, hr, Sem.run_bind, Result.andThen_ok]
  rfl
/-- What the reader leaves: the fragment, or it gave up. -/
def RdF (w : World) (r : Hd13 × List Int × Int) (e : Ending) (w' : World) : Prop :=
  Keeps [] w w' ∧ ((r.2.2 = 0 ∧ ∃ a c, e = .returned (frV r.1 (.slice a r.2.1.length c)) ∧ RowAt w' (.slice a r.2.1.length c) r.2.1 ∧ ∀ ad, a = some ad → w.heap.size ≤ ad.block) ∨ (r.2.2 ≠ 0 ∧ e = gaveUp r.2.2))
theorem frag_ret {fn : Func} {p : Tmp} (hr : fn.results = #[.cell p 116]) {tmps : Array Value} {w : World} {b : Nat} {h : Hd13} {v : Value} (hp : tmps.getD p undef = .pointer (some ⟨b, 0, none⟩)) (hx : w.rangeAt b 0 (h.cells ++ [v])) : (results fn tmps).run Try.prog w = .ok (frV h v) w := by
  have hp' : tmps[p]?.getD undef = .pointer (some ⟨b, 0, none⟩) := by simpa using hp
  have hv : (loadVar 116 ⟨b, 0, none⟩).run Try.prog w = .ok (frV h v) w := run_loadVar_mid w b 0 116 (h.cells ++ [v]) _ hx uFrag rfl (by rw [sFrag]; rfl)
  simp [results, hr, hp', asAddr, hv]
theorem frag_one (h : Hd13) (a : Option Addr) (n c : Nat) : (#[Value.int .i64 h.s.c, .int .i64 h.s.l, .int .i64 h.s.n, .int .i64 h.i, .int .i64 h.n, .int .i64 h.z, .slice a n c] : Array Value).all (·.oneCell') = true := by simp [Value.oneCell']

set_option maxHeartbeats 25600000 in
/-- The beginning of read: the six numbers of the first bytes zs. -/
theorem lread_head (w : World) (v : Value) (zs : List Int) (h : RowAt w v zs) (hl : zs.length ≤ 35184372088832) : Calls Try.prog 62 #[v] w (RdF w (readL zs)) := by
  have HB := hid h.bytes
  obtain ⟨r, hr⟩ : ∃ r, r = readL zs := ⟨_, rfl⟩
  rw [← hr]
  have HR := hid hr
  clear hr
  obtain ⟨va, vn, vc, hv⟩ : ∃ a n c, v = .slice a n c := by obtain ⟨a, c, e, _⟩ := h; exact ⟨a, _, c, e⟩
  subst hv
  obtain rfl : zs.length = vn := by obtain ⟨a, c, e, _⟩ := h; injection e with _ e _; exact e.symm
  have hv0 := hid h
  -- the first bytes
  obtain ⟨m, hm⟩ : ∃ m : Nat, m = min zs.length 12 := ⟨_, rfl⟩
  obtain ⟨a1, s1, s2, s3, s4⟩ := row_take h m (by omega)
  have KF : Keeps [] w (w.alloc (.cells #[.int .i64 0, .int .i64 0, .int .i64 0, .int .i64 0, .int .i64 0, .int .i64 0, .slice none 0 0] 116)) := (Keeps.refl [] w).alloc _
  have FB := hid (heap_alloc_new w (.cells #[.int .i64 0, .int .i64 0, .int .i64 0, .int .i64 0, .int .i64 0, .int .i64 0, .slice none 0 0] 116))
  obtain ⟨wf, hwf⟩ : ∃ x, x = w.alloc (.cells #[.int .i64 0, .int .i64 0, .int .i64 0, .int .i64 0, .int .i64 0, .int .i64 0, .slice none 0 0] 116) := ⟨_, rfl⟩
  rw [← hwf] at KF FB
  have HWF := hid hwf
  have KF0 := hid KF
  have htk : (zs.take m).length = m := by rw [List.length_take]; omega
  have R1 : Hid (RowAt wf (.slice a1 m vc) (zs.take m)) := hid ((s3 w h).keep KF (by intro _ _ _ _ _; simp))
  have HL := hid hl
  have HTK := hid htk
  have HM := hid hm
  have SF := hid (show wf.heap.size = w.heap.size + 1 by rw [hwf]; simp)
  have S1 := hid s1
  have S2 := hid s2
  clear h hl KF hwf s1 s2 s3 s4 htk hm
  obtain ⟨x1, s1', e1⟩ : ∃ x s, numE 1 (zs.take m, 0) = (x, s) := ⟨_, _, rfl⟩
  obtain ⟨x2, s2', e2⟩ : ∃ x s, numE 3 s1' = (x, s) := ⟨_, _, rfl⟩
  obtain ⟨x3, s3', e3⟩ : ∃ x s, numE 4 s2' = (x, s) := ⟨_, _, rfl⟩
  obtain ⟨x4, s4', e4⟩ : ∃ x s, numE 1 s3' = (x, s) := ⟨_, _, rfl⟩
  obtain ⟨x5, s5', e5⟩ : ∃ x s, numE 1 s4' = (x, s) := ⟨_, _, rfl⟩
  obtain ⟨x6, s6', e6⟩ : ∃ x s, numE 2 s5' = (x, s) := ⟨_, _, rfl⟩
  have EG := hid (headS_of e1 e2 e3 e4 e5 e6)
  have N1 := hid e1
  have N2 := hid e2
  have N3 := hid e3
  have N4 := hid e4
  have N5 := hid e5
  have N6 := hid e6
  clear e1 e2 e3 e4 e5 e6
  -- what the end has to know
  have FIN : Hid ((zs.length < 12 ∧ s6'.2 = 2 ∧ r.2.2 = 2) ∨ (12 ≤ zs.length ∧ s6'.2 = 0 ∧ r = if fitsH ⟨⟨x1, x2, x3⟩, x4, x5, x6⟩ zs.length = true then (⟨⟨x1, x2, x3⟩, x4, x5, x6⟩, zs.drop 12, 0) else (hZ13, [], 4))) := hid (by
    rcases Nat.lt_or_ge zs.length 12 with hs | hs
    · left
      have hmm : m = zs.length := by have := HM.out; omega
      have := headS_short HB.out hs
      rw [hmm, List.take_of_length_le (Nat.le_refl _)] at EG
      rw [EG.out] at this
      exact ⟨hs, this, by rw [HR.out, readL_short hs]⟩
    · right
      obtain ⟨h, hf, he⟩ := head_of HB.out hs
      have hmm : m = 12 := by have := HM.out; omega
      have ht : zs.take 12 = headB13 h := by rw [he]; exact List.take_left' (headB13_len h)
      have hq := EG.out
      rw [hmm, ht] at hq
      have hb := headS_be hf []
      rw [List.append_nil, hq] at hb
      injection hb with hb1 hb2
      rw [hb1, hb2]
      refine ⟨hs, rfl, ?_⟩
      rw [HR.out]
      conv => lhs; rw [he]
      rw [readL_head hf]
      have hl12 : 12 + (zs.drop 12).length = zs.length := by rw [List.length_drop]; omega
      rw [hl12])
  clear HR HB EG
  go_enter Try.func62, Try.ntmps62
  have MN := hid (show (m : Int) = min (zs.length : Int) 12 by have := HM.out; omega)
  go_wp2_with (first | (refine wpList_is rfl _ _ (exec_alloc 116 #[.int .i64 0, .int .i64 0, .int .i64 0, .int .i64 0, .int .i64 0, .int .i64 0, .slice none 0 0] iFrag rfl) ?_) | (refine wpList_is rfl _ _ (exec_minK _ _ rfl rfl _ _ m rfl rfl MN.out) ?_) | (refine wpList_is rfl _ _ (exec_sliceK 34 _ _ _ _ _ rfl (S1.out _)) ?_) | fail)
  rw [← HWF.out]
  refine (newEye_any wf w.heap.size (.slice a1 m vc) (zs.take m) R1.out (by have := SF.out; omega) (by rw [HTK.out]; have := HM.out; have := HL.out; omega)).mono ?_
  rintro e w1 ⟨p, v1, rfl, hq, he, hk, hv⟩
  have HQ := hid hq
  have HPW := hid he.lt
  have E0' : Hid (EyL w1 w1 w.heap.size p v1 (zs.take m, 0)) := hid ⟨v1, he, SameBlk.refl _, fun g hg => off_oldB he.row hg⟩
  have K1 := hid (KF0.out.trans hk)
  have F1 := hid ((hk.block w.heap.size (by have := SF.out; omega) (by simp)).trans FB.out)
  have SW := hid (show w.heap.size < w1.heap.size by have := SF.out; have := hk.size; omega)
  clear hq he hk hv
  obtain ⟨q, hqq⟩ : ∃ q, q = w1.heap.size := ⟨_, rfl⟩
  have HQQ := hid hqq
  have ka : Keeps [] w1 (w1.alloc (.cells #[.int .i64 0, .int .i64 0, .int .i64 0, .int .i64 0, .int .i64 0, .int .i64 0] 33)) := (Keeps.refl [] w1).alloc _
  have J0 := hid (heap_alloc_new w1 (.cells #[.int .i64 0, .int .i64 0, .int .i64 0, .int .i64 0, .int .i64 0, .int .i64 0] 33))
  have E0 := hid (E0'.out.more ka)
  have K0 := hid (K1.out.trans ka)
  have D0 := hid ((ka.block w.heap.size SW.out (by simp)).trans F1.out)
  have L0 := hid (show q < (w1.alloc (.cells #[.int .i64 0, .int .i64 0, .int .i64 0, .int .i64 0, .int .i64 0, .int .i64 0] 33)).heap.size by rw [hqq, World.size_alloc]; omega)
  obtain ⟨W0, hW0⟩ : ∃ W, W = w1.alloc (.cells #[.int .i64 0, .int .i64 0, .int .i64 0, .int .i64 0, .int .i64 0, .int .i64 0] 33) := ⟨_, rfl⟩
  have HW0 := hid hW0
  rw [← hqq] at J0
  rw [← hW0] at J0 E0 K0 D0 L0
  clear ka hqq hW0
  go_wp2_with (first | (refine wpList_is rfl _ _ (exec_alloc 33 #[.int .i64 0, .int .i64 0, .int .i64 0, .int .i64 0, .int .i64 0, .int .i64 0] iHead rfl) ?_) | fail)
  rw [← HW0.out]
  have A := E0.out.num 1
  rw [N1.out] at A
  refine A.mono ?_
  rintro e u0 ⟨rfl, ey, kk⟩
  have F0a := hid ((kk.block q L0.out (by have := HPW.out; have := HQQ.out; simp; omega)).trans J0.out)
  have G0a := hid ((kk.block w.heap.size (by have := SW.out; have := L0.out; have := HQQ.out; omega) (by have := HQ.out; have := SF.out; simp; omega)).trans D0.out)
  have T0a := hid ey
  have KU0 := hid (K0.out.trans' kk (fun i hi hm => by simp at hm; have := HQ.out; have := SF.out; omega))
  have LU0 := hid (Nat.lt_of_lt_of_le L0.out kk.size)
  obtain ⟨cc, ff⟩ := five_cells F0a.out 0
  simp only [List.getElem?_toArray, List.getElem?_cons_zero, List.getElem?_cons_succ] at cc
  clear A ey kk
  have jj := set_five (i := 0) F0a.out (.int .i64 x1)
  have sk : Keeps [q] u0 (u0.setCell ⟨q, 0, none⟩ (.int .i64 x1)) := set_keep
  have J1 : Hid ((u0.setCell ⟨q, 0, none⟩ (.int .i64 x1)).heap[q]? = some (.cells #[.int .i64 x1, .int .i64 0, .int .i64 0, .int .i64 0, .int .i64 0, .int .i64 0] 33 (0, 0))) := hid jj
  have D1 := hid ((sk.block w.heap.size (by have := SW.out; have := LU0.out; have := HQQ.out; omega) (by have := SW.out; have := HQQ.out; simp; omega)).trans G0a.out)
  have E1 := hid (T0a.out.later sk (by have := HQQ.out; omega) (by have := HPW.out; have := HQQ.out; omega))
  have K1 := hid (KU0.out.trans' sk (fun i hi hm => by simp at hm; have := HQQ.out; have := SW.out; omega))
  have L1 := hid (Nat.lt_of_lt_of_le LU0.out sk.size)
  obtain ⟨W1, hW⟩ : ∃ W, W = u0.setCell ⟨q, 0, none⟩ (.int .i64 x1) := ⟨_, rfl⟩
  rw [← hW] at J1 D1 E1 K1 L1
  have HW1 := hid hW
  clear jj sk hW
  first | rw [← HQQ.out] | skip
  go_wp2_with fail
  clear cc ff
  rw [← HW1.out]
  have A := E1.out.num 3
  rw [N2.out] at A
  refine A.mono ?_
  rintro e u1 ⟨rfl, ey, kk⟩
  have F1a := hid ((kk.block q L1.out (by have := HPW.out; have := HQQ.out; simp; omega)).trans J1.out)
  have G1a := hid ((kk.block w.heap.size (by have := SW.out; have := L1.out; have := HQQ.out; omega) (by have := HQ.out; have := SF.out; simp; omega)).trans D1.out)
  have T1a := hid ey
  have KU1 := hid (K1.out.trans' kk (fun i hi hm => by simp at hm; have := HQ.out; have := SF.out; omega))
  have LU1 := hid (Nat.lt_of_lt_of_le L1.out kk.size)
  obtain ⟨cc, ff⟩ := five_cells F1a.out 1
  simp only [List.getElem?_toArray, List.getElem?_cons_zero, List.getElem?_cons_succ] at cc
  clear A ey kk
  have jj := set_five (i := 1) F1a.out (.int .i64 x2)
  have sk : Keeps [q] u1 (u1.setCell ⟨q, 1, none⟩ (.int .i64 x2)) := set_keep
  have J2 : Hid ((u1.setCell ⟨q, 1, none⟩ (.int .i64 x2)).heap[q]? = some (.cells #[.int .i64 x1, .int .i64 x2, .int .i64 0, .int .i64 0, .int .i64 0, .int .i64 0] 33 (0, 0))) := hid jj
  have D2 := hid ((sk.block w.heap.size (by have := SW.out; have := LU1.out; have := HQQ.out; omega) (by have := SW.out; have := HQQ.out; simp; omega)).trans G1a.out)
  have E2 := hid (T1a.out.later sk (by have := HQQ.out; omega) (by have := HPW.out; have := HQQ.out; omega))
  have K2 := hid (KU1.out.trans' sk (fun i hi hm => by simp at hm; have := HQQ.out; have := SW.out; omega))
  have L2 := hid (Nat.lt_of_lt_of_le LU1.out sk.size)
  obtain ⟨W2, hW⟩ : ∃ W, W = u1.setCell ⟨q, 1, none⟩ (.int .i64 x2) := ⟨_, rfl⟩
  rw [← hW] at J2 D2 E2 K2 L2
  have HW2 := hid hW
  clear jj sk hW
  first | rw [← HQQ.out] | skip
  go_wp2_with fail
  clear cc ff
  rw [← HW2.out]
  have A := E2.out.num 4
  rw [N3.out] at A
  refine A.mono ?_
  rintro e u2 ⟨rfl, ey, kk⟩
  have F2a := hid ((kk.block q L2.out (by have := HPW.out; have := HQQ.out; simp; omega)).trans J2.out)
  have G2a := hid ((kk.block w.heap.size (by have := SW.out; have := L2.out; have := HQQ.out; omega) (by have := HQ.out; have := SF.out; simp; omega)).trans D2.out)
  have T2a := hid ey
  have KU2 := hid (K2.out.trans' kk (fun i hi hm => by simp at hm; have := HQ.out; have := SF.out; omega))
  have LU2 := hid (Nat.lt_of_lt_of_le L2.out kk.size)
  obtain ⟨cc, ff⟩ := five_cells F2a.out 2
  simp only [List.getElem?_toArray, List.getElem?_cons_zero, List.getElem?_cons_succ] at cc
  clear A ey kk
  have jj := set_five (i := 2) F2a.out (.int .i64 x3)
  have sk : Keeps [q] u2 (u2.setCell ⟨q, 2, none⟩ (.int .i64 x3)) := set_keep
  have J3 : Hid ((u2.setCell ⟨q, 2, none⟩ (.int .i64 x3)).heap[q]? = some (.cells #[.int .i64 x1, .int .i64 x2, .int .i64 x3, .int .i64 0, .int .i64 0, .int .i64 0] 33 (0, 0))) := hid jj
  have D3 := hid ((sk.block w.heap.size (by have := SW.out; have := LU2.out; have := HQQ.out; omega) (by have := SW.out; have := HQQ.out; simp; omega)).trans G2a.out)
  have E3 := hid (T2a.out.later sk (by have := HQQ.out; omega) (by have := HPW.out; have := HQQ.out; omega))
  have K3 := hid (KU2.out.trans' sk (fun i hi hm => by simp at hm; have := HQQ.out; have := SW.out; omega))
  have L3 := hid (Nat.lt_of_lt_of_le LU2.out sk.size)
  obtain ⟨W3, hW⟩ : ∃ W, W = u2.setCell ⟨q, 2, none⟩ (.int .i64 x3) := ⟨_, rfl⟩
  rw [← hW] at J3 D3 E3 K3 L3
  have HW3 := hid hW
  clear jj sk hW
  first | rw [← HQQ.out] | skip
  go_wp2_with fail
  clear cc ff
  rw [← HW3.out]
  have A := E3.out.num 1
  rw [N4.out] at A
  refine A.mono ?_
  rintro e u3 ⟨rfl, ey, kk⟩
  have F3a := hid ((kk.block q L3.out (by have := HPW.out; have := HQQ.out; simp; omega)).trans J3.out)
  have G3a := hid ((kk.block w.heap.size (by have := SW.out; have := L3.out; have := HQQ.out; omega) (by have := HQ.out; have := SF.out; simp; omega)).trans D3.out)
  have T3a := hid ey
  have KU3 := hid (K3.out.trans' kk (fun i hi hm => by simp at hm; have := HQ.out; have := SF.out; omega))
  have LU3 := hid (Nat.lt_of_lt_of_le L3.out kk.size)
  obtain ⟨cc, ff⟩ := five_cells F3a.out 3
  simp only [List.getElem?_toArray, List.getElem?_cons_zero, List.getElem?_cons_succ] at cc
  clear A ey kk
  have jj := set_five (i := 3) F3a.out (.int .i64 x4)
  have sk : Keeps [q] u3 (u3.setCell ⟨q, 3, none⟩ (.int .i64 x4)) := set_keep
  have J4 : Hid ((u3.setCell ⟨q, 3, none⟩ (.int .i64 x4)).heap[q]? = some (.cells #[.int .i64 x1, .int .i64 x2, .int .i64 x3, .int .i64 x4, .int .i64 0, .int .i64 0] 33 (0, 0))) := hid jj
  have D4 := hid ((sk.block w.heap.size (by have := SW.out; have := LU3.out; have := HQQ.out; omega) (by have := SW.out; have := HQQ.out; simp; omega)).trans G3a.out)
  have E4 := hid (T3a.out.later sk (by have := HQQ.out; omega) (by have := HPW.out; have := HQQ.out; omega))
  have K4 := hid (KU3.out.trans' sk (fun i hi hm => by simp at hm; have := HQQ.out; have := SW.out; omega))
  have L4 := hid (Nat.lt_of_lt_of_le LU3.out sk.size)
  obtain ⟨W4, hW⟩ : ∃ W, W = u3.setCell ⟨q, 3, none⟩ (.int .i64 x4) := ⟨_, rfl⟩
  rw [← hW] at J4 D4 E4 K4 L4
  have HW4 := hid hW
  clear jj sk hW
  first | rw [← HQQ.out] | skip
  go_wp2_with fail
  clear cc ff
  rw [← HW4.out]
  have A := E4.out.num 1
  rw [N5.out] at A
  refine A.mono ?_
  rintro e u4 ⟨rfl, ey, kk⟩
  have F4a := hid ((kk.block q L4.out (by have := HPW.out; have := HQQ.out; simp; omega)).trans J4.out)
  have G4a := hid ((kk.block w.heap.size (by have := SW.out; have := L4.out; have := HQQ.out; omega) (by have := HQ.out; have := SF.out; simp; omega)).trans D4.out)
  have T4a := hid ey
  have KU4 := hid (K4.out.trans' kk (fun i hi hm => by simp at hm; have := HQ.out; have := SF.out; omega))
  have LU4 := hid (Nat.lt_of_lt_of_le L4.out kk.size)
  obtain ⟨cc, ff⟩ := five_cells F4a.out 4
  simp only [List.getElem?_toArray, List.getElem?_cons_zero, List.getElem?_cons_succ] at cc
  clear A ey kk
  have jj := set_five (i := 4) F4a.out (.int .i64 x5)
  have sk : Keeps [q] u4 (u4.setCell ⟨q, 4, none⟩ (.int .i64 x5)) := set_keep
  have J5 : Hid ((u4.setCell ⟨q, 4, none⟩ (.int .i64 x5)).heap[q]? = some (.cells #[.int .i64 x1, .int .i64 x2, .int .i64 x3, .int .i64 x4, .int .i64 x5, .int .i64 0] 33 (0, 0))) := hid jj
  have D5 := hid ((sk.block w.heap.size (by have := SW.out; have := LU4.out; have := HQQ.out; omega) (by have := SW.out; have := HQQ.out; simp; omega)).trans G4a.out)
  have E5 := hid (T4a.out.later sk (by have := HQQ.out; omega) (by have := HPW.out; have := HQQ.out; omega))
  have K5 := hid (KU4.out.trans' sk (fun i hi hm => by simp at hm; have := HQQ.out; have := SW.out; omega))
  have L5 := hid (Nat.lt_of_lt_of_le LU4.out sk.size)
  obtain ⟨W5, hW⟩ : ∃ W, W = u4.setCell ⟨q, 4, none⟩ (.int .i64 x5) := ⟨_, rfl⟩
  rw [← hW] at J5 D5 E5 K5 L5
  have HW5 := hid hW
  clear jj sk hW
  first | rw [← HQQ.out] | skip
  go_wp2_with fail
  clear cc ff
  rw [← HW5.out]
  have A := E5.out.num 2
  rw [N6.out] at A
  refine A.mono ?_
  rintro e u5 ⟨rfl, ey, kk⟩
  have F5a := hid ((kk.block q L5.out (by have := HPW.out; have := HQQ.out; simp; omega)).trans J5.out)
  have G5a := hid ((kk.block w.heap.size (by have := SW.out; have := L5.out; have := HQQ.out; omega) (by have := HQ.out; have := SF.out; simp; omega)).trans D5.out)
  have T5a := hid ey
  have KU5 := hid (K5.out.trans' kk (fun i hi hm => by simp at hm; have := HQ.out; have := SF.out; omega))
  have LU5 := hid (Nat.lt_of_lt_of_le L5.out kk.size)
  obtain ⟨cc, ff⟩ := five_cells F5a.out 5
  simp only [List.getElem?_toArray, List.getElem?_cons_zero, List.getElem?_cons_succ] at cc
  clear A ey kk
  have jj := set_five (i := 5) F5a.out (.int .i64 x6)
  have sk : Keeps [q] u5 (u5.setCell ⟨q, 5, none⟩ (.int .i64 x6)) := set_keep
  have J6 : Hid ((u5.setCell ⟨q, 5, none⟩ (.int .i64 x6)).heap[q]? = some (.cells #[.int .i64 x1, .int .i64 x2, .int .i64 x3, .int .i64 x4, .int .i64 x5, .int .i64 x6] 33 (0, 0))) := hid jj
  have D6 := hid ((sk.block w.heap.size (by have := SW.out; have := LU5.out; have := HQQ.out; omega) (by have := SW.out; have := HQQ.out; simp; omega)).trans G5a.out)
  have E6 := hid (T5a.out.later sk (by have := HQQ.out; omega) (by have := HPW.out; have := HQQ.out; omega))
  have K6 := hid (KU5.out.trans' sk (fun i hi hm => by simp at hm; have := HQQ.out; have := SW.out; omega))
  have L6 := hid (Nat.lt_of_lt_of_le LU5.out sk.size)
  obtain ⟨W6, hW⟩ : ∃ W, W = u5.setCell ⟨q, 5, none⟩ (.int .i64 x6) := ⟨_, rfl⟩
  rw [← hW] at J6 D6 E6 K6 L6
  have HW6 := hid hW
  clear jj sk hW
  first | rw [← HQQ.out] | skip
  go_wp2_with fail
  clear cc ff
  rw [← HW6.out]
  refine (E6.out.fail).mono ?_
  rintro e _ ⟨rfl, rfl⟩
  obtain ⟨b6, hb6⟩ : ∃ b, b = s6'.2 := ⟨_, rfl⟩
  rw [← hb6] at FIN ⊢
  clear hb6
  rcases FIN.out with ⟨hs, hb, hr⟩ | ⟨hs, hb, hr⟩
  · subst hb
    have HR := hid hr
    clear hr
    go_wp2_with fail
    exact ⟨rfl, K6.out, Or.inr ⟨by rw [HR.out]; decide, by rw [HR.out]; rfl⟩⟩
  · subst hb
    have HR := hid hr
    have HS := hid hs
    clear hr
    have RJ := hid (range_cells (cs := (⟨⟨x1, x2, x3⟩, x4, x5, x6⟩ : Hd13).cells) J6.out)
    cases hmh : mayH ⟨⟨x1, x2, x3⟩, x4, x5, x6⟩ with
    | false =>
      have HMH := hid hmh
      clear hmh
      go_wp2_with (first | (refine wpList_isW rfl _ _ (exec_load _ _ _ _ rfl rfl (loadHd _ q 0 _ RJ.out)) ?_) | fail)
      refine (lstand_any _ ⟨⟨x1, x2, x3⟩, x4, x5, x6⟩ false HMH.out).mono ?_
      rintro e w7 ⟨rfl, k7⟩
      have K7 := hid (K6.out.trans k7)
      clear k7
      go_wp2_with fail
      have HF := hid (show r = (hZ13, [], 4) by rw [HR.out, if_neg (by unfold fitsH; rw [HMH.out]; simp)])
      exact ⟨rfl, K7.out, Or.inr ⟨by rw [HF.out]; decide, by rw [HF.out]; rfl⟩⟩
    | true =>
      have HMH := hid hmh
      obtain ⟨hsm, hme, hin⟩ := mayH_small hmh
      clear hmh
      simp only at hsm hme hin
      have HSM := hid hsm
      obtain ⟨lg, hlg⟩ : ∃ l : Int, l = longI x4 x6 x5 := ⟨_, rfl⟩
      have hlb : 0 ≤ lg ∧ lg ≤ 65535 := by
        have a := fromTo x4 x6 x5 hsm
        have b := fromTo 0 x6 x5 hsm.first
        have := hsm.z1
        rw [hlg]; unfold longI; split <;> omega
      have HLG := hid hlg
      obtain ⟨lb0, lb1⟩ := hlb
      clear hsm hme hin hlg
      go_wp2_with (first | (refine wpList_isW rfl _ _ (exec_load _ _ _ _ rfl rfl (loadHd _ q 0 _ RJ.out)) ?_) | fail)
      refine (lstand_any _ ⟨⟨x1, x2, x3⟩, x4, x5, x6⟩ true HMH.out).mono ?_
      rintro e w7 ⟨rfl, k7⟩
      have K7 := hid (K6.out.trans k7)
      have J7 := hid ((k7.block q L6.out (by simp)).trans J6.out)
      have D7 := hid ((k7.block w.heap.size (by have := SW.out; have := L6.out; have := HQQ.out; omega) (by simp)).trans D6.out)
      have L7 := hid (Nat.lt_of_lt_of_le L6.out k7.size)
      have ci := (five_cells J7.out 3).1
      have ck := (five_cells J7.out 4).1
      have cz := (five_cells J7.out 5).1
      simp only [List.getElem?_toArray, List.getElem?_cons_zero, List.getElem?_cons_succ] at ci ck cz
      clear k7
      go_wp2_with fail
      refine (ylong_any _ x4 x6 x5 HSM.out).mono ?_
      rintro e _ ⟨rfl, rfl⟩
      rw [← HLG.out]
      by_cases hle : (zs.length : Int) = 12 + lg
      · have hleb : ((zs.length : Int) != 12 + lg) = false := by simpa using hle
        have HLE := hid hle
        clear hle
        have HF := hid (show r = (⟨⟨x1, x2, x3⟩, x4, x5, x6⟩, zs.drop 12, 0) by rw [HR.out, if_pos (by unfold fitsH; rw [HMH.out]; simp only [Bool.true_and, decide_eq_true_eq]; rw [← HLG.out]; exact HLE.out)])
        obtain ⟨a2, d1, d2, d3, d4⟩ := row_drop hv0.out 12 (by have := HS.out; omega)
        have DR := hid d1
        have hw7 : Keeps [] w w7.drew := K7.out.drew
        have RD := hid ((d3 w hv0.out).keep hw7 (by intro _ _ _ _ _; simp))
        have RQ := hid (show ∀ W1, KpS [] w7.heap.size w7.drew W1 → W1.rangeAt q 0 (⟨⟨x1, x2, x3⟩, x4, x5, x6⟩ : Hd13).cells from fun W1 h i u hu => h.cell (by rw [World.cell?_drew]; exact range_cells (cs := (⟨⟨x1, x2, x3⟩, x4, x5, x6⟩ : Hd13).cells) J7.out i u hu) L7.out (by simp))
        have KD := hid hw7
        have SL := hid (show w.heap.size < w7.heap.size by have := SW.out; have := L7.out; have := HQQ.out; omega)
        clear d1 d2 d3 d4 hw7 ci ck cz
        go_wp2_with fail
        refine wp_region_any (by kernel_rfl) (wpAny_of_late (late := [5]) (S := KpS [] w7.heap.size w7.drew) _ _ _ _ ?_)
        change wpAnyT _ _ _ _ _ _ _ _ _ w7.drew
        refine late_take (i := 0) (v := hdV13 ⟨⟨x1, x2, x3⟩, x4, x5, x6⟩) rfl (by kernel_rfl) (by kernel_rfl) (by kernel_rfl) (by kernel_rfl) (by kernel_rfl) (fun _ _ _ h => h) rfl (fun W1 hW1 => exec_load _ _ _ _ rfl rfl (loadHd W1 q 0 _ (RQ.out W1 hW1))) (KpS.refl _ _ _) ?_
        simp only [Act.put, List.setIfInBounds_toArray, List.set_cons_zero, List.set_cons_succ]
        refine late_take (i := 1) (v := .slice va zs.length vc) rfl (by kernel_rfl) (by kernel_rfl) (by kernel_rfl) (by kernel_rfl) (by kernel_rfl) (fun _ _ _ h => h) rfl (fun W1 hW1 => rfl) (KpS.refl _ _ _) ?_
        simp only [Act.put, List.setIfInBounds_toArray, List.set_cons_zero, List.set_cons_succ]
        refine late_take (i := 2) (v := .slice a2 (zs.length - 12) (vc - 12)) rfl (by kernel_rfl) (by kernel_rfl) (by kernel_rfl) (by kernel_rfl) (by kernel_rfl) (fun _ _ _ h => h) rfl (fun W1 hW1 => exec_sliceK 34 _ _ _ _ _ rfl (DR.out _)) (KpS.refl _ _ _) ?_
        simp only [Act.put, List.setIfInBounds_toArray, List.set_cons_zero, List.set_cons_succ]
        refine late_do (i := 3) (by kernel_rfl) rfl rfl (wp_enter (f := 113) (args := #[.slice a2 (zs.length - 12) (vc - 12)]) (by go_simp) (clone_any w7.drew _ (zs.drop 12) RD.out (by rw [List.length_drop]; have := HL.out; omega)) ?_)
        rintro e w8 ⟨ra, rc, rfl, r1, r2, r3⟩
        have kp8 : KpS [] w7.heap.size w7.drew w8 := KpS.keeps (KpS.refl _ _ _) r3 (Nat.le_refl _) (by simp)
        refine ⟨_, rfl, Or.inr kp8, ?_⟩
        simp only [Act.put, List.setIfInBounds_toArray, List.set_cons_zero, List.set_cons_succ]
        rw [List.length_drop] at *
        refine late_take (i := 4) (v := frV ⟨⟨x1, x2, x3⟩, x4, x5, x6⟩ (.slice ra (zs.length - 12) rc)) rfl (by kernel_rfl) (by kernel_rfl) (by kernel_rfl) (by kernel_rfl) (by kernel_rfl) (fun _ _ _ h => h) rfl (fun W1 hW1 => exec_buildFr _ _ rfl _ _ _ _ rfl rfl) (kp8) ?_
        simp only [Act.put, List.setIfInBounds_toArray, List.set_cons_zero, List.set_cons_succ]
        have D8 := (r3.block w.heap.size (by show w.heap.size < w7.heap.size; exact SL.out) (by simp)).trans D7.out
        obtain ⟨q1, q2⟩ := setRow_keeps13 (cs := ((⟨⟨x1, x2, x3⟩, x4, x5, x6⟩ : Hd13).cells ++ [Value.slice ra (zs.length - 12) rc]).toArray) D8
        refine late_do (i := 5) (by kernel_rfl) rfl rfl (wp_stored (exec_storeFr _ _ rfl w.heap.size _ D8 rfl rfl ⟨⟨x1, x2, x3⟩, x4, x5, x6⟩ ra (zs.length - 12) rc rfl) ⟨Or.inl rfl, ?_⟩)
        simp only [Act.put]
        refine wpAnyT_done (by kernel_rfl) ?_ _
        have Q1 := hid (range_cells q1)
        have KK := hid (show Keeps [] w (w8.setRow w.heap.size ((⟨⟨x1, x2, x3⟩, x4, x5, x6⟩ : Hd13).cells ++ [Value.slice ra (zs.length - 12) rc]).toArray) from (KD.out.trans r3).trans' q2 (fun i hi hm => by simp at hm; omega))
        have RR := hid (r1.keep q2 (by
          intro ad n c e hne hm
          injection e with e _ _
          have h1 : w7.heap.size ≤ ad.block := r2 ad e
          have := SL.out
          simp at hm
          omega))
        have NN := hid r2
        clear q1 q2 r1 r2 r3 D8
        generalize w8.setRow w.heap.size _ = w9 at Q1 KK RR ⊢
        go_wp2_with fail
        refine bodyPost_ret (frag_ret rfl rfl Q1.out) rfl ?_
        refine ⟨KK.out, Or.inl ⟨by rw [HF.out], ra, rc, ?_, ?_, ?_⟩⟩
        · rw [HF.out]; simp only [List.length_drop]
        · rw [HF.out]; simp only [List.length_drop]; exact RR.out
        · intro ad had
          have h1 : w7.heap.size ≤ ad.block := NN.out ad had
          have := SL.out
          omega
      · have hleb : ((zs.length : Int) != 12 + lg) = true := by simpa using hle
        have HLE := hid hle
        clear hle
        have HF := hid (show r = (hZ13, [], 4) by rw [HR.out, if_neg (by unfold fitsH; rw [HMH.out]; simp only [Bool.true_and, decide_eq_true_eq]; rw [← HLG.out]; exact HLE.out)])
        go_wp2_with fail
        exact ⟨rfl, K7.out, Or.inr ⟨by rw [HF.out]; decide, by rw [HF.out]; rfl⟩⟩
end Go.Proofs.Ytoglcohdanpciaa
