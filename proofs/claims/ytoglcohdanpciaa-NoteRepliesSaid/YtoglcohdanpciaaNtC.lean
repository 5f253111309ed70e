/- note: stripes, entries, deltas are written by the code; what was written. -/
import Derived.Test.YtoglcohdanpciaaNtB
namespace Go.Proofs.Ytoglcohdanpciaa
open Go.RowKit Go.Shelf
set_option maxRecDepth 100000
set_option linter.unusedSimpArgs false
set_option linter.unusedVariables false

set_option maxHeartbeats 6400000 in
theorem ntPut1S_any (w : World) (B p : Nat) (v : Value) (s : PSt) (x : Sz) (P : PenAt w B 172 5 p v s.1 s.2) (hB : B ≤ w.heap.size) :
    Calls Try.prog 141 #[.pointer (some ⟨p, 0, none⟩), KSz.v x] w (PenPost w B 172 5 p v (szC.p x s)) := by
  have ka : Keeps [] w (w.alloc (.cells (KSz.cells x).toArray 144)) := (Keeps.refl [] w).alloc _
  have KA := hid ka
  have DA := hid (krange_new w (KSz.cells x) 144)
  have PA := hid (P.keep ka (by simp) (by simp))
  have LT := hid (show w.heap.size ∉ p :: v.ownBlock.toList from fun h => Nat.lt_irrefl _ (pen_lt P _ h))
  have HB1 := hid (show B ≤ (w.alloc (.cells (KSz.cells x).toArray 144)).heap.size from Nat.le_trans hB ka.size)
  obtain ⟨s1, e1⟩ : ∃ t, t = penNum x.c 1 s := ⟨_, rfl⟩
  obtain ⟨s2, e2⟩ : ∃ t, t = penNum x.l 3 s1 := ⟨_, rfl⟩
  obtain ⟨s3, e3⟩ : ∃ t, t = penNum x.n 4 s2 := ⟨_, rfl⟩
  obtain ⟨s4, e4⟩ : ∃ t, t = penNum x.s 2 s3 := ⟨_, rfl⟩
  have EH : Hid (szC.p x s = s4) := hid (by rw [e4, e3, e2, e1]; rfl)
  have E1 := hid e1.symm
  have E2 := hid e2.symm
  have E3 := hid e3.symm
  have E4 := hid e4.symm
  clear ka P hB e1 e2 e3 e4
  have cc : (w.alloc (.cells (KSz.cells x).toArray 144)).cell? ⟨w.heap.size, 0, none⟩ = some (.int .i64 x.c) := by simpa using DA.out 0 _ rfl
  go_enter Try.func141, Try.ntmps141
  go_wp2_with (first | (refine wpList_boxT KSz rfl _ rfl x rfl ?_) | fail)
  clear cc
  generalize w.alloc (.cells (KSz.cells x).toArray 144) = wq0 at KA DA PA HB1 ⊢
  have HN : Calls Try.prog 106 #[.pointer (some ⟨p, 0, none⟩), .int .i64 x.c, .int .i64 1] wq0 (PenPost wq0 B 172 5 p v s1) := by
    have := num_any wq0 B p v s.1 s.2 x.c 1 PA.out HB1.out
    rw [show penNum x.c 1 (s.1, s.2) = s1 from E1.out] at this
    exact this
  refine HN.mono ?_
  intro e wq1 hq
  obtain ⟨rfl, v1, p1, k1, n1⟩ := pen_step (Keeps.refl _ _) (Or.inl rfl) hq
  have P1 := hid p1
  have K1 := hid k1
  have N1 := hid n1
  have D1 := hid (krange_keep DA.out k1 LT.out)
  clear hq p1 k1 n1 HN
  have cc : wq1.cell? ⟨w.heap.size, 1, none⟩ = some (.int .i64 x.l) := by simpa using D1.out 1 _ rfl
  go_wp2_with fail
  clear cc
  have HN : Calls Try.prog 106 #[.pointer (some ⟨p, 0, none⟩), .int .i64 x.l, .int .i64 3] wq1 (PenPost wq1 B 172 5 p v1 s2) := by
    have := num_any wq1 B p v1 s1.1 s1.2 x.l 3 P1.out (Nat.le_trans HB1.out K1.out.size)
    rw [show penNum x.l 3 (s1.1, s1.2) = s2 from E2.out] at this
    exact this
  refine HN.mono ?_
  intro e wq2 hq
  obtain ⟨rfl, v2, p2, k2, n2⟩ := pen_step K1.out N1.out hq
  have P2 := hid p2
  have K2 := hid k2
  have N2 := hid n2
  have D2 := hid (krange_keep DA.out k2 LT.out)
  clear hq p2 k2 n2 HN
  have cc : wq2.cell? ⟨w.heap.size, 2, none⟩ = some (.int .i64 x.n) := by simpa using D2.out 2 _ rfl
  go_wp2_with fail
  clear cc
  have HN : Calls Try.prog 106 #[.pointer (some ⟨p, 0, none⟩), .int .i64 x.n, .int .i64 4] wq2 (PenPost wq2 B 172 5 p v2 s3) := by
    have := num_any wq2 B p v2 s2.1 s2.2 x.n 4 P2.out (Nat.le_trans HB1.out K2.out.size)
    rw [show penNum x.n 4 (s2.1, s2.2) = s3 from E3.out] at this
    exact this
  refine HN.mono ?_
  intro e wq3 hq
  obtain ⟨rfl, v3, p3, k3, n3⟩ := pen_step K2.out N2.out hq
  have P3 := hid p3
  have K3 := hid k3
  have N3 := hid n3
  have D3 := hid (krange_keep DA.out k3 LT.out)
  clear hq p3 k3 n3 HN
  have cc : wq3.cell? ⟨w.heap.size, 3, none⟩ = some (.int .i64 x.s) := by simpa using D3.out 3 _ rfl
  go_wp2_with fail
  clear cc
  have HN : Calls Try.prog 106 #[.pointer (some ⟨p, 0, none⟩), .int .i64 x.s, .int .i64 2] wq3 (PenPost wq3 B 172 5 p v3 s4) := by
    have := num_any wq3 B p v3 s3.1 s3.2 x.s 2 P3.out (Nat.le_trans HB1.out K3.out.size)
    rw [show penNum x.s 2 (s3.1, s3.2) = s4 from E4.out] at this
    exact this
  refine HN.mono ?_
  intro e wq4 hq
  obtain ⟨rfl, v4, p4, k4, n4⟩ := pen_step K3.out N3.out hq
  have P4 := hid p4
  have K4 := hid k4
  have N4 := hid n4
  have D4 := hid (krange_keep DA.out k4 LT.out)
  clear hq p4 k4 n4 HN
  go_wp2_with fail
  go_end0
  rw [EH.out]
  exact PenPost.since KA.out P4.out K4.out N4.out
set_option maxHeartbeats 6400000 in
theorem ntPut1E_any (w : World) (B p : Nat) (v : Value) (s : PSt) (x : Ent) (P : PenAt w B 172 5 p v s.1 s.2) (hB : B ≤ w.heap.size) (hx : x.nm.size ≤ 35184372088832) :
    Calls Try.prog 126 #[.pointer (some ⟨p, 0, none⟩), KEnt.v x] w (PenPost w B 172 5 p v (enC.p x s)) := by
  have ka : Keeps [] w (w.alloc (.cells (KEnt.cells x).toArray 102)) := (Keeps.refl [] w).alloc _
  have KA := hid ka
  have DA := hid (krange_new w (KEnt.cells x) 102)
  have PA := hid (P.keep ka (by simp) (by simp))
  have LT := hid (show w.heap.size ∉ p :: v.ownBlock.toList from fun h => Nat.lt_irrefl _ (pen_lt P _ h))
  have HB1 := hid (show B ≤ (w.alloc (.cells (KEnt.cells x).toArray 102)).heap.size from Nat.le_trans hB ka.size)
  have HLX := hid hx
  clear hx
  obtain ⟨s1, e1⟩ : ∃ t, t = penRaw (codes x.nm) s := ⟨_, rfl⟩
  obtain ⟨s2, e2⟩ : ∃ t, t = penNum x.ino 2 s1 := ⟨_, rfl⟩
  obtain ⟨s3, e3⟩ : ∃ t, t = penBool x.dir s2 := ⟨_, rfl⟩
  have EH : Hid (enC.p x s = s3) := hid (by rw [e3, e2, e1]; rfl)
  have E1 := hid e1.symm
  have E2 := hid e2.symm
  have E3 := hid e3.symm
  clear ka P hB e1 e2 e3
  have cc : (w.alloc (.cells (KEnt.cells x).toArray 102)).cell? ⟨w.heap.size, 0, none⟩ = some (.string x.nm) := by simpa using DA.out 0 _ rfl
  go_enter Try.func126, Try.ntmps126
  go_wp2_with (first | (refine wpList_boxT KEnt rfl _ rfl x rfl ?_) | fail)
  clear cc
  generalize w.alloc (.cells (KEnt.cells x).toArray 102) = wq0 at KA DA PA HB1 ⊢
  have HN : Calls Try.prog 139 #[.pointer (some ⟨p, 0, none⟩), .string x.nm] wq0 (PenPost wq0 B 172 5 p v s1) := by
    have := text_any wq0 B p v s.1 s.2 x.nm PA.out HB1.out HLX.out
    rw [show penRaw (codes x.nm) (s.1, s.2) = s1 from E1.out] at this
    exact this
  refine HN.mono ?_
  intro e wq1 hq
  obtain ⟨rfl, v1, p1, k1, n1⟩ := pen_step (Keeps.refl _ _) (Or.inl rfl) hq
  have P1 := hid p1
  have K1 := hid k1
  have N1 := hid n1
  have D1 := hid (krange_keep DA.out k1 LT.out)
  clear hq p1 k1 n1 HN
  have cc : wq1.cell? ⟨w.heap.size, 1, none⟩ = some (.int .i64 x.ino) := by simpa using D1.out 1 _ rfl
  go_wp2_with fail
  clear cc
  have HN : Calls Try.prog 106 #[.pointer (some ⟨p, 0, none⟩), .int .i64 x.ino, .int .i64 2] wq1 (PenPost wq1 B 172 5 p v1 s2) := by
    have := num_any wq1 B p v1 s1.1 s1.2 x.ino 2 P1.out (Nat.le_trans HB1.out K1.out.size)
    rw [show penNum x.ino 2 (s1.1, s1.2) = s2 from E2.out] at this
    exact this
  refine HN.mono ?_
  intro e wq2 hq
  obtain ⟨rfl, v2, p2, k2, n2⟩ := pen_step K1.out N1.out hq
  have P2 := hid p2
  have K2 := hid k2
  have N2 := hid n2
  have D2 := hid (krange_keep DA.out k2 LT.out)
  clear hq p2 k2 n2 HN
  have cc : wq2.cell? ⟨w.heap.size, 2, none⟩ = some (.bool x.dir) := by simpa using D2.out 2 _ rfl
  go_wp2_with fail
  clear cc
  have HN : Calls Try.prog 124 #[.pointer (some ⟨p, 0, none⟩), .bool x.dir] wq2 (PenPost wq2 B 172 5 p v2 s3) := by
    have := bool_any wq2 B p v2 s2.1 s2.2 x.dir P2.out (Nat.le_trans HB1.out K2.out.size)
    rw [show penBool x.dir (s2.1, s2.2) = s3 from E3.out] at this
    exact this
  refine HN.mono ?_
  intro e wq3 hq
  obtain ⟨rfl, v3, p3, k3, n3⟩ := pen_step K2.out N2.out hq
  have P3 := hid p3
  have K3 := hid k3
  have N3 := hid n3
  have D3 := hid (krange_keep DA.out k3 LT.out)
  clear hq p3 k3 n3 HN
  go_wp2_with fail
  go_end0
  rw [EH.out]
  exact PenPost.since KA.out P3.out K3.out N3.out
theorem lsP_snoc {α : Type} {p : α → PSt → PSt} {l : List α} {k : Nat} {t : PSt} (h : k < l.length) : lsP p (l.take (k + 1)) t = p l[k] (lsP p (l.take k) t) := by
  unfold lsP
  rw [List.take_succ_eq_append_getElem h, List.foldl_append]
  rfl
theorem PenSince.keepN {w w2 w3 : World} {T p v zs bad} (h : PenSince w w2 T p v zs bad) (k : Keeps [] w2 w3) : PenSince w w3 T p v zs bad := ⟨h.pen.keep k (by simp) (by simp), h.kept.trans k⟩
/-- A pen made since w that is in the state s. -/
def PSn (w w' : World) (T : TypeId) (p : Nat) (s : PSt) (e : Ending) : Prop := e = .returned (.tuple #[]) ∧ ∃ v', PenSince w w' T p v' s.1 s.2

set_option maxHeartbeats 6400000 in
theorem ntPutS_any (w0 w : World) (p : Nat) (v : Value) (s : PSt) (P : PenSince w0 w 172 p v s.1 s.2) (u : Value) (l : List Sz) (h : LsAt KSz w0 u l) :
    Calls Try.prog 140 #[.pointer (some ⟨p, 0, none⟩), u, .func (.func 141) #[] #[]] w fun e w' => PSn w0 w' 172 p (lsP szC.p l (penNum l.length 2 s)) e := by
  have HF := h.few
  unfold maxLen at HF
  obtain ⟨a, c, rfl⟩ := h.shape
  have HV := hid h
  have P1 := hid P
  obtain ⟨t0, ht0⟩ : ∃ t, t = penNum (l.length : Int) 2 s := ⟨_, rfl⟩
  rw [← ht0]
  have T0 := hid ht0
  clear h P ht0
  go_enter Try.func140, Try.ntmps140
  go_wp2_with fail
  refine (num_any w w0.heap.size p v s.1 s.2 (l.length : Int) 2 P1.out.pen P1.out.kept.size).mono ?_
  intro e w4 hq
  rw [show penNum (l.length : Int) 2 (s.1, s.2) = t0 from T0.out.symm] at hq
  obtain ⟨rfl, v4, q4⟩ := P1.out.step hq
  have P4 := hid q4
  clear q4 hq
  go_wp2_with fail
  go_loopw [14] (fun iv wr => ∃ (k : Nat) (v5 : Value), k ≤ l.length ∧ iv = .int .i64 k ∧ Hid (PenSince w0 wr 172 p v5 (lsP szC.p (l.take k) t0).1 (lsP szC.p (l.take k) t0).2)) (fun iv _ => l.length - (intOf iv).toNat)
  case atStart => exact ⟨0, v4, by omega, rfl, P4⟩
  case round =>
    obtain ⟨k, v5, hk, rfl, P5⟩ := hrel
    by_cases hlt : k < l.length
    · obtain ⟨g, off, rfl, hg, R0⟩ := (HV.out.keep P5.out.kept).at k hlt
      obtain ⟨x, hx⟩ : ∃ x, x = l[k] := ⟨_, rfl⟩
      rw [← hx] at R0
      have R := hid R0
      have HX := hid hx
      have RA := hid (krange_new wr (KSz.cells x) 144)
      have PA := hid (P5.out.keepN ((Keeps.refl [] wr).alloc (.cells (KSz.cells x).toArray 144)))
      clear hg R0 hx
      go_wp2_with (first | (refine wpList_loadT cSz rfl _ rfl g (off + k * 4) (by simp [Act.eval]) x R.out ?_) | (refine wpList_allocT cSz rfl rfl ?_) | (refine wpList_newT cSz rfl wr _ _ rfl rfl rfl x rfl ?_) | (refine wpList_loadT cSz rfl _ rfl wr.heap.size 0 rfl x RA.out ?_) | fail)
      have HN := ntPut1S_any _ w0.heap.size p v5 (lsP szC.p (l.take k) t0) x PA.out.pen PA.out.kept.size
      refine HN.mono ?_
      intro e w6 hq
      obtain ⟨rfl, v6, q6⟩ := PA.out.step hq
      have P6 := hid q6
      clear q6 hq HN
      go_wp2_with fail
      go_roundw
      case rel => exact ⟨k + 1, v6, by omega, by go_num, hid (by rw [lsP_snoc hlt, ← HX.out]; exact P6.out)⟩
      case measure => simp [intOf]; omega
    · obtain rfl : k = l.length := by omega
      have PE := hid (show PenSince w0 wr 172 p v5 (lsP szC.p l t0).1 (lsP szC.p l t0).2 by have := P5.out; rwa [List.take_length] at this)
      go_wp2_with fail
      go_end0
      exact ⟨rfl, v5, PE.out⟩
set_option maxHeartbeats 6400000 in
theorem ntPutE_any (w0 w : World) (p : Nat) (v : Value) (s : PSt) (P : PenSince w0 w 172 p v s.1 s.2) (u : Value) (l : List Ent) (h : LsAt KEnt w0 u l) (hl : ∀ x ∈ l, x.nm.size ≤ 35184372088832) :
    Calls Try.prog 125 #[.pointer (some ⟨p, 0, none⟩), u, .func (.func 126) #[] #[]] w fun e w' => PSn w0 w' 172 p (lsP enC.p l (penNum l.length 2 s)) e := by
  have HF := h.few
  unfold maxLen at HF
  obtain ⟨a, c, rfl⟩ := h.shape
  have HV := hid h
  have P1 := hid P
  have HL := hid hl
  clear hl
  obtain ⟨t0, ht0⟩ : ∃ t, t = penNum (l.length : Int) 2 s := ⟨_, rfl⟩
  rw [← ht0]
  have T0 := hid ht0
  clear h P ht0
  go_enter Try.func125, Try.ntmps125
  go_wp2_with fail
  refine (num_any w w0.heap.size p v s.1 s.2 (l.length : Int) 2 P1.out.pen P1.out.kept.size).mono ?_
  intro e w4 hq
  rw [show penNum (l.length : Int) 2 (s.1, s.2) = t0 from T0.out.symm] at hq
  obtain ⟨rfl, v4, q4⟩ := P1.out.step hq
  have P4 := hid q4
  clear q4 hq
  go_wp2_with fail
  go_loopw [14] (fun iv wr => ∃ (k : Nat) (v5 : Value), k ≤ l.length ∧ iv = .int .i64 k ∧ Hid (PenSince w0 wr 172 p v5 (lsP enC.p (l.take k) t0).1 (lsP enC.p (l.take k) t0).2)) (fun iv _ => l.length - (intOf iv).toNat)
  case atStart => exact ⟨0, v4, by omega, rfl, P4⟩
  case round =>
    obtain ⟨k, v5, hk, rfl, P5⟩ := hrel
    by_cases hlt : k < l.length
    · obtain ⟨g, off, rfl, hg, R0⟩ := (HV.out.keep P5.out.kept).at k hlt
      obtain ⟨x, hx⟩ : ∃ x, x = l[k] := ⟨_, rfl⟩
      rw [← hx] at R0
      have R := hid R0
      have HX := hid hx
      have RA := hid (krange_new wr (KEnt.cells x) 102)
      have PA := hid (P5.out.keepN ((Keeps.refl [] wr).alloc (.cells (KEnt.cells x).toArray 102)))
      clear hg R0 hx
      go_wp2_with (first | (refine wpList_loadT cEnt rfl _ rfl g (off + k * 3) (by simp [Act.eval]) x R.out ?_) | (refine wpList_allocT cEnt rfl rfl ?_) | (refine wpList_newT cEnt rfl wr _ _ rfl rfl rfl x rfl ?_) | (refine wpList_loadT cEnt rfl _ rfl wr.heap.size 0 rfl x RA.out ?_) | fail)
      have HN := ntPut1E_any _ w0.heap.size p v5 (lsP enC.p (l.take k) t0) x PA.out.pen PA.out.kept.size (by rw [HX.out]; exact HL.out _ (List.getElem_mem _))
      refine HN.mono ?_
      intro e w6 hq
      obtain ⟨rfl, v6, q6⟩ := PA.out.step hq
      have P6 := hid q6
      clear q6 hq HN
      go_wp2_with fail
      go_roundw
      case rel => exact ⟨k + 1, v6, by omega, by go_num, hid (by rw [lsP_snoc hlt, ← HX.out]; exact P6.out)⟩
      case measure => simp [intOf]; omega
    · obtain rfl : k = l.length := by omega
      have PE := hid (show PenSince w0 wr 172 p v5 (lsP enC.p l t0).1 (lsP enC.p l t0).2 by have := P5.out; rwa [List.take_length] at this)
      go_wp2_with fail
      go_end0
      exact ⟨rfl, v5, PE.out⟩
set_option maxHeartbeats 6400000 in
theorem ntPutD_any (w0 w : World) (p : Nat) (v : Value) (s : PSt) (P : PenSince w0 w 172 p v s.1 s.2) (u : Value) (l : List Dl) (h : DlsAt w0 u l) :
    Calls Try.prog 142 #[.pointer (some ⟨p, 0, none⟩), u, .func (.func 143) #[] #[]] w fun e w' => PSn w0 w' 172 p (lsP dlC.p l (penNum l.length 2 s)) e := by
  have HF := h.few
  unfold maxLen at HF
  obtain ⟨a, c, rfl⟩ := h.shape
  have HV := hid h
  have P1 := hid P
  obtain ⟨t0, ht0⟩ : ∃ t, t = penNum (l.length : Int) 2 s := ⟨_, rfl⟩
  rw [← ht0]
  have T0 := hid ht0
  clear h P ht0
  go_enter Try.func142, Try.ntmps142
  go_wp2_with fail
  refine (num_any w w0.heap.size p v s.1 s.2 (l.length : Int) 2 P1.out.pen P1.out.kept.size).mono ?_
  intro e w4 hq
  rw [show penNum (l.length : Int) 2 (s.1, s.2) = t0 from T0.out.symm] at hq
  obtain ⟨rfl, v4, q4⟩ := P1.out.step hq
  have P4 := hid q4
  clear q4 hq
  go_wp2_with fail
  go_loopw [14] (fun iv wr => ∃ (k : Nat) (v5 : Value), k ≤ l.length ∧ iv = .int .i64 k ∧ Hid (PenSince w0 wr 172 p v5 (lsP dlC.p (l.take k) t0).1 (lsP dlC.p (l.take k) t0).2)) (fun iv _ => l.length - (intOf iv).toNat)
  case atStart => exact ⟨0, v4, by omega, rfl, P4⟩
  case round =>
    obtain ⟨k, v5, hk, rfl, P5⟩ := hrel
    by_cases hlt : k < l.length
    · obtain ⟨g, off, rfl, hg, R0⟩ := (HV.out.keep P5.out.kept).at k hlt
      obtain ⟨x, hx⟩ : ∃ x, x = l[k] := ⟨_, rfl⟩
      rw [← hx] at R0
      have R := hid R0
      have HX := hid hx
      have RA := hid (range_new wr x.cells 149)
      have PA := hid (P5.out.keepN ((Keeps.refl [] wr).alloc (.cells x.cells.toArray 149)))
      clear hg R0 hx
      go_wp2_with (first | (refine wpList_isW rfl _ _ (exec_load _ _ _ _ rfl rfl (loadDl_run _ g (off + k * 14) x R.out)) ?_) | (refine wpList_is rfl _ _ (exec_alloc 149 dZ.cells.toArray iDelta rfl) ?_) | (refine wpList_noval rfl _ (exec_storeNew 149 _ _ rfl wr dZ.cells.toArray x.cells.toArray rfl rfl rfl iDelta rfl (dcells_one x)) ?_) | (refine wpList_isW rfl _ _ (exec_load _ _ _ _ rfl rfl (loadDl_run _ wr.heap.size 0 x RA.out)) ?_) | fail)
      have HN := dPut_any _ w0.heap.size p v5 (lsP dlC.p (l.take k) t0) x PA.out.pen PA.out.kept.size
      refine HN.mono ?_
      intro e w6 hq
      obtain ⟨rfl, v6, q6⟩ := PA.out.step hq
      have P6 := hid q6
      clear q6 hq HN
      go_wp2_with fail
      go_roundw
      case rel => exact ⟨k + 1, v6, by omega, by go_num, hid (by rw [lsP_snoc hlt, ← HX.out]; exact P6.out)⟩
      case measure => simp [intOf]; omega
    · obtain rfl : k = l.length := by omega
      have PE := hid (show PenSince w0 wr 172 p v5 (lsP dlC.p l t0).1 (lsP dlC.p l t0).2 by have := P5.out; rwa [List.take_length] at this)
      go_wp2_with fail
      go_end0
      exact ⟨rfl, v5, PE.out⟩
/-- What is built: bytes in new memory; or it gave up. -/
def BCl (w : World) (r : List Int × Int) (e : Ending) (w' : World) : Prop :=
  Keeps [] w w' ∧ ((r.2 = 0 ∧ ∃ a c, e = .returned (.slice a r.1.length c) ∧ RowAt w' (.slice a r.1.length c) r.1 ∧ ∀ ad, a = some ad → w.heap.size ≤ ad.block) ∨ (r.2 ≠ 0 ∧ r.1 = [] ∧ e = gaveUp r.2))
set_option maxHeartbeats 3200000 in
theorem ntWritten_any (w0 w : World) (p : Nat) (v : Value) (s : PSt) (P : PenSince w0 w 172 p v s.1 s.2) : Calls Try.prog 128 #[.pointer (some ⟨p, 0, none⟩)] w (BCl w0 (endS s)) := by
  have P1 := hid P
  obtain ⟨r, hr⟩ : ∃ r, r = endS s := ⟨_, rfl⟩
  rw [← hr]
  have HR := hid hr
  clear P hr
  go_enter Try.func128, Try.ntmps128
  go_wp2_with fail
  refine (bytes_any w w0.heap.size p v s.1 s.2 P1.out.pen).mono ?_
  rintro e w7 ⟨a7, c7, q0, q1, q2, q3⟩
  simp only at q0 q1
  have e1 : (if s.2 = 0 then s.1 else []) = r.1 := by rw [HR.out]; rfl
  have e2 : s.2 = r.2 := by rw [HR.out]; rfl
  rw [e1, e2] at q0
  rw [e1] at q1
  have RE := hid (show r.2 ≠ 0 → r.1 = [] from fun h => by rw [← e1, if_neg (by rw [e2]; exact h)])
  subst q0
  have R := hid q1
  have K := hid (P1.out.kept.trans q3)
  have N := hid (fun ad (h : a7 = some ad) => Nat.le_trans P1.out.kept.size (q2 ad h))
  clear q1 q2 q3 e1 e2 HR
  go_wp2_with fail
  refine (gvB_any w7 _ _ _ r.2).mono ?_
  rintro e _ ⟨rfl, ⟨h, rfl⟩ | ⟨h, rfl⟩⟩
  · have H := hid h
    clear h
    go_wp2_with fail
    go_ret
    exact ⟨K.out, Or.inl ⟨H.out, a7, c7, rfl, R.out, N.out⟩⟩
  · have H := hid h
    clear h
    unfold gaveUp
    go_wp2_with fail
    exact ⟨rfl, K.out, Or.inr ⟨H.out, RE.out H.out, rfl⟩⟩
end Go.Proofs.Ytoglcohdanpciaa
