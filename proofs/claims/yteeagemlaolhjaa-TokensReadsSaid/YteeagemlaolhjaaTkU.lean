/- tokens: the reference's ReadTokens. -/
import Derived.Test.YteeagemlaolhjaaTkT
import Derived.Deep.CutRange
namespace Go.Proofs.Yteeagemlaolhjaa
open Go.RowKit Go.Shelf
set_option maxRecDepth 100000
set_option linter.unusedSimpArgs false
set_option linter.unusedVariables false

def formK (st : PSt) (b : Bool) : PSt := if b = true ∧ st.2 = 0 then (st.1, 4) else st
set_option maxHeartbeats 1600000 in
theorem rkFall_any {w : World} {B p : Nat} {st : PSt} (h : REyL w B p st) (y : Int) :
    Calls Try.prog 67 #[.pointer (some ⟨p, 0, none⟩), .int .i64 y] w fun e w' => e = .returned (.tuple #[]) ∧ REyL w' B p (if st.2 = 0 then (st.1, y) else st) ∧ Keeps [p] w w' := by
  have H := hid h
  obtain ⟨c1, f1⟩ := h.cells
  clear h
  by_cases hz : st.2 = 0
  · have HZ := hid hz
    have hzb : (st.2 == 0) = true := by simpa using hz
    clear hz
    go_enter Try.func67, Try.ntmps67
    go_wp2_with fail
    go_end0
    obtain ⟨v2, he⟩ := H.out
    obtain ⟨e1, e2⟩ := he.setBad y
    exact ⟨rfl, ⟨v2, e1⟩, e2⟩
  · have HZ := hid hz
    have hzb : (st.2 == 0) = false := by simpa using hz
    clear hz
    go_enter Try.func67, Try.ntmps67
    go_wp2_with fail
    go_end0
    exact ⟨rfl, H.out, Keeps.refl _ _⟩
set_option maxHeartbeats 1600000 in
theorem rkForm_any {w : World} {B p : Nat} {st : PSt} (h : REyL w B p st) (b : Bool) :
    Calls Try.prog 55 #[.pointer (some ⟨p, 0, none⟩), .bool b] w fun e w' => e = .returned (.tuple #[]) ∧ REyL w' B p (formK st b) ∧ Keeps [p] w w' := by
  have H := hid h
  clear h
  cases b with
  | true =>
    go_enter Try.func55, Try.ntmps55
    go_wp2_with fail
    refine (rkFall_any H.out 4).mono ?_
    rintro e w2 ⟨rfl, h2, k2⟩
    have H2 := hid h2
    have K2 := hid k2
    clear h2 k2
    go_wp2_with fail
    go_end0
    refine ⟨rfl, ?_, K2.out⟩
    have := H2.out
    unfold formK
    by_cases hz : st.2 = 0
    · rw [if_pos hz] at this
      rw [if_pos ⟨rfl, hz⟩]
      exact this
    · rw [if_neg hz] at this
      rw [if_neg (fun h => hz h.2)]
      exact this
  | false =>
    go_enter Try.func55, Try.ntmps55
    go_wp2_with fail
    go_end0
    exact ⟨rfl, by unfold formK; rw [if_neg (by simp)]; exact H.out, Keeps.refl _ _⟩

/-- The reference's tokens, their rows in v. -/
structure RTokV (w : World) (B q : Nat) (v : Value) (rs : List Rk) : Prop where
  blk : w.heap[q]? = some (.cells #[v] 35 (0, 0))
  own : OwnK w B 50 [] v rs
  ne : v.ownBlock ≠ some q
  lo : B ≤ q
def RTok (w : World) (B q : Nat) (rs : List Rk) : Prop := ∃ a c, RTokV w B q (.slice a rs.length c) rs
theorem OwnK.off {w w' : World} {B : Nat} {T : TypeId} {M S : List Nat} {v : Value} {ps : List Rk} (h : OwnK w B T M v ps) (k : Keeps S w w') (hs : ∀ b, v.ownBlock = some b → b ∉ S) : OwnK w' B T M v ps := ⟨ownsRow_keepK h.row k hs, h.lt⟩
theorem RTokV.lt {w : World} {B q : Nat} {v : Value} {rs : List Rk} (h : RTokV w B q v rs) : q < w.heap.size := lt_of_block h.blk
theorem RTokV.keep {w w' : World} {B q : Nat} {v : Value} {rs : List Rk} {S : List Nat} (h : RTokV w B q v rs) (k : Keeps S w w') (hq : q ∉ S) (ho : ∀ b, v.ownBlock = some b → b ∉ S) : RTokV w' B q v rs :=
  ⟨(k.block q h.lt hq).trans h.blk, h.own.off k ho, h.ne, h.lo⟩
theorem RTokV.later {w w' : World} {B q : Nat} {v : Value} {rs : List Rk} (h : RTokV w B q v rs) (k : Keeps [] w w') : RTokV w' B q v rs := h.keep k (by simp) (by simp)
theorem RTokV.cell {w : World} {B q : Nat} {v : Value} {rs : List Rk} (h : RTokV w B q v rs) : w.cell? ⟨q, 0, none⟩ = some v ∧ w.frozen? ⟨q, 0, none⟩ = false := by
  constructor
  · simp [World.cell?, h.blk]
  · simp [World.frozen?, h.blk]
theorem RTok.lt {w : World} {B q : Nat} {rs : List Rk} (h : RTok w B q rs) : q < w.heap.size := by obtain ⟨a, c, h⟩ := h; exact h.lt
theorem RTok.later {w w' : World} {B q : Nat} {rs : List Rk} (h : RTok w B q rs) (k : Keeps [] w w') : RTok w' B q rs := by obtain ⟨a, c, h⟩ := h; exact ⟨a, c, h.later k⟩
theorem RTok.keep {w w' : World} {B q p : Nat} {rs : List Rk} (h : RTok w B q rs) (k : Keeps [p] w w') (hp : p < B) : RTok w' B q rs := by
  obtain ⟨a, c, h⟩ := h
  refine ⟨a, c, h.keep k (by have := h.lo; simp; omega) (fun b hb hm => ?_)⟩
  have := (h.own.blk b hb).1
  simp at hm
  omega
theorem RTokV.set {w w1 : World} {B q : Nat} {u v : Value} {rs ms : List Rk} (h : RTokV w B q u rs) {S : List Nat} (k : Keeps S w w1) (hS : q ∉ S) (ho : OwnK w1 B 50 [] v ms) (hne : v.ownBlock ≠ some q) : RTokV (w1.setCell ⟨q, 0, none⟩ v) B q v ms := by
  refine ⟨?_, ho.off (set_keep (b := q) (i := 0) (u := v)) (fun b hb hm => by simp at hm; subst hm; exact hne hb), hne, h.lo⟩
  have := set_five ((k.block q h.lt hS).trans h.blk) (i := 0) v
  simpa using this
/-- What makes a row of bytes no row, whatever the others are; and with another one. -/
def bad0 (x : Rk) : Bool := decide (4 ≤ x.c) || (decide (4 ≤ x.h) || (decide (x.n < 2) || decide (128 < x.n)))
def badW (x y : Rk) : Bool := clashK y x || !aheadK y x
theorem takeK_bad {rs : List Rk} (h : GoodK rs) {r : Rk} (hc : 0 ≤ r.c) (hh : 0 ≤ r.h) : (bad0 r || rs.any (badW r)) = !takeK rs r := by
  have e1 : bad0 r = !mayK r := by
    unfold bad0 mayK btwK
    rw [Bool.eq_iff_iff]
    simp
    omega
  have e2 : rs.any (badW r) = !(lastK rs r && !rs.any (clashK r)) := by
    cases hcl : rs.any (clashK r) with
    | true =>
      obtain ⟨y, hy, hq⟩ := List.any_eq_true.1 hcl
      rw [List.any_eq_true.2 ⟨y, hy, by unfold badW; rw [clashK_comm, hq]; rfl⟩]
      simp
    | false =>
      cases hl : lastK rs r with
      | true =>
        have := last_all h hl
        have : rs.any (badW r) = false := by
          rw [List.any_eq_false]
          intro y hy
          unfold badW
          rw [this y hy, clashK_comm]
          have := List.any_eq_false.1 hcl y hy
          simpa using this
        rw [this]; rfl
      | false =>
        have hne : rs.length ≠ 0 := by intro e; unfold lastK at hl; rw [if_pos e] at hl; cases hl
        have hl2 : aheadK (rs[rs.length - 1]'(by omega)) r = false := by
          unfold lastK at hl
          rw [if_neg hne, List.getD_eq_getElem?_getD, List.getElem?_eq_getElem (by omega)] at hl
          exact hl
        rw [List.any_eq_true.2 ⟨_, List.getElem_mem (show rs.length - 1 < rs.length by omega), by unfold badW; rw [hl2]; simp⟩]
        rfl
  rw [e1, e2]
  unfold takeK
  cases mayK r <;> simp
theorem badW_c {x y : Rk} (hn : y.n = x.n) (hb : (y.b || x.b) = true) : badW x y = true := by unfold badW clashK; rw [hb]; simp [hn]
theorem badW_gt {x y : Rk} (hc : x.c < y.c) : badW x y = true := by
  have : aheadK y x = false := by cases h : aheadK y x with
    | false => rfl
    | true => have := aheadK_is.1 h; omega
  unfold badW; rw [this]; simp
theorem badW_eq {x y : Rk} (hc : y.c = x.c) (hh : x.h ≤ y.h) : badW x y = true := by
  have : aheadK y x = false := by cases h : aheadK y x with
    | false => rfl
    | true => have := aheadK_is.1 h; omega
  unfold badW; rw [this]; simp
theorem badW_no {x y : Rk} (hcl : clashK y x = false) (h : y.c < x.c ∨ (y.c = x.c ∧ y.h < x.h)) : badW x y = false := by
  have : aheadK y x = true := aheadK_is.2 h
  unfold badW; rw [this, hcl]; rfl
theorem clash_ne {x y : Rk} (h : y.n ≠ x.n) : clashK y x = false := by unfold clashK; simp [h]
theorem clash_ff {x y : Rk} (h1 : y.b = false) (h2 : x.b = false) : clashK y x = false := by unfold clashK; simp [h1, h2]
theorem any_take_succ (p : Rk → Bool) {rs : List Rk} {k : Nat} (hk : k < rs.length) : (rs.take (k + 1)).any p = ((rs.take k).any p || p rs[k]) := by
  rw [List.take_succ_eq_append_getElem hk, List.any_append]
  simp
theorem rdT_bad (m : Nat) (rs : List Rk) {st : PSt} (h : st.2 ≠ 0) : rdT m rs st = (rs, st) := by
  cases m with
  | zero => rfl
  | succ m => unfold rdT; rw [if_pos h]
theorem RkZ_build (w : World) : (Instr.build 50 #[]).run Try.prog w = .ok (rkV rZ) w := by kernel_rfl
theorem exec_rrz {ρ : Operand → Value} {o : Oper} {w : World} (ho : o.op = .build 50 #[]) : (execOp ρ o).run Try.prog w = .ok (.value (rkV rZ)) w := by
  simp only [execOp, ho, List.map_toArray, List.map_nil, Sem.run_bind, RkZ_build, Result.andThen_ok, Sem.run_pure]
theorem iRTok : (Try.prog.info? 35).map (fun i => (i.zero, i.size)) = some (some (.agg #[.slice none 0 0]), 1) := by kernel_rfl
def RRdPost (w : World) (B p : Nat) (R : List Rk × PSt) (e : Ending) (w' : World) : Prop :=
  Keeps [p] w w' ∧ ∃ q, w.heap.size ≤ q ∧ e = .returned (.pointer (some ⟨q, 0, none⟩)) ∧ RTok w' w.heap.size q R.1 ∧ REyL w' B p R.2
theorem rdRow_nn {st : PSt} (hb : ∀ z ∈ st.1, 0 ≤ z ∧ z ≤ 255) : 0 ≤ (rdRow st).1.c ∧ 0 ≤ (rdRow st).1.h := by
  have h1 := numE1_le hb
  have h2 := numE1_le (numE_bytes 1 hb)
  exact ⟨h1.1, h2.1⟩
theorem REyL.bytes {wr : World} {B p : Nat} {st : PSt} (h : REyL wr B p st) : ∀ z ∈ st.1, 0 ≤ z ∧ z ≤ 255 := by
  obtain ⟨v2, he⟩ := h
  exact he.row.bytes
set_option maxHeartbeats 25600000 in
theorem rread15_any (w : World) (B p : Nat) (st : PSt) (h : REyL w B p st) (hB : B ≤ w.heap.size) :
    Calls Try.prog 29 #[.pointer (some ⟨p, 0, none⟩)] w (RRdPost w B p (rdAll st)) := by
  have HE := hid h
  have HB := hid hB
  have hn := numE1_le h.bytes
  obtain ⟨R, hR⟩ : ∃ z, z = rdAll st := ⟨_, rfl⟩
  rw [← hR]
  obtain ⟨x1, s1, e1⟩ : ∃ x s, numE 1 st = (x, s) := ⟨_, _, rfl⟩
  rw [e1] at hn
  obtain ⟨n, hnn⟩ : ∃ n : Nat, x1 = (n : Int) := Int.eq_ofNat_of_zero_le hn.1
  subst hnn
  have N1 := hid e1
  have HR := hid (show R = rdT n [] s1 by rw [hR, rdAll, e1]; rfl)
  have hn255 : n ≤ 255 := by have := hn.2; simp only at this; omega
  have HPL := hid h.lt
  have ka : Keeps [] w (w.alloc (.cells #[.slice none 0 0] 35)) := (Keeps.refl [] w).alloc _
  have E1 := hid (HE.out.more ka)
  have T1 := hid (show RTok (w.alloc (.cells #[.slice none 0 0] 35)) w.heap.size w.heap.size [] from ⟨none, 0, heap_alloc_new w _, OwnK.nil _ _ _ _ (by simp), by simp [Value.ownBlock], Nat.le_refl _⟩)
  have K1 := hid ka
  clear h hB hR e1 hn ka
  go_enter Try.func29, Try.ntmps29
  go_wp2_with fail
  generalize w.alloc (.cells #[.slice none 0 0] 35) = w1 at E1 T1 K1 ⊢
  obtain ⟨q, hq⟩ : ∃ q, q = w.heap.size := ⟨_, rfl⟩
  have HQ := hid hq
  rw [← hq] at T1 ⊢
  have HPQ := hid (show p ≠ q by have := HPL.out; omega)
  clear hq
  have A1 := E1.out.num 1
  rw [N1.out] at A1
  refine A1.mono ?_
  rintro e w2 ⟨rfl, e2, k2⟩
  have E2 := hid e2
  have K2 := hid ((K1.out.mono (S' := [p]) (by simp)).trans k2)
  have T2 := hid (T1.out.keep k2 (by have := HPL.out; have := HQ.out; omega))
  clear A1 e2 k2
  go_wp2_with fail
  go_loopw [5, 6, 7, 8, 9] (fun iv _ _ _ _ wr => ∃ (i : Nat) (rs : List Rk) (s : PSt), iv = .int .i64 (i : Int) ∧ i ≤ n ∧ rs.length ≤ i ∧ Hid (R = rdT (n - i) rs s) ∧ Hid (RTok wr q q rs) ∧ Hid (s.2 = 0 → GoodK rs) ∧ Hid (REyL wr B p s) ∧ Hid (Keeps [p] w wr)) (fun iv _ _ _ _ _ => n - (intOf iv).toNat)
  case atStart => exact ⟨0, [], s1, rfl, by omega, by simp, HR, T2, hid (fun _ => GoodK.nil), E2, K2⟩
  case round =>
    obtain ⟨i, rs, s, rfl, hi, hlen, RR, TT, GG, EE, KK⟩ := hrel
    rename World => wo
    have HLEN := hid hlen
    obtain ⟨cb, fb⟩ := EE.out.cells
    by_cases hlt : i < n
    · by_cases hs0 : s.2 = 0
      · have hsb : (s.2 == 0) = true := by simp [hs0]
        have GR := hid (GG.out hs0)
        have RR2 := RR.out
        rw [show n - i = (n - (i + 1)) + 1 by omega] at RR2
        unfold rdT at RR2
        rw [if_neg (by simp [hs0])] at RR2
        have NN := hid (rdRow_nn EE.out.bytes)
        obtain ⟨x1, s1, e1⟩ : ∃ x t, numE 1 s = (x, t) := ⟨_, _, rfl⟩
        obtain ⟨x2, s2, e2⟩ : ∃ x t, numE 1 s1 = (x, t) := ⟨_, _, rfl⟩
        obtain ⟨x3, s3, e3⟩ : ∃ x t, numE 2 s2 = (x, t) := ⟨_, _, rfl⟩
        obtain ⟨x4, s4, e4⟩ : ∃ x t, boolE s3 = (x, t) := ⟨_, _, rfl⟩
        have EG : rdRow s = (⟨x1, x2, x3, x4⟩, s4) := by unfold rdRow; rw [e1]; simp only; rw [e2]; simp only; rw [e3]; simp only; rw [e4]
        rw [EG] at RR2 NN
        simp only at RR2 NN
        have RX := hid RR2
        have N1 := hid e1
        have N2 := hid e2
        have N3 := hid e3
        have N4 := hid e4
        have ka : Keeps [] wo (wo.alloc (.cells rZ.cells.toArray 50)) := (Keeps.refl [] wo).alloc _
        have E0 := hid (EE.out.more ka)
        obtain ⟨av, cv, tv⟩ := TT.out
        have OB := hid (show ∀ b, (Value.slice av rs.length cv).ownBlock = some b → q ≤ b ∧ b < wo.heap.size from fun b hb => tv.own.blk b hb)
        have OFP := hid (show ∀ b, (Value.slice av rs.length cv).ownBlock = some b → b ∉ [p] from fun b hb hm => by have := (OB.out b hb).1; have := HPL.out; have := HQ.out; simp at hm; omega)
        have OFX := hid (show ∀ b, (Value.slice av rs.length cv).ownBlock = some b → b ∉ [wo.heap.size] from fun b hb hm => by have := (OB.out b hb).2; simp at hm; omega)
        have QP := hid (show q ∉ [p] by have := HPQ.out; simp; omega)
        have QX := hid (show q ∉ [wo.heap.size] by have := tv.lt; simp; omega)
        have T0 := hid (tv.later ka)
        clear tv
        have J0 := hid (heap_alloc_new wo (.cells rZ.cells.toArray 50))
        have K0 := hid (KK.out.trans (ka.mono (by simp)))
        have HS0 := hid (show wo.heap.size < (wo.alloc (.cells rZ.cells.toArray 50)).heap.size by simp)
        have HPX := hid (show p ≠ wo.heap.size ∧ q ≠ wo.heap.size by have h1 := EE.out.lt; have h2 := TT.out.lt; omega)
        have HBX := hid (show B ≤ wo.heap.size ∧ q ≤ wo.heap.size ∧ p < q by have := HB.out; have := KK.out.size; have h2 := TT.out.lt; have := HPL.out; have := HQ.out; omega)
        clear hs0 RR2 EG e1 e2 e3 e4 ka
        go_wp2_with (first | (refine wpList_is rfl _ _ (exec_rrz rfl) ?_) | (refine wpList_allocRk rRk rfl rfl ?_) | (refine wpList_newRk rRk rfl wo _ _ rfl rfl rfl rZ rfl ?_) | (go_at_call 53; refine Hid.out ?_) | fail)
        refine hid ?_
        clear cb fb
        generalize wo.alloc (.cells rZ.cells.toArray 50) = v0 at E0 T0 J0 K0 HS0 ⊢
        have A0 := E0.out.num 1
        rw [N1.out] at A0
        refine A0.mono ?_
        rintro e u0 ⟨rfl, ey, kk⟩
        have F0 := hid ((kk.block wo.heap.size HS0.out (by have := HPX.out.1; simp; omega)).trans J0.out)
        have TT0 := hid ey
        have TU0 := hid (T0.out.keep kk QP.out OFP.out)
        have KU0 := hid (K0.out.trans kk)
        have HU0 := hid (Nat.lt_of_lt_of_le HS0.out kk.size)
        obtain ⟨cc, ff⟩ := five_cells F0.out 0
        change u0.cell? ⟨wo.heap.size, 0, none⟩ = some (.int .i64 0) at cc
        clear A0 ey kk
        have J1 := hid (set_five (i := 0) F0.out (.int .i64 x1))
        have sk0 : Keeps [wo.heap.size] u0 (u0.setCell ⟨wo.heap.size, 0, none⟩ (.int .i64 x1)) := set_keep
        have E1 := hid (TT0.out.later sk0 HBX.out.1 HPX.out.1)
        have K1 := hid (KU0.out.trans' sk0 (fun i hi hm => by have := KK.out.size; simp at hm; omega))
        have HS1 := hid (Nat.lt_of_lt_of_le HU0.out sk0.size)
        have T1 := hid (TU0.out.keep sk0 QX.out OFX.out)
        clear sk0
        go_wp2_with fail
        have A1 := E1.out.num 1
        rw [N2.out] at A1
        refine A1.mono ?_
        rintro e u1 ⟨rfl, ey, kk⟩
        have F1 := hid ((kk.block wo.heap.size HS1.out (by have := HPX.out.1; simp; omega)).trans J1.out)
        have TT1 := hid ey
        have TU1 := hid (T1.out.keep kk QP.out OFP.out)
        have KU1 := hid (K1.out.trans kk)
        have HU1 := hid (Nat.lt_of_lt_of_le HS1.out kk.size)
        obtain ⟨cc, ff⟩ := five_cells F1.out 1
        change u1.cell? ⟨wo.heap.size, 1, none⟩ = some (.int .i64 0) at cc
        clear A1 ey kk
        have J2 := hid (set_five (i := 1) F1.out (.int .i64 x2))
        have sk1 : Keeps [wo.heap.size] u1 (u1.setCell ⟨wo.heap.size, 1, none⟩ (.int .i64 x2)) := set_keep
        have E2 := hid (TT1.out.later sk1 HBX.out.1 HPX.out.1)
        have K2 := hid (KU1.out.trans' sk1 (fun i hi hm => by have := KK.out.size; simp at hm; omega))
        have HS2 := hid (Nat.lt_of_lt_of_le HU1.out sk1.size)
        have T2 := hid (TU1.out.keep sk1 QX.out OFX.out)
        clear sk1
        go_wp2_with fail
        have A2 := E2.out.num 2
        rw [N3.out] at A2
        refine A2.mono ?_
        rintro e u2 ⟨rfl, ey, kk⟩
        have F2 := hid ((kk.block wo.heap.size HS2.out (by have := HPX.out.1; simp; omega)).trans J2.out)
        have TT2 := hid ey
        have TU2 := hid (T2.out.keep kk QP.out OFP.out)
        have KU2 := hid (K2.out.trans kk)
        have HU2 := hid (Nat.lt_of_lt_of_le HS2.out kk.size)
        obtain ⟨cc, ff⟩ := five_cells F2.out 2
        change u2.cell? ⟨wo.heap.size, 2, none⟩ = some (.int .i64 0) at cc
        clear A2 ey kk
        have J3 := hid (set_five (i := 2) F2.out (.int .i64 x3))
        have sk2 : Keeps [wo.heap.size] u2 (u2.setCell ⟨wo.heap.size, 2, none⟩ (.int .i64 x3)) := set_keep
        have E3 := hid (TT2.out.later sk2 HBX.out.1 HPX.out.1)
        have K3 := hid (KU2.out.trans' sk2 (fun i hi hm => by have := KK.out.size; simp at hm; omega))
        have HS3 := hid (Nat.lt_of_lt_of_le HU2.out sk2.size)
        have T3 := hid (TU2.out.keep sk2 QX.out OFX.out)
        clear sk2
        go_wp2_with fail
        have A3 := E3.out.bool
        rw [N4.out] at A3
        refine A3.mono ?_
        rintro e u3 ⟨rfl, ey, kk⟩
        have F3 := hid ((kk.block wo.heap.size HS3.out (by have := HPX.out.1; simp; omega)).trans J3.out)
        have TT3 := hid ey
        have TU3 := hid (T3.out.keep kk QP.out OFP.out)
        have KU3 := hid (K3.out.trans kk)
        have HU3 := hid (Nat.lt_of_lt_of_le HS3.out kk.size)
        obtain ⟨cc, ff⟩ := five_cells F3.out 3
        change u3.cell? ⟨wo.heap.size, 3, none⟩ = some (.bool false) at cc
        clear A3 ey kk
        have J4 := hid (set_five (i := 3) F3.out (.bool x4))
        have sk3 : Keeps [wo.heap.size] u3 (u3.setCell ⟨wo.heap.size, 3, none⟩ (.bool x4)) := set_keep
        have E4 := hid (TT3.out.later sk3 HBX.out.1 HPX.out.1)
        have K4 := hid (KU3.out.trans' sk3 (fun i hi hm => by have := KK.out.size; simp at hm; omega))
        have HS4 := hid (Nat.lt_of_lt_of_le HU3.out sk3.size)
        have T4 := hid (TU3.out.keep sk3 QX.out OFX.out)
        clear sk3
        obtain ⟨cb, fb⟩ := E4.out.cells
        by_cases hs2 : s4.2 = 0
        · have hb2 : (s4.2 != 0) = false := by simp [hs2]
          have HSZ := hid hs2
          clear hs2
          go_upto_region 12 with fail
          clear cb fb cc ff hb2
          generalize u3.setCell ⟨wo.heap.size, 3, none⟩ (.bool x4) = w5 at J4 E4 K4 HS4 T4 ⊢
          obtain ⟨xr, hxr⟩ : ∃ z : Rk, z = ⟨x1, x2, x3, x4⟩ := ⟨_, rfl⟩
          have X5 := rk_of (x := ⟨x1, x2, x3, x4⟩) J4.out
          have TB := hid (takeK_bad GR.out (r := xr) (by rw [hxr]; exact NN.out.1) (by rw [hxr]; exact NN.out.2))
          have HXR := hid hxr
          have X5H := hid X5
          have hfw : rs.length ≤ 255 := by have := HLEN.out; omega
          clear hxr X5
          go_cut [7] from 14 to 127 (fun t7 wx => t7 = .bool (bad0 xr) ∧ wx = w5)
          case first =>
            obtain ⟨d0, d1, d2, d3⟩ := rkrange_at X5H.out
            simp only [Nat.zero_add] at d1 d2 d3
            have BE := hid (show bad0 xr = (decide (4 ≤ x1) || (decide (4 ≤ x2) || (decide (x3 < 2) || decide (128 < x3)))) by rw [HXR.out]; rfl)
            by_cases b1 : 4 ≤ x1
            · have f1 : decide (4 ≤ x1) = true := decide_eq_true b1
              go_wp2_with fail
              go_meet
              exact ⟨by rw [BE.out, f1]; rfl, rfl⟩
            · have f1 : decide (4 ≤ x1) = false := decide_eq_false b1
              by_cases b2 : 4 ≤ x2
              · have f2 : decide (4 ≤ x2) = true := decide_eq_true b2
                go_wp2_with fail
                go_meet
                exact ⟨by rw [BE.out, f1, f2]; rfl, rfl⟩
              · have f2 : decide (4 ≤ x2) = false := decide_eq_false b2
                by_cases b3 : x3 < 2
                · have f3 : decide (x3 < 2) = true := decide_eq_true b3
                  go_wp2_with fail
                  go_meet
                  exact ⟨by rw [BE.out, f1, f2, f3]; rfl, rfl⟩
                · have f3 : decide (x3 < 2) = false := decide_eq_false b3
                  go_wp2_with fail
                  go_meet
                  exact ⟨by rw [BE.out, f1, f2, f3]; simp, rfl⟩
          case rest =>
            obtain ⟨rfl, hwc⟩ := hcut
            have X5H := hid (rk_of (x := ⟨x1, x2, x3, x4⟩) J4.out)
            rw [← HXR.out] at X5H
            subst hwc
            clear J4 NN F0 F1 F2 F3 TT0 TT1 TT2 TT3 TU0 TU1 TU2 TU3 KU0 KU1 KU2 KU3 HU0 HU1 HU2 HU3 J0 J1 J2 J3 E0 E1 E2 E3 K0 K1 K2 K3 HS0 HS1 HS2 HS3 T0 T1 T2 T3
            go_wp2_with fail
            go_loopw [7, 8, 9] (fun bv kv _ wr => ∃ k : Nat, kv = .int .i64 (k : Int) ∧ k ≤ rs.length ∧ bv = .bool (bad0 xr || (rs.take k).any (badW xr)) ∧ Hid (Keeps [] wc wr)) (fun _ kv _ _ => rs.length - (intOf kv).toNat)
            case atStart => exact ⟨0, rfl, by omega, by simp, hid (Keeps.refl _ _)⟩
            case round =>
              obtain ⟨k, rfl, hk, rfl, KR⟩ := hrel
              have TW := T4.out.later KR.out
              obtain ⟨ct, ft⟩ := TW.cell
              by_cases hlk : k < rs.length
              · obtain ⟨g, off, e1, _, hcap, hg, hM, hr⟩ := TW.own.at.open (by omega)
                subst e1
                have R0 := range_rk hr k hlk
                obtain ⟨y, hy⟩ : ∃ y, y = rs[k]'hlk := ⟨_, rfl⟩
                rw [← hy] at R0
                have R := hid R0
                have HY := hid hy
                have HLK := hid hlk
                obtain ⟨cb, hcb⟩ : ∃ z, z = (bad0 xr || (rs.take k).any (badW xr)) := ⟨_, rfl⟩
                rw [← hcb]
                have HCB := hid hcb
                have kA : Keeps [] wr (wr.alloc (.cells y.cells.toArray 50)) := (Keeps.refl [] wr).alloc _
                have KA := hid kA
                obtain ⟨c0, c1, c2, c3⟩ := rkrange_at (rkrange_new wr y.cells 50)
                obtain ⟨d0, d1, d2, d3⟩ := rkrange_at (rkrange_keep (rkrange_keep X5H.out KR.out (by simp)) kA (by simp))
                obtain ⟨yc, yh, yn, yb⟩ := y
                simp only [Nat.zero_add] at c0 c1 c2 c3 d1 d2 d3
                clear hr hcap hg hM R0 hy hcb kA TW ft
                go_wp2_with (first | (refine wpList_loadRk rRk rfl _ rfl g (off + k * 4) (by simp [Act.eval]) ⟨yc, yh, yn, yb⟩ R.out ?_) | (refine wpList_allocRk rRk rfl rfl ?_) | (refine wpList_newRk rRk rfl wr _ _ rfl rfl rfl ⟨yc, yh, yn, yb⟩ rfl ?_; refine Hid.out ?_) | fail)
                refine hid ?_
                cases cb with
                | true =>
                  have BW := hid (show (true || badW xr ⟨yc, yh, yn, yb⟩) = true from rfl)
                  go_wp2_with fail
                  go_roundw
                  case rel => exact ⟨k + 1, by go_num, by have := HLK.out; omega, by rw [any_take_succ _ HLK.out, ← HY.out, ← Bool.or_assoc, ← HCB.out, BW.out] <;> rfl, hid (KR.out.trans KA.out)⟩
                  case measure => have := HLK.out; simp [intOf]; omega
                | false =>
                  by_cases hn : yn = xr.n
                  · have f0 : (yn == xr.n) = true := by simp [hn]
                    cases yb with
                    | true =>
                      have BW := hid (badW_c (x := xr) (y := ⟨yc, yh, yn, true⟩) hn rfl)
                      clear hn
                      go_wp2_with fail
                      go_roundw
                      case rel => exact ⟨k + 1, by go_num, by have := HLK.out; omega, by rw [any_take_succ _ HLK.out, ← HY.out, ← Bool.or_assoc, ← HCB.out, BW.out] <;> rfl, hid (KR.out.trans KA.out)⟩
                      case measure => have := HLK.out; simp [intOf]; omega
                    | false =>
                      obtain ⟨xb, hxb⟩ : ∃ z, xr.b = z := ⟨_, rfl⟩
                      rw [hxb] at d3
                      cases xb with
                      | true =>
                        have BW := hid (badW_c (x := xr) (y := ⟨yc, yh, yn, false⟩) hn (by simp [hxb]))
                        clear hn
                        go_wp2_with fail
                        go_roundw
                        case rel => exact ⟨k + 1, by go_num, by have := HLK.out; omega, by rw [any_take_succ _ HLK.out, ← HY.out, ← Bool.or_assoc, ← HCB.out, BW.out] <;> rfl, hid (KR.out.trans KA.out)⟩
                        case measure => have := HLK.out; simp [intOf]; omega
                      | false =>
                        by_cases hgt : xr.c < yc
                        · have f1 : decide (xr.c < yc) = true := decide_eq_true hgt
                          have BW := hid (badW_gt (x := xr) (y := ⟨yc, yh, yn, false⟩) hgt)
                          clear hgt hn
                          go_wp2_with fail
                          go_roundw
                          case rel => exact ⟨k + 1, by go_num, by have := HLK.out; omega, by rw [any_take_succ _ HLK.out, ← HY.out, ← Bool.or_assoc, ← HCB.out, BW.out] <;> rfl, hid (KR.out.trans KA.out)⟩
                          case measure => have := HLK.out; simp [intOf]; omega
                        · have f1 : decide (xr.c < yc) = false := decide_eq_false hgt
                          by_cases heq : yc = xr.c
                          · have f2 : (yc == xr.c) = true := by simp [heq]
                            by_cases hge : xr.h ≤ yh
                            · have f3 : decide (xr.h ≤ yh) = true := decide_eq_true hge
                              have BW := hid (badW_eq (x := xr) (y := ⟨yc, yh, yn, false⟩) heq hge)
                              clear hgt heq hge hn
                              go_wp2_with fail
                              go_roundw
                              case rel => exact ⟨k + 1, by go_num, by have := HLK.out; omega, by rw [any_take_succ _ HLK.out, ← HY.out, ← Bool.or_assoc, ← HCB.out, BW.out] <;> rfl, hid (KR.out.trans KA.out)⟩
                              case measure => have := HLK.out; simp [intOf]; omega
                            · have f3 : decide (xr.h ≤ yh) = false := decide_eq_false hge
                              have BW := hid (badW_no (x := xr) (y := ⟨yc, yh, yn, false⟩) (clash_ff rfl hxb) (Or.inr ⟨heq, by simp only; omega⟩))
                              clear hgt heq hge hn
                              go_wp2_with fail
                              go_roundw
                              case rel => exact ⟨k + 1, by go_num, by have := HLK.out; omega, by rw [any_take_succ _ HLK.out, ← HY.out, ← Bool.or_assoc, ← HCB.out, BW.out] <;> rfl, hid (KR.out.trans KA.out)⟩
                              case measure => have := HLK.out; simp [intOf]; omega
                          · have f2 : (yc == xr.c) = false := by simpa using heq
                            have BW := hid (badW_no (x := xr) (y := ⟨yc, yh, yn, false⟩) (clash_ff rfl hxb) (Or.inl (by simp only; omega)))
                            clear hgt heq hn
                            go_wp2_with fail
                            go_roundw
                            case rel => exact ⟨k + 1, by go_num, by have := HLK.out; omega, by rw [any_take_succ _ HLK.out, ← HY.out, ← Bool.or_assoc, ← HCB.out, BW.out] <;> rfl, hid (KR.out.trans KA.out)⟩
                            case measure => have := HLK.out; simp [intOf]; omega
                  · have f0 : (yn == xr.n) = false := by simpa using hn
                    by_cases hgt : xr.c < yc
                    · have f1 : decide (xr.c < yc) = true := decide_eq_true hgt
                      have BW := hid (badW_gt (x := xr) (y := ⟨yc, yh, yn, yb⟩) hgt)
                      clear hgt hn
                      go_wp2_with fail
                      go_roundw
                      case rel => exact ⟨k + 1, by go_num, by have := HLK.out; omega, by rw [any_take_succ _ HLK.out, ← HY.out, ← Bool.or_assoc, ← HCB.out, BW.out] <;> rfl, hid (KR.out.trans KA.out)⟩
                      case measure => have := HLK.out; simp [intOf]; omega
                    · have f1 : decide (xr.c < yc) = false := decide_eq_false hgt
                      by_cases heq : yc = xr.c
                      · have f2 : (yc == xr.c) = true := by simp [heq]
                        by_cases hge : xr.h ≤ yh
                        · have f3 : decide (xr.h ≤ yh) = true := decide_eq_true hge
                          have BW := hid (badW_eq (x := xr) (y := ⟨yc, yh, yn, yb⟩) heq hge)
                          clear hgt heq hge hn
                          go_wp2_with fail
                          go_roundw
                          case rel => exact ⟨k + 1, by go_num, by have := HLK.out; omega, by rw [any_take_succ _ HLK.out, ← HY.out, ← Bool.or_assoc, ← HCB.out, BW.out] <;> rfl, hid (KR.out.trans KA.out)⟩
                          case measure => have := HLK.out; simp [intOf]; omega
                        · have f3 : decide (xr.h ≤ yh) = false := decide_eq_false hge
                          have BW := hid (badW_no (x := xr) (y := ⟨yc, yh, yn, yb⟩) (clash_ne hn) (Or.inr ⟨heq, by simp only; omega⟩))
                          clear hgt heq hge hn
                          go_wp2_with fail
                          go_roundw
                          case rel => exact ⟨k + 1, by go_num, by have := HLK.out; omega, by rw [any_take_succ _ HLK.out, ← HY.out, ← Bool.or_assoc, ← HCB.out, BW.out] <;> rfl, hid (KR.out.trans KA.out)⟩
                          case measure => have := HLK.out; simp [intOf]; omega
                      · have f2 : (yc == xr.c) = false := by simpa using heq
                        have BW := hid (badW_no (x := xr) (y := ⟨yc, yh, yn, yb⟩) (clash_ne hn) (Or.inl (by simp only; omega)))
                        clear hgt heq hn
                        go_wp2_with fail
                        go_roundw
                        case rel => exact ⟨k + 1, by go_num, by have := HLK.out; omega, by rw [any_take_succ _ HLK.out, ← HY.out, ← Bool.or_assoc, ← HCB.out, BW.out] <;> rfl, hid (KR.out.trans KA.out)⟩
                        case measure => have := HLK.out; simp [intOf]; omega
              · obtain rfl : k = rs.length := by omega
                rw [List.take_length, TB.out]
                obtain ⟨tk, htk⟩ : ∃ z, z = takeK rs xr := ⟨_, rfl⟩
                have HTK := hid htk
                rw [← htk]
                clear htk
                go_wp2_with fail
                refine (rkForm_any (E4.out.more KR.out) (!tk)).mono ?_
                rintro e w7 ⟨rfl, e7, k7⟩
                have E7 := hid e7
                have T7 := hid (TW.keep k7 QP.out OFP.out)
                have K7 := hid ((KR.out.mono (S' := [p]) (by simp)).trans k7)
                have X7 := hid (rkrange_keep (rkrange_keep X5H.out KR.out (by simp)) k7 (by simpa using fun e => HPX.out.1 e.symm))
                clear e7 k7 TW ct ft
                go_wp2_with fail
                have NQ := hid (show q ∉ (Value.slice av rs.length cv).ownBlock.toList from fun hm => T7.out.ne (by simpa using hm))
                have NX := hid (show wo.heap.size ∉ (Value.slice av rs.length cv).ownBlock.toList from fun hm => by have := (OB.out _ (by simpa using hm)).2; omega)
                have Q7 := hid T7.out.lt
                have X7L := hid (show wo.heap.size < w7.heap.size by have := HS4.out; have := K7.out.size; omega)
                refine wp_region_any (by kernel_rfl) (wpAny_of_late (late := [10]) (S := KpS (Value.slice av rs.length cv).ownBlock.toList w7.heap.size w7.drew) _ _ _ _ ?_)
                change wpAnyT _ _ _ _ _ _ _ _ _ w7.drew
                have cP : ∀ W1, KpS (Value.slice av rs.length cv).ownBlock.toList w7.heap.size w7.drew W1 → W1.cell? ⟨q, 0, none⟩ = some (.slice av rs.length cv) := fun W1 h => h.cell (by rw [World.cell?_drew]; exact T7.out.cell.1) Q7.out NQ.out
                have cM : ∀ W1, KpS (Value.slice av rs.length cv).ownBlock.toList w7.heap.size w7.drew W1 → W1.rangeAt wo.heap.size 0 xr.cells := fun W1 h t u hu => h.cell (by rw [World.cell?_drew]; exact X7.out t u hu) X7L.out NX.out
                refine late_take (i := 0) (v := .pointer (some ⟨q, 0, none⟩)) rfl (by kernel_rfl) (by kernel_rfl) (by kernel_rfl) (by kernel_rfl) (by kernel_rfl) (fun _ _ _ h => h) rfl (fun W1 hW1 => rfl) (KpS.refl _ _ _) ?_
                simp only [Act.put, List.setIfInBounds_toArray, List.set_cons_zero, List.set_cons_succ]
                refine late_take (i := 1) (v := .pointer (some ⟨q, 0, none⟩)) rfl (by kernel_rfl) (by kernel_rfl) (by kernel_rfl) (by kernel_rfl) (by kernel_rfl) (fun _ _ _ h => h) rfl (fun W1 hW1 => rfl) (KpS.refl _ _ _) ?_
                simp only [Act.put, List.setIfInBounds_toArray, List.set_cons_zero, List.set_cons_succ]
                refine late_take (i := 2) (v := .pointer (some ⟨q, 0, none⟩)) rfl (by kernel_rfl) (by kernel_rfl) (by kernel_rfl) (by kernel_rfl) (by kernel_rfl) (fun _ _ _ h => h) rfl (fun W1 hW1 => by go_simp) (KpS.refl _ _ _) ?_
                simp only [Act.put, List.setIfInBounds_toArray, List.set_cons_zero, List.set_cons_succ]
                refine late_take (i := 3) (v := .pointer (some ⟨q, 0, none⟩)) rfl (by kernel_rfl) (by kernel_rfl) (by kernel_rfl) (by kernel_rfl) (by kernel_rfl) (fun _ _ _ h => h) rfl (fun W1 hW1 => by go_simp) (KpS.refl _ _ _) ?_
                simp only [Act.put, List.setIfInBounds_toArray, List.set_cons_zero, List.set_cons_succ]
                refine late_take (i := 4) (v := .slice av rs.length cv) rfl (by kernel_rfl) (by kernel_rfl) (by kernel_rfl) (by kernel_rfl) (by kernel_rfl) (fun _ _ _ h => h) rfl (fun W1 hW1 => exec_load _ _ _ _ rfl rfl (run_loadCell W1 _ _ _ (cP W1 hW1) (agg_no _ (by kernel_rfl)))) (KpS.refl _ _ _) ?_
                simp only [Act.put, List.setIfInBounds_toArray, List.set_cons_zero, List.set_cons_succ]
                refine late_take (i := 5) (v := rkV xr) rfl (by kernel_rfl) (by kernel_rfl) (by kernel_rfl) (by kernel_rfl) (by kernel_rfl) (fun _ _ _ h => h) rfl (fun W1 hW1 => exec_load _ _ _ _ rfl rfl (loadRk_run rRk W1 wo.heap.size 0 _ (cM W1 hW1))) (KpS.refl _ _ _) ?_
                simp only [Act.put, List.setIfInBounds_toArray, List.set_cons_zero, List.set_cons_succ]
                refine late_do (i := 6) (by kernel_rfl) rfl rfl (wp_value (exec_oneRk rRk _ xr rfl rfl) ?_)
                have kB : Keeps [] w7 (w7.drew.alloc (.cells xr.cells.toArray 50)) := (Keeps.refl [] w7).drew.alloc _
                have sB : KpS (Value.slice av rs.length cv).ownBlock.toList w7.heap.size w7.drew (w7.drew.alloc (.cells xr.cells.toArray 50)) := (KpS.refl _ _ _).alloc (by simp) _
                have oB := rkrange_new w7.drew xr.cells 50
                have eS : w7.drew.heap.size = w7.heap.size := rfl
                rw [eS] at oB
                refine ⟨Or.inr sB, ?_⟩
                simp only [Act.put, List.setIfInBounds_toArray, List.set_cons_zero, List.set_cons_succ]
                rw [eS]
                generalize w7.drew.alloc (.cells xr.cells.toArray 50) = wB at kB sB oB ⊢
                obtain ⟨a3, c3, w8, hr2, o2, k2, n2⟩ := append_rk rRk (T7.out.own.later kB) w7.heap.size xr oB (by have := HLEN.out; omega) (by have := T7.out.lt; have := kB.size; omega) 33
                have hne : (Value.slice a3 (rs.length + 1) c3).ownBlock ≠ some q := by
                  intro e
                  rcases n2 with h | h
                  · exact T7.out.ne (h.symm.trans e)
                  · have := h q e
                    have := kB.size
                    have := Q7.out
                    omega
                refine late_do (i := 7) (by kernel_rfl) rfl rfl (wp_value (exec_appendT 33 _ _ rfl rfl rfl hr2) ?_)
                have sE : KpS (Value.slice av rs.length cv).ownBlock.toList w7.heap.size w7.drew w8 := sB.keeps k2 kB.size (fun j hj _ => hj)
                refine ⟨Or.inr sE, ?_⟩
                simp only [Act.put, List.setIfInBounds_toArray, List.set_cons_zero, List.set_cons_succ]
                refine late_take (i := 8) (v := .pointer (some ⟨q, 0, none⟩)) rfl (by kernel_rfl) (by kernel_rfl) (by kernel_rfl) (by kernel_rfl) (by kernel_rfl) (fun _ _ _ h => h) rfl (fun W1 hW1 => by go_simp) (sE) ?_
                simp only [Act.put, List.setIfInBounds_toArray, List.set_cons_zero, List.set_cons_succ]
                refine late_take (i := 9) (v := .pointer (some ⟨q, 0, none⟩)) rfl (by kernel_rfl) (by kernel_rfl) (by kernel_rfl) (by kernel_rfl) (by kernel_rfl) (fun _ _ _ h => h) rfl (fun W1 hW1 => by go_simp) (sE) ?_
                simp only [Act.put, List.setIfInBounds_toArray, List.set_cons_zero, List.set_cons_succ]
                have k78 : Keeps (Value.slice av rs.length cv).ownBlock.toList w7 w8 := (kB.mono (by simp)).trans k2
                have cd := cP _ sE
                have fd : w8.frozen? ⟨q, 0, none⟩ = false := by
                  have := (k78.block q Q7.out NQ.out).trans T7.out.blk
                  simp [World.frozen?, this]
                refine late_do (i := 10) (by kernel_rfl) rfl rfl (wp_stored (w' := w8.setCell ⟨q, 0, none⟩ (.slice a3 (rs.length + 1) c3)) (by go_simp) ⟨Or.inl rfl, ?_⟩)
                simp only [Act.put]
                refine wpAnyT_done (by kernel_rfl) ?_ _
                have T9 := hid (T7.out.set k78 NQ.out o2 hne)
                have BQ := hid (show ∀ b ∈ (Value.slice av rs.length cv).ownBlock.toList, B ≤ b ∧ b ≠ p ∧ w.heap.size ≤ b from fun b hb => by have := (OB.out b (by simpa using hb)).1; have := HB.out; have := HQ.out; have := HPL.out; omega)
                have E8 : REyL w8 B p (formK s4 (!tk)) := by
                  obtain ⟨v2, he⟩ := E7.out
                  exact ⟨v2, he.keep k78 (fun hm => (BQ.out p hm).2.1 rfl) (fun b hb => (BQ.out b hb).1)⟩
                have E9 := hid (E8.later (set_keep (b := q) (i := 0) (u := .slice a3 (rs.length + 1) c3)) (by have := HB.out; have := HQ.out; omega) HPQ.out)
                have K9 : Hid (Keeps [p] w (w8.setCell ⟨q, 0, none⟩ (.slice a3 (rs.length + 1) c3))) := hid (((K4.out.trans K7.out).trans' k78 (fun i hi hm => by have := (BQ.out i hm).2.2; omega)).trans' (set_keep (b := q) (i := 0) (u := .slice a3 (rs.length + 1) c3)) (fun i hi hm => by have := HQ.out; simp at hm; omega))
                clear cP cM kB sB oB eS hr2 o2 k2 n2 hne sE k78 cd fd E8
                go_wp2_with fail
                go_roundw
                case rel =>
                  refine ⟨i + 1, rs ++ [xr], formK s4 (!tk), by go_num, by omega, by have := HLEN.out; simp; omega, hid ?_, hid ⟨_, _, by rw [List.length_append]; exact T9.out⟩, hid ?_, E9, K9⟩
                  · have := RX.out
                    rw [if_neg (by simpa using HSZ.out), ← HXR.out] at this
                    cases tk with
                    | true =>
                      rw [if_pos HTK.out.symm] at this
                      rw [this]
                      simp [formK]
                    | false =>
                      rw [if_neg (by rw [← HTK.out]; simp)] at this
                      rw [this]
                      unfold formK
                      rw [if_pos ⟨rfl, HSZ.out⟩, rdT_bad _ _ (by simp)]
                  · intro hh
                    cases tk with
                    | true => exact (GR.out.snoc HTK.out.symm).1
                    | false =>
                      unfold formK at hh
                      rw [if_pos ⟨rfl, HSZ.out⟩] at hh
                      simp at hh
                case measure => simp [intOf]; omega
        · have hb2 : (s4.2 != 0) = true := by simp [hs2]
          have RY : Hid (R = (rs, s4)) := hid (by
            have := RX.out
            rw [if_pos hs2] at this
            exact this)
          clear hs2
          go_wp2_with fail
          go_ret
          rw [RY.out]
          exact ⟨K4.out, q, by have := HQ.out; omega, rfl, by rw [← HQ.out]; exact ⟨_, _, T4.out⟩, E4.out⟩
      · have hsb : (s.2 == 0) = false := by simp [hs0]
        have RY : Hid (R = (rs, s)) := hid (by
          have := RR.out
          rw [show n - i = (n - (i + 1)) + 1 by omega] at this
          unfold rdT at this
          rw [if_pos hs0] at this
          exact this)
        go_wp2_with fail
        go_ret
        rw [RY.out]
        exact ⟨KK.out, q, by have := HQ.out; omega, rfl, by rw [← HQ.out]; exact TT.out, EE.out⟩
    · obtain rfl : i = n := by omega
      have RY : Hid (R = (rs, s)) := hid (by
        have := RR.out
        rw [Nat.sub_self] at this
        exact this)
      clear cb fb
      go_wp2_with fail
      go_ret
      rw [RY.out]
      exact ⟨KK.out, q, by have := HQ.out; omega, rfl, by rw [← HQ.out]; exact TT.out, EE.out⟩
end Go.Proofs.Yteeagemlaolhjaa
