/- TkX, TkXr, TkW, TkV, TkO. -/
import Derived.Test.YtjohikekhgcepaaTkU
import Derived.Test.YtjohikekhgcepaaPenC
import Derived.Test.YtjohikekhgcepaaRefB
import Derived.Test.YtjohikekhgcepaaRefC
import Derived.Test.YtjohikekhgcepaaAwake
import Derived.Test.YtjohikekhgcepaaTkM
import Derived.Test.YtjohikekhgcepaaTkE
import Derived.Test.YtjohikekhgcepaaOpenC
import Derived.Deep.Strs
import Derived.ChangeSame
/- tokens: what is written of them, by the code and by the reference. -/
namespace Go.Proofs.Ytjohikekhgcepaa
open Go.RowKit Go.Shelf
set_option maxRecDepth 100000
set_option linter.unusedSimpArgs false
set_option linter.unusedVariables false

theorem pen_stepK {w1 wr w2 : World} {B p : Nat} {T : TypeId} {v v1 : Value} {s : PSt} {e : Ending} (h1 : Keeps (p :: v.ownBlock.toList) w1 wr) (n1 : NewRow w1 v v1) (h2 : PenPost wr B T 5 p v1 s e w2) :
    e = .returned (.tuple #[]) ∧ ∃ v', PenAt w2 B T 5 p v' s.1 s.2 ∧ Keeps (p :: v.ownBlock.toList) w1 w2 ∧ NewRow w1 v v' := PenPost.then h1 n1 h2
theorem pen_ltK {w : World} {B p : Nat} {T : TypeId} {v : Value} {zs : List Int} {bad : Int} (h : PenAt w B T 5 p v zs bad) : ∀ b ∈ p :: v.ownBlock.toList, b < w.heap.size := fun b hb => by
  rcases List.mem_cons.1 hb with rfl | hb
  · exact h.lt
  · exact (h.own.lt b (by simpa using hb)).2
def wrRow (x : Rk) (s : PSt) : PSt := penBool x.b (penNum x.n 2 (penNum x.h 1 (penNum x.c 1 s)))
def rwrRow (x : Rk) (s : PSt) : PSt := refBool x.b (refNum x.n 2 (refNum x.h 1 (refNum x.c 1 s)))
def wrTk (rs : List Rk) (k : Nat) (t : PSt) : PSt := (rs.take k).foldl (fun t x => wrRow x t) (penNum (rs.length : Int) 1 t)
def rwrTk (rs : List Rk) (k : Nat) (t : PSt) : PSt := (rs.take k).foldl (fun t x => rwrRow x t) (refNum (rs.length : Int) 1 t)
theorem wrTk_snoc {rs : List Rk} {k : Nat} (h : k < rs.length) (t : PSt) : wrTk rs (k + 1) t = wrRow rs[k] (wrTk rs k t) := by
  unfold wrTk
  rw [List.take_succ_eq_append_getElem h, List.foldl_append]
  rfl
theorem rwrTk_snoc {rs : List Rk} {k : Nat} (h : k < rs.length) (t : PSt) : rwrTk rs (k + 1) t = rwrRow rs[k] (rwrTk rs k t) := by
  unfold rwrTk
  rw [List.take_succ_eq_append_getElem h, List.foldl_append]
  rfl
set_option maxHeartbeats 12800000 in
theorem write15_any {w : World} {M : List Nat} {q : Nat} {rs : List Rk} (h : TokAt w M q rs) (B p : Nat) (v : Value) (t : PSt) (P : PenAt w B 149 5 p v t.1 t.2) (hB : B ≤ w.heap.size) (hS : ∀ b ∈ p :: v.ownBlock.toList, b ∈ M) (hq : q ∉ p :: v.ownBlock.toList) :
    Calls Try.prog 82 #[.pointer (some ⟨q, 0, none⟩), .pointer (some ⟨p, 0, none⟩)] w (PenPost w B 149 5 p v (wrTk rs rs.length t)) := by
  have H := hid h
  have HS := hid hS
  have HB := hid hB
  have HF := hid h.few
  have HQ := hid hq
  obtain ⟨a, c, c0, c1, hv⟩ := h.cells
  have HV := hid hv
  have C1 := hid c1
  obtain ⟨s1, e1⟩ : ∃ z, z = penNum (rs.length : Int) 1 t := ⟨_, rfl⟩
  have HN : Calls Try.prog 131 #[.pointer (some ⟨p, 0, none⟩), .int .i64 (rs.length : Int), .int .i64 1] w (PenPost w B 149 5 p v s1) := by
    have := num_any w B p v t.1 t.2 (rs.length : Int) 1 P hB
    rw [show penNum (rs.length : Int) 1 (t.1, t.2) = s1 from e1.symm] at this
    exact this
  have E1 := hid e1
  clear hS hB hv h hq P e1 c0
  go_enter Try.func82, Try.ntmps82
  go_wp2_with fail
  refine (tkMade_any H.out).mono ?_
  rintro e _ ⟨rfl, rfl⟩
  go_wp2_with fail
  refine HN.mono ?_
  intro e w2 hq2
  obtain ⟨rfl, v2, p2, k2, n2⟩ := pen_stepK (Keeps.refl _ _) (Or.inl rfl) hq2
  have P2 := hid p2
  have K2 := hid k2
  have N2 := hid n2
  have d2 := k2.cell' C1.out HQ.out
  clear hq2 p2 k2 n2 c1 HN
  go_wp2_with fail
  clear d2
  go_loopw [5, 21] (fun _ iv wr => ∃ (k : Nat) (v3 : Value), k ≤ rs.length ∧ iv = .int .i64 (k : Int) ∧ Hid (PenAt wr B 149 5 p v3 (wrTk rs k t).1 (wrTk rs k t).2) ∧ Hid (Keeps (p :: v.ownBlock.toList) w wr) ∧ Hid (NewRow w v v3)) (fun _ iv _ => rs.length - (intOf iv).toNat)
  case atStart => exact ⟨0, v2, by omega, rfl, hid (by have := P2.out; rw [E1.out] at this; exact this), K2, N2⟩
  case round =>
    obtain ⟨k, v3, hk, rfl, PL, KL, NL⟩ := hrel
    by_cases hlt : k < rs.length
    · have hk64 : k < 1000 := by have := HF.out; omega
      obtain ⟨g, off, rfl, _, hcap, hg, hgM, hr⟩ := (HV.out.keep KL.out HS.out).open (by omega)
      have R0 := range_rk hr k hlt
      obtain ⟨x, hx⟩ : ∃ x, x = rs[k]'hlt := ⟨_, rfl⟩
      rw [← hx] at R0
      have R := hid R0
      have HX := hid hx
      have ka : Keeps [] wr (wr.alloc (.cells x.cells.toArray 59)) := (Keeps.refl [] wr).alloc _
      have RA := hid (rkrange_new wr x.cells 59)
      have KA := hid (KL.out.trans (ka.mono (by simp)))
      have PA := hid (PL.out.keep ka (by simp) (by simp))
      have HBA := hid (show B ≤ (wr.alloc (.cells x.cells.toArray 59)).heap.size by have := HB.out; have := KA.out.size; omega)
      have NB := hid (show wr.heap.size ∉ p :: v3.ownBlock.toList from fun hm => Nat.lt_irrefl _ (pen_ltK PL.out _ hm))
      have HLT := hid hlt
      obtain ⟨s0, f0⟩ : ∃ z, z = wrTk rs k t := ⟨_, rfl⟩
      obtain ⟨s1, f1⟩ : ∃ z, z = penNum x.c 1 s0 := ⟨_, rfl⟩
      obtain ⟨s2, f2⟩ : ∃ z, z = penNum x.h 1 s1 := ⟨_, rfl⟩
      obtain ⟨s3, f3⟩ : ∃ z, z = penNum x.n 2 s2 := ⟨_, rfl⟩
      obtain ⟨s4, f4⟩ : ∃ z, z = penBool x.b s3 := ⟨_, rfl⟩
      rw [← f0] at PA
      have E1 := hid f1.symm
      have E2 := hid f2.symm
      have E3 := hid f3.symm
      have E4 := hid f4.symm
      have F0 := hid f0
      clear hr hcap hg hgM R0 hx ka f0 f1 f2 f3 f4
      go_wp2_with (first | (refine wpList_loadRk cRk rfl _ rfl g (off + k * 4) (by simp [Act.eval]) x R.out ?_) | (refine wpList_allocRk cRk rfl rfl ?_) | (refine wpList_newRk cRk rfl wr _ _ rfl rfl rfl x rfl ?_; refine Hid.out ?_) | fail)
      refine hid ?_
      have NA := hid (show wr.heap.size ∉ p :: v3.ownBlock.toList from NB.out)
      generalize wr.alloc (.cells x.cells.toArray 59) = z0 at RA KA PA HBA ⊢
      obtain ⟨dd, _, _, _⟩ := rkrange_at RA.out
      go_wp2_with fail
      clear dd
      have HN : Calls Try.prog 131 #[.pointer (some ⟨p, 0, none⟩), .int .i64 x.c, .int .i64 1] z0 (PenPost z0 B 149 5 p v3 s1) := by
        have := num_any z0 B p v3 s0.1 s0.2 x.c 1 PA.out HBA.out
        rw [show penNum x.c 1 (s0.1, s0.2) = s1 from E1.out] at this
        exact this
      refine HN.mono ?_
      intro e z1 hq
      obtain ⟨rfl, y1, p1, k1, n1⟩ := pen_stepK (Keeps.refl _ _) (Or.inl rfl) hq
      have P1 := hid p1
      have K1 := hid k1
      have N1 := hid n1
      obtain ⟨_, dd, _, _⟩ := rkrange_at (rkrange_keep RA.out k1 NA.out)
      simp only [Nat.zero_add] at dd
      clear hq p1 k1 n1 HN
      go_wp2_with fail
      clear dd
      have HN : Calls Try.prog 131 #[.pointer (some ⟨p, 0, none⟩), .int .i64 x.h, .int .i64 1] z1 (PenPost z1 B 149 5 p y1 s2) := by
        have := num_any z1 B p y1 s1.1 s1.2 x.h 1 P1.out (Nat.le_trans HBA.out K1.out.size)
        rw [show penNum x.h 1 (s1.1, s1.2) = s2 from E2.out] at this
        exact this
      refine HN.mono ?_
      intro e z2 hq
      obtain ⟨rfl, y2, p2, k2, n2⟩ := pen_stepK K1.out N1.out hq
      have P2 := hid p2
      have K2 := hid k2
      have N2 := hid n2
      obtain ⟨_, _, dd, _⟩ := rkrange_at (rkrange_keep RA.out k2 NA.out)
      simp only [Nat.zero_add] at dd
      clear hq p2 k2 n2 HN
      go_wp2_with fail
      clear dd
      have HN : Calls Try.prog 131 #[.pointer (some ⟨p, 0, none⟩), .int .i64 x.n, .int .i64 2] z2 (PenPost z2 B 149 5 p y2 s3) := by
        have := num_any z2 B p y2 s2.1 s2.2 x.n 2 P2.out (Nat.le_trans HBA.out K2.out.size)
        rw [show penNum x.n 2 (s2.1, s2.2) = s3 from E3.out] at this
        exact this
      refine HN.mono ?_
      intro e z3 hq
      obtain ⟨rfl, y3, p3, k3, n3⟩ := pen_stepK K2.out N2.out hq
      have P3 := hid p3
      have K3 := hid k3
      have N3 := hid n3
      obtain ⟨_, _, _, dd⟩ := rkrange_at (rkrange_keep RA.out k3 NA.out)
      simp only [Nat.zero_add] at dd
      clear hq p3 k3 n3 HN
      go_wp2_with fail
      clear dd
      have HN : Calls Try.prog 138 #[.pointer (some ⟨p, 0, none⟩), .bool x.b] z3 (PenPost z3 B 149 5 p y3 s4) := by
        have := bool_any z3 B p y3 s3.1 s3.2 x.b P3.out (Nat.le_trans HBA.out K3.out.size)
        rw [show penBool x.b (s3.1, s3.2) = s4 from E4.out] at this
        exact this
      refine HN.mono ?_
      intro e z4 hq
      obtain ⟨rfl, y4, p4, k4, n4⟩ := pen_stepK K3.out N3.out hq
      have P4 := hid p4
      have K4 := hid k4
      have N4 := hid n4
      clear hq p4 k4 n4 HN
      go_wp2_with fail
      have K9 := hid (show Keeps (p :: v.ownBlock.toList) w z4 from KA.out.trans' K4.out (fun i hi hm => by
        rcases List.mem_cons.1 hm with rfl | hm
        · simp
        · rcases NL.out with e | e
          · rw [← e]; exact List.mem_cons_of_mem _ hm
          · have := e i (by simpa using hm); omega))
      have N9 := hid (show NewRow w v y4 by
        rcases N4.out with e | e
        · rcases NL.out with e2 | e2
          · exact Or.inl (e.trans e2)
          · exact Or.inr (fun j hj => e2 j (by rw [← e]; exact hj))
        · exact Or.inr (fun j hj => Nat.le_trans KA.out.size (e j hj)))
      go_roundw
      case rel => exact ⟨k + 1, y4, by have := HLT.out; omega, by go_num, hid (by rw [wrTk_snoc HLT.out, ← HX.out, ← F0.out]; unfold wrRow; rw [E1.out, E2.out, E3.out, E4.out]; exact P4.out), K9, N9⟩
      case measure => have := HLT.out; simp [intOf]; omega
    · obtain rfl : k = rs.length := by omega
      go_wp2_with fail
      go_end0
      exact ⟨rfl, v3, PL.out, KL.out, NL.out⟩
end Go.Proofs.Ytjohikekhgcepaa


/- tokens: what the reference writes of them; the laws' bytes. -/
namespace Go.Proofs.Ytjohikekhgcepaa
open Go.RowKit Go.Shelf
set_option maxRecDepth 100000
set_option linter.unusedSimpArgs false
set_option linter.unusedVariables false

def bytesTk (rs : List Rk) : List Int := if (wrTk rs rs.length ([], 0)).2 = 0 then (wrTk rs rs.length ([], 0)).1 else []
theorem lBytes15_any {w : World} {M : List Nat} {q : Nat} {rs : List Rk} (h : TokAt w M q rs) : Calls Try.prog 33 #[.pointer (some ⟨q, 0, none⟩)] w fun e w' => ∃ a c, e = .returned (.slice a (bytesTk rs).length c) ∧ RowAt w' (.slice a (bytesTk rs).length c) (bytesTk rs) ∧ (∀ ad, a = some ad → w.heap.size ≤ ad.block) ∧ Keeps [] w w' := by
  have H := hid h
  have HL := hid h.lt
  obtain ⟨bs, hbs⟩ : ∃ l, l = bytesTk rs := ⟨_, rfl⟩
  have HBS := hid hbs
  rw [← hbs]
  clear h hbs
  go_enter Try.func33, Try.ntmps33
  go_wp2_with fail
  have P1 := hid (PenSince.new w (Keeps.refl [] w) 149)
  have H1 := (H.out.more (N := w.heap.size :: M) (fun b hb => by
    rcases List.mem_cons.1 hb with rfl | hb
    · exact Or.inr (Nat.le_refl _)
    · exact Or.inl hb) (List.mem_cons_of_mem _ H.out.mem)).later P1.out.kept
  refine (write15_any H1 w.heap.size w.heap.size (.slice none 0 0) ([], 0) P1.out.pen P1.out.kept.size (by simp [Value.ownBlock]) (by have := HL.out; simp [Value.ownBlock]; omega)).mono ?_
  intro e w2 hq
  obtain ⟨rfl, v2, q2⟩ := P1.out.step hq
  have P2 := hid q2
  clear q2 hq H1
  go_wp2_with fail
  refine (bytes_any w2 w.heap.size w.heap.size v2 (wrTk rs rs.length ([], 0)).1 (wrTk rs rs.length ([], 0)).2 P2.out.pen).mono ?_
  intro e w3 hq
  obtain ⟨a, c, q0, q1, q2, q3⟩ := hq
  simp only at q0 q1
  rw [show (if (wrTk rs rs.length ([], 0)).2 = 0 then (wrTk rs rs.length ([], 0)).1 else []) = bytesTk rs from rfl] at q0 q1
  rw [← HBS.out] at q0 q1
  subst q0
  have R := hid q1
  have K := hid (P2.out.kept.trans q3)
  have N := hid (fun ad (h : a = some ad) => Nat.le_trans P2.out.kept.size (q2 ad h))
  clear q1 q2 q3
  go_wp2_with fail
  go_ret
  exact ⟨a, c, rfl, R.out, N.out, K.out⟩
set_option maxHeartbeats 12800000 in
theorem rwrite15_any {w : World} {B0 q : Nat} {rs : List Rk} (h : RTok w B0 q rs) (hf : rs.length ≤ 1000) (B p : Nat) (v : Value) (t : PSt) (P : PenAt w B 56 5 p v t.1 t.2) (hB : B ≤ w.heap.size) (hlo : ∀ b ∈ p :: v.ownBlock.toList, b ≠ q ∧ ∀ a c, RTokV w B0 q (.slice a rs.length c) rs → (Value.slice a rs.length c).ownBlock ≠ some b) :
    Calls Try.prog 25 #[.pointer (some ⟨q, 0, none⟩), .pointer (some ⟨p, 0, none⟩)] w (PenPost w B 56 5 p v (rwrTk rs rs.length t)) := by
  obtain ⟨a, c, T⟩ := h
  have HT := hid T
  have HB := hid hB
  have HQ := hid (show q ∉ p :: v.ownBlock.toList from fun hm => (hlo q hm).1 rfl)
  have HOW := hid (show ∀ b, (Value.slice a rs.length c).ownBlock = some b → b ∉ p :: v.ownBlock.toList from fun b hb hm => (hlo b hm).2 a c T hb)
  obtain ⟨cq, fq⟩ := T.cell
  obtain ⟨s1, e1⟩ : ∃ z, z = refNum (rs.length : Int) 1 t := ⟨_, rfl⟩
  have HN : Calls Try.prog 77 #[.pointer (some ⟨p, 0, none⟩), .int .i64 (rs.length : Int), .int .i64 1] w (PenPost w B 56 5 p v s1) := by
    have := rnum_any w B p v t.1 t.2 (rs.length : Int) 1 P hB
    rw [show refNum (rs.length : Int) 1 (t.1, t.2) = s1 from e1.symm] at this
    exact this
  have E1 := hid e1
  clear hB P e1 T fq hlo
  go_enter Try.func25, Try.ntmps25
  go_wp2_with fail
  refine HN.mono ?_
  intro e w2 hq2
  obtain ⟨rfl, v2, p2, k2, n2⟩ := pen_stepK (Keeps.refl _ _) (Or.inl rfl) hq2
  have P2 := hid p2
  have K2 := hid k2
  have N2 := hid n2
  clear hq2 p2 k2 n2 HN cq
  go_wp2_with fail
  go_loopw [4] (fun iv wr => ∃ (k : Nat) (v3 : Value), k ≤ rs.length ∧ iv = .int .i64 (k : Int) ∧ Hid (PenAt wr B 56 5 p v3 (rwrTk rs k t).1 (rwrTk rs k t).2) ∧ Hid (Keeps (p :: v.ownBlock.toList) w wr) ∧ Hid (NewRow w v v3)) (fun iv _ => rs.length - (intOf iv).toNat)
  case atStart => exact ⟨0, v2, by omega, rfl, hid (by have := P2.out; rw [E1.out] at this; exact this), K2, N2⟩
  case round =>
    obtain ⟨k, v3, hk, rfl, PL, KL, NL⟩ := hrel
    have TW := HT.out.keep KL.out HQ.out HOW.out
    obtain ⟨cq, fq⟩ := TW.cell
    by_cases hlt : k < rs.length
    · have hk64 : k < 1000 := by omega
      obtain ⟨g, off, e1, _, hcap, hg, hgM, hr⟩ := TW.own.at.open (by omega)
      have GQ := hid (show g ∉ p :: v.ownBlock.toList from HOW.out g (by rw [e1]; rfl))
      subst e1
      have R0 := range_rk hr k hlt
      obtain ⟨x, hx⟩ : ∃ x, x = rs[k]'hlt := ⟨_, rfl⟩
      rw [← hx] at R0
      have R := hid R0
      have HX := hid hx
      have HLT := hid hlt
      have TWH := hid TW
      have HBA := hid (show B ≤ wr.heap.size by have := HB.out; have := KL.out.size; omega)
      have S3 : ∀ b ∈ p :: v3.ownBlock.toList, b ∈ p :: v.ownBlock.toList ∨ w.heap.size ≤ b := fun b hb => by
        rcases List.mem_cons.1 hb with rfl | hb
        · exact Or.inl (by simp)
        · rcases NL.out with e | e
          · exact Or.inl (by rw [← e]; exact List.mem_cons_of_mem _ hb)
          · exact Or.inr (e b (by simpa using hb))
      have NQ3 := hid (show q ∉ p :: v3.ownBlock.toList from fun hm => by
        rcases S3 q hm with h | h
        · exact HQ.out h
        · have := HT.out.lt; omega)
      have NG3 := hid (show g ∉ p :: v3.ownBlock.toList from fun hm => by
        rcases S3 g hm with h | h
        · exact GQ.out h
        · have := (HT.out.own.blk g rfl).2; omega)
      obtain ⟨s0, f0⟩ : ∃ z, z = rwrTk rs k t := ⟨_, rfl⟩
      obtain ⟨s1, f1⟩ : ∃ z, z = refNum x.c 1 s0 := ⟨_, rfl⟩
      obtain ⟨s2, f2⟩ : ∃ z, z = refNum x.h 1 s1 := ⟨_, rfl⟩
      obtain ⟨s3, f3⟩ : ∃ z, z = refNum x.n 2 s2 := ⟨_, rfl⟩
      obtain ⟨s4, f4⟩ : ∃ z, z = refBool x.b s3 := ⟨_, rfl⟩
      rw [← f0] at PL
      have E1 := hid f1.symm
      have E2 := hid f2.symm
      have E3 := hid f3.symm
      have E4 := hid f4.symm
      have F0 := hid f0
      obtain ⟨dd, _, _, _⟩ := rkrange_at R0
      clear hr hcap hg hgM R0 hx f0 f1 f2 f3 f4 TW fq S3
      go_wp2_with fail
      clear dd cq
      have HN : Calls Try.prog 77 #[.pointer (some ⟨p, 0, none⟩), .int .i64 x.c, .int .i64 1] wr (PenPost wr B 56 5 p v3 s1) := by
        have := rnum_any wr B p v3 s0.1 s0.2 x.c 1 PL.out HBA.out
        rw [show refNum x.c 1 (s0.1, s0.2) = s1 from E1.out] at this
        exact this
      refine HN.mono ?_
      intro e z1 hq
      obtain ⟨rfl, y1, p1, k1, n1⟩ := pen_stepK (Keeps.refl _ _) (Or.inl rfl) hq
      have P1 := hid p1
      have K1 := hid k1
      have N1 := hid n1
      obtain ⟨_, dd, _, _⟩ := rkrange_at (rkrange_keep R.out k1 NG3.out)
      have cq := k1.cell' TWH.out.cell.1 NQ3.out
      clear hq p1 k1 n1 HN
      go_wp2_with fail
      clear dd cq
      have HN : Calls Try.prog 77 #[.pointer (some ⟨p, 0, none⟩), .int .i64 x.h, .int .i64 1] z1 (PenPost z1 B 56 5 p y1 s2) := by
        have := rnum_any z1 B p y1 s1.1 s1.2 x.h 1 P1.out (Nat.le_trans HBA.out K1.out.size)
        rw [show refNum x.h 1 (s1.1, s1.2) = s2 from E2.out] at this
        exact this
      refine HN.mono ?_
      intro e z2 hq
      obtain ⟨rfl, y2, p2, k2, n2⟩ := pen_stepK K1.out N1.out hq
      have P2 := hid p2
      have K2 := hid k2
      have N2 := hid n2
      obtain ⟨_, _, dd, _⟩ := rkrange_at (rkrange_keep R.out k2 NG3.out)
      have cq := k2.cell' TWH.out.cell.1 NQ3.out
      clear hq p2 k2 n2 HN
      go_wp2_with fail
      clear dd cq
      have HN : Calls Try.prog 77 #[.pointer (some ⟨p, 0, none⟩), .int .i64 x.n, .int .i64 2] z2 (PenPost z2 B 56 5 p y2 s3) := by
        have := rnum_any z2 B p y2 s2.1 s2.2 x.n 2 P2.out (Nat.le_trans HBA.out K2.out.size)
        rw [show refNum x.n 2 (s2.1, s2.2) = s3 from E3.out] at this
        exact this
      refine HN.mono ?_
      intro e z3 hq
      obtain ⟨rfl, y3, p3, k3, n3⟩ := pen_stepK K2.out N2.out hq
      have P3 := hid p3
      have K3 := hid k3
      have N3 := hid n3
      obtain ⟨_, _, _, dd⟩ := rkrange_at (rkrange_keep R.out k3 NG3.out)
      have cq := k3.cell' TWH.out.cell.1 NQ3.out
      clear hq p3 k3 n3 HN
      go_wp2_with fail
      clear dd cq
      have HN : Calls Try.prog 78 #[.pointer (some ⟨p, 0, none⟩), .bool x.b] z3 (PenPost z3 B 56 5 p y3 s4) := by
        have := rbool_any z3 B p y3 s3.1 s3.2 x.b P3.out (Nat.le_trans HBA.out K3.out.size)
        rw [show refBool x.b (s3.1, s3.2) = s4 from E4.out] at this
        exact this
      refine HN.mono ?_
      intro e z4 hq
      obtain ⟨rfl, y4, p4, k4, n4⟩ := pen_stepK K3.out N3.out hq
      have P4 := hid p4
      have K4 := hid k4
      have N4 := hid n4
      clear hq p4 k4 n4 HN
      go_wp2_with fail
      have K9 := hid (show Keeps (p :: v.ownBlock.toList) w z4 from KL.out.trans' K4.out (fun i hi hm => by
        rcases List.mem_cons.1 hm with rfl | hm
        · simp
        · rcases NL.out with e | e
          · rw [← e]; exact List.mem_cons_of_mem _ hm
          · have := e i (by simpa using hm); omega))
      have N9 := hid (show NewRow w v y4 by
        rcases N4.out with e | e
        · rcases NL.out with e2 | e2
          · exact Or.inl (e.trans e2)
          · exact Or.inr (fun j hj => e2 j (by rw [← e]; exact hj))
        · exact Or.inr (fun j hj => Nat.le_trans KL.out.size (e j hj)))
      go_roundw
      case rel => exact ⟨k + 1, y4, by have := HLT.out; omega, by go_num, hid (by rw [rwrTk_snoc HLT.out, ← HX.out, ← F0.out]; unfold rwrRow; rw [E1.out, E2.out, E3.out, E4.out]; exact P4.out), K9, N9⟩
      case measure => have := HLT.out; simp [intOf]; omega
    · obtain rfl : k = rs.length := by omega
      go_wp2_with fail
      go_end0
      exact ⟨rfl, v3, PL.out, KL.out, NL.out⟩
end Go.Proofs.Ytjohikekhgcepaa


/- tokens: good rows are written as the same bytes by both, and read back. -/
namespace Go.Proofs.Ytjohikekhgcepaa
open Go.RowKit Go.Shelf
set_option maxRecDepth 100000
set_option linter.unusedSimpArgs false
set_option linter.unusedVariables false

def bitI (b : Bool) : Int := if b then 1 else 0
def rowB (x : Rk) : List Int := be x.c 1 ++ be x.h 1 ++ be x.n 2 ++ be (bitI x.b) 1
theorem rowB_len (x : Rk) : (rowB x).length = 5 := by simp [rowB, be_length]
def tokB (rs : List Rk) (k : Nat) : List Int := be (rs.length : Int) 1 ++ (rs.take k).flatMap rowB
theorem tokB_len (rs : List Rk) (k : Nat) (h : k ≤ rs.length) : (tokB rs k).length = 1 + k * 5 := by
  unfold tokB
  rw [List.length_append, be_length]
  congr 1
  induction k with
  | zero => simp
  | succ k ih =>
    rw [List.take_succ_eq_append_getElem (by omega), List.flatMap_append, List.length_append, ih (by omega)]
    simp [rowB_len]
    omega
theorem fit_row {x : Rk} (h : mayK x = true) : FitN x.c 1 ∧ FitN x.h 1 ∧ FitN x.n 2 ∧ FitN (bitI x.b) 1 := by
  unfold mayK at h
  simp only [Bool.and_eq_true, btwK_is] at h
  unfold FitN bitI
  refine ⟨⟨by omega, by omega, by omega, by omega⟩, ⟨by omega, by omega, by omega, by omega⟩, ⟨by omega, by omega, by omega, by omega⟩, by omega, by omega, ?_, ?_⟩ <;> cases x.b <;> decide
theorem wr_row {x : Rk} (h : mayK x = true) {s : List Int} (hl : s.length + 5 ≤ 65536) : wrRow x (s, 0) = (s ++ rowB x, 0) ∧ rwrRow x (s, 0) = (s ++ rowB x, 0) := by
  obtain ⟨f1, f2, f3, f4⟩ := fit_row h
  obtain ⟨a1, b1⟩ := penNum_fit (x := x.c) (n := 1) 1 rfl f1 (s := s) (by omega)
  obtain ⟨a2, b2⟩ := penNum_fit (x := x.h) (n := 1) 1 rfl f2 (s := s ++ be x.c 1) (by simp [be_length]; omega)
  obtain ⟨a3, b3⟩ := penNum_fit (x := x.n) (n := 2) 2 rfl f3 (s := s ++ be x.c 1 ++ be x.h 1) (by simp [be_length]; omega)
  obtain ⟨a4, b4⟩ := penNum_fit (x := bitI x.b) (n := 1) 1 rfl f4 (s := s ++ be x.c 1 ++ be x.h 1 ++ be x.n 2) (by simp [be_length]; omega)
  unfold wrRow rwrRow penBool refBool rowB
  rw [a1, a2, a3, b1, b2, b3]
  refine ⟨?_, ?_⟩
  · rw [show (if x.b = true then (1 : Int) else 0) = bitI x.b from rfl, a4]; simp
  · rw [show (if x.b = true then (1 : Int) else 0) = bitI x.b from rfl, b4]; simp
theorem wr_good {rs : List Rk} (g : GoodK rs) (hl : rs.length ≤ 255) : ∀ k, k ≤ rs.length → wrTk rs k ([], 0) = (tokB rs k, 0) ∧ rwrTk rs k ([], 0) = (tokB rs k, 0)
  | 0, _ => by
    obtain ⟨a, b⟩ := penNum_fit (x := (rs.length : Int)) (n := 1) 1 rfl ⟨by omega, by omega, by omega, by omega⟩ (s := []) (by simp)
    unfold wrTk rwrTk tokB
    simp only [List.take_zero, List.foldl_nil, List.flatMap_nil, List.append_nil]
    rw [a, b]
    simp
  | k + 1, h => by
    obtain ⟨h1, h2⟩ := wr_good g hl k (by omega)
    have hk : k < rs.length := by omega
    obtain ⟨r1, r2⟩ := wr_row (g.may _ (List.getElem_mem hk)) (s := tokB rs k) (by rw [tokB_len rs k (by omega)]; omega)
    have e : tokB rs (k + 1) = tokB rs k ++ rowB rs[k] := by
      unfold tokB
      rw [List.take_succ_eq_append_getElem hk, List.flatMap_append, List.append_assoc]
      simp
    rw [wrTk_snoc hk, rwrTk_snoc hk, h1, h2, r1, r2, e]
    exact ⟨rfl, rfl⟩
theorem boolE_be (b : Bool) (r : List Int) : boolE (be (bitI b) 1 ++ r, 0) = (b, (r, 0)) := by
  have e : be (bitI b) 1 = [bitI b] := by cases b <;> rfl
  rw [e]
  unfold boolE after rdBool
  rw [if_neg (by simp)]
  cases b <;> simp [bitI, val]
theorem rdRow_be {x : Rk} (h : mayK x = true) (r : List Int) : rdRow (rowB x ++ r, 0) = (x, (r, 0)) := by
  obtain ⟨f1, f2, f3, f4⟩ := fit_row h
  unfold rdRow rowB
  rw [List.append_assoc, List.append_assoc, List.append_assoc]
  rw [numE_be 1 rfl f1]
  simp only
  rw [numE_be 1 rfl f2]
  simp only
  rw [numE_be 2 rfl f3]
  simp only
  rw [boolE_be]
theorem take_good {rs : List Rk} (g : GoodK rs) {k : Nat} (hk : k < rs.length) : takeK (rs.take k) rs[k] = true := by
  have ha : ∀ x ∈ rs.take k, okPair x rs[k] := fun x hx => by
    obtain ⟨j, hj, rfl⟩ := List.mem_iff_getElem.1 hx
    rw [List.length_take] at hj
    rw [List.getElem_take]
    exact (List.pairwise_iff_getElem.1 g.pw) j k (by omega) hk (by omega)
  refine takeK_is.2 ⟨g.may _ (List.getElem_mem hk), ?_, ?_⟩
  · unfold lastK
    by_cases h0 : (rs.take k).length = 0
    · rw [if_pos h0]
    · rw [if_neg h0, List.getD_eq_getElem?_getD, List.getElem?_eq_getElem (by omega)]
      exact (ha _ (List.getElem_mem _)).1
  · rw [List.any_eq_false]
    intro x hx
    have := (ha x hx).2
    rw [clashK_comm, this]
    simp
theorem rdT_good {rs : List Rk} (g : GoodK rs) : ∀ m k, k + m = rs.length → rdT m (rs.take k) ((rs.drop k).flatMap rowB, 0) = (rs, ([], 0))
  | 0, k, h => by
    have e : k = rs.length := by omega
    subst e
    simp [rdT]
  | m + 1, k, h => by
    have hk : k < rs.length := by omega
    have ed : rs.drop k = rs[k] :: rs.drop (k + 1) := List.drop_eq_getElem_cons hk
    unfold rdT
    rw [if_neg (by simp), ed, List.flatMap_cons, rdRow_be (g.may _ (List.getElem_mem hk))]
    simp only
    rw [if_neg (by simp), if_pos (take_good g hk), ← List.take_succ_eq_append_getElem hk]
    exact rdT_good g m (k + 1) (by omega)
theorem rd_good {rs : List Rk} (g : GoodK rs) (hl : rs.length ≤ 255) : rdAll (tokB rs rs.length, 0) = (rs, ([], 0)) := by
  unfold rdAll tokB
  rw [numE_be 1 rfl (⟨by omega, by omega, by omega, by omega⟩ : FitN (rs.length : Int) 1)]
  simp only [Int.toNat_natCast, List.take_length]
  have := rdT_good g rs.length 0 (by omega)
  simpa using this
end Go.Proofs.Ytjohikekhgcepaa


/- tokens: the laws' Model; rows that are the same. -/
namespace Go.Proofs.Ytjohikekhgcepaa
open Go.RowKit Go.Shelf
set_option maxRecDepth 100000
set_option linter.unusedSimpArgs false
set_option linter.unusedVariables false

theorem EyL.baseK {w w1 wr : World} {B p : Nat} {v : Value} {st : PSt} (h : EyL w wr B p v st) (hs : w.heap.size ≤ w1.heap.size) : EyL w1 wr B p v st := by
  obtain ⟨v2, he, hsb, ho⟩ := h
  exact ⟨v2, he, hsb, fun g hg => ho g (Nat.le_trans hs hg)⟩
theorem build_rk4 (w : World) (x : Rk) : (Instr.build 62 #[(0, .int .i64 x.c), (1, .int .i64 x.h), (2, .int .i64 x.n), (3, .bool x.b)]).run Try.prog w = .ok (rkV x) w := by kernel_rfl
theorem exec_rk4 {ρ : Operand → Value} {o : Oper} {w : World} (a b c d : Operand) (x : Rk) (ho : o.op = .build 62 #[(0, a), (1, b), (2, c), (3, d)]) (ha : ρ a = .int .i64 x.c) (hb : ρ b = .int .i64 x.h) (hc : ρ c = .int .i64 x.n) (hd : ρ d = .bool x.b) : (execOp ρ o).run Try.prog w = .ok (.value (rkV x)) w := by
  simp only [execOp, ho, List.map_toArray, List.map_cons, List.map_nil, ha, hb, hc, hd, Sem.run_bind, build_rk4, Result.andThen_ok, Sem.run_pure]
def MdlPost (w : World) (rs : List Rk) (e : Ending) (w' : World) : Prop := ∃ a c, e = .returned (.slice a rs.length c) ∧ RksAt w' [] (.slice a rs.length c) rs ∧ Keeps [] w w'
set_option maxHeartbeats 12800000 in
theorem model_any (w : World) (M : List Nat) (v : Value) (rs : List Rk) (h : RksAt w M v rs) (hl : rs.length ≤ 1000) : Calls Try.prog 29 #[v] w (MdlPost w rs) := by
  obtain ⟨a, c, rfl⟩ := h.shape
  have H := hid h
  clear h
  go_enter Try.func29, Try.ntmps29
  go_wp2_with fail
  go_loopw [3, 4] (fun lv iv wr => ∃ (i : Nat) (ao : Option Addr) (co : Nat), iv = .int .i64 (i : Int) ∧ i ≤ rs.length ∧ lv = .slice ao i co ∧ Hid (OwnK wr w.heap.size 62 [] (.slice ao i co) (rs.take i)) ∧ Hid (Keeps [] w wr)) (fun _ iv _ => rs.length - (intOf iv).toNat)
  case atStart => exact ⟨0, none, 0, rfl, by omega, rfl, hid (OwnK.nil _ _ _ _ (by simp)), hid (Keeps.refl _ _)⟩
  case round =>
    obtain ⟨i, ao, co, rfl, hi, rfl, HO, HK⟩ := hrel
    by_cases hlt : i < rs.length
    · obtain ⟨g, off, e1, _, hcap, hg, hM, hr⟩ := (H.out.later HK.out).open (by omega)
      have hgw : g < w.heap.size := by
        obtain ⟨g2, off2, e2, _, _, hg2, _, _⟩ := H.out.open (by omega)
        rw [e1] at e2
        injection e2 with e2
        injection e2 with e2 _
        omega
      subst e1
      have R0 := range_rk hr i hlt
      obtain ⟨x, hx⟩ : ∃ x, x = rs[i]'hlt := ⟨_, rfl⟩
      rw [← hx] at R0
      have R := hid R0
      have HX := hid hx
      have HG := hid hg
      have NG := hid (show g ∉ (Value.slice ao i co).ownBlock.toList from fun hm => by have := (HO.out.blk g (by simpa using hm)).1; omega)
      have HLT := hid hlt
      clear hr hcap hg hM R0 hx hgw
      go_wp2_with fail
      refine wp_region_any (by kernel_rfl) (wpAny_of_held (S := KpS (Value.slice ao i co).ownBlock.toList wr.heap.size wr.drew) _ _ _ _ ?_)
      change wpAnyH _ _ _ _ _ _ _ _ wr.drew
      have cR : ∀ W1, KpS (Value.slice ao i co).ownBlock.toList wr.heap.size wr.drew W1 → W1.rangeAt g (off + i * 4) x.cells := fun W1 h t u hu => h.cell (by rw [World.cell?_drew]; exact R.out t u hu) HG.out NG.out
      refine held_take (i := 0) (v := .slice ao i co) rfl (by kernel_rfl) (by kernel_rfl) (by kernel_rfl) (fun _ _ _ h => h) rfl (fun W1 hW1 => rfl) (KpS.refl _ _ _) ?_
      simp only [Act.put, List.setIfInBounds_toArray, List.set_cons_zero, List.set_cons_succ]
      refine held_take (i := 1) (v := .slice (some ⟨g, off, none⟩) rs.length c) rfl (by kernel_rfl) (by kernel_rfl) (by kernel_rfl) (fun _ _ _ h => h) rfl (fun W1 hW1 => rfl) (KpS.refl _ _ _) ?_
      simp only [Act.put, List.setIfInBounds_toArray, List.set_cons_zero, List.set_cons_succ]
      refine held_take (i := 2) (v := .int .i64 (i : Int)) rfl (by kernel_rfl) (by kernel_rfl) (by kernel_rfl) (fun _ _ _ h => h) rfl (fun W1 hW1 => rfl) (KpS.refl _ _ _) ?_
      simp only [Act.put, List.setIfInBounds_toArray, List.set_cons_zero, List.set_cons_succ]
      refine held_take (i := 3) (v := .pointer (some ⟨g, off + i * 4, none⟩)) rfl (by kernel_rfl) (by kernel_rfl) (by kernel_rfl) (fun _ _ _ h => h) rfl (fun W1 hW1 => by go_simp) (KpS.refl _ _ _) ?_
      simp only [Act.put, List.setIfInBounds_toArray, List.set_cons_zero, List.set_cons_succ]
      refine held_take (i := 4) (v := .pointer (some ⟨g, off + i * 4, none⟩)) rfl (by kernel_rfl) (by kernel_rfl) (by kernel_rfl) (fun _ _ _ h => h) rfl (fun W1 hW1 => by go_simp) (KpS.refl _ _ _) ?_
      simp only [Act.put, List.setIfInBounds_toArray, List.set_cons_zero, List.set_cons_succ]
      refine held_take (i := 5) (v := .int .i64 x.c) rfl (by kernel_rfl) (by kernel_rfl) (by kernel_rfl) (fun _ _ _ h => h) rfl (fun W1 hW1 => exec_load _ _ _ _ rfl rfl (run_loadCell W1 _ _ _ ((rkrange_at (cR W1 hW1)).1) (agg_no _ (by kernel_rfl)))) (KpS.refl _ _ _) ?_
      simp only [Act.put, List.setIfInBounds_toArray, List.set_cons_zero, List.set_cons_succ]
      refine held_take (i := 6) (v := .slice (some ⟨g, off, none⟩) rs.length c) rfl (by kernel_rfl) (by kernel_rfl) (by kernel_rfl) (fun _ _ _ h => h) rfl (fun W1 hW1 => rfl) (KpS.refl _ _ _) ?_
      simp only [Act.put, List.setIfInBounds_toArray, List.set_cons_zero, List.set_cons_succ]
      refine held_take (i := 7) (v := .int .i64 (i : Int)) rfl (by kernel_rfl) (by kernel_rfl) (by kernel_rfl) (fun _ _ _ h => h) rfl (fun W1 hW1 => rfl) (KpS.refl _ _ _) ?_
      simp only [Act.put, List.setIfInBounds_toArray, List.set_cons_zero, List.set_cons_succ]
      refine held_take (i := 8) (v := .pointer (some ⟨g, off + i * 4, none⟩)) rfl (by kernel_rfl) (by kernel_rfl) (by kernel_rfl) (fun _ _ _ h => h) rfl (fun W1 hW1 => by go_simp) (KpS.refl _ _ _) ?_
      simp only [Act.put, List.setIfInBounds_toArray, List.set_cons_zero, List.set_cons_succ]
      refine held_take (i := 9) (v := .pointer (some ⟨g, off + i * 4 + 1, none⟩)) rfl (by kernel_rfl) (by kernel_rfl) (by kernel_rfl) (fun _ _ _ h => h) rfl (fun W1 hW1 => by go_simp) (KpS.refl _ _ _) ?_
      simp only [Act.put, List.setIfInBounds_toArray, List.set_cons_zero, List.set_cons_succ]
      refine held_take (i := 10) (v := .int .i64 x.h) rfl (by kernel_rfl) (by kernel_rfl) (by kernel_rfl) (fun _ _ _ h => h) rfl (fun W1 hW1 => exec_load _ _ _ _ rfl rfl (run_loadCell W1 _ _ _ ((rkrange_at (cR W1 hW1)).2.1) (agg_no _ (by kernel_rfl)))) (KpS.refl _ _ _) ?_
      simp only [Act.put, List.setIfInBounds_toArray, List.set_cons_zero, List.set_cons_succ]
      refine held_take (i := 11) (v := .slice (some ⟨g, off, none⟩) rs.length c) rfl (by kernel_rfl) (by kernel_rfl) (by kernel_rfl) (fun _ _ _ h => h) rfl (fun W1 hW1 => rfl) (KpS.refl _ _ _) ?_
      simp only [Act.put, List.setIfInBounds_toArray, List.set_cons_zero, List.set_cons_succ]
      refine held_take (i := 12) (v := .int .i64 (i : Int)) rfl (by kernel_rfl) (by kernel_rfl) (by kernel_rfl) (fun _ _ _ h => h) rfl (fun W1 hW1 => rfl) (KpS.refl _ _ _) ?_
      simp only [Act.put, List.setIfInBounds_toArray, List.set_cons_zero, List.set_cons_succ]
      refine held_take (i := 13) (v := .pointer (some ⟨g, off + i * 4, none⟩)) rfl (by kernel_rfl) (by kernel_rfl) (by kernel_rfl) (fun _ _ _ h => h) rfl (fun W1 hW1 => by go_simp) (KpS.refl _ _ _) ?_
      simp only [Act.put, List.setIfInBounds_toArray, List.set_cons_zero, List.set_cons_succ]
      refine held_take (i := 14) (v := .pointer (some ⟨g, off + i * 4 + 2, none⟩)) rfl (by kernel_rfl) (by kernel_rfl) (by kernel_rfl) (fun _ _ _ h => h) rfl (fun W1 hW1 => by go_simp) (KpS.refl _ _ _) ?_
      simp only [Act.put, List.setIfInBounds_toArray, List.set_cons_zero, List.set_cons_succ]
      refine held_take (i := 15) (v := .int .i64 x.n) rfl (by kernel_rfl) (by kernel_rfl) (by kernel_rfl) (fun _ _ _ h => h) rfl (fun W1 hW1 => exec_load _ _ _ _ rfl rfl (run_loadCell W1 _ _ _ ((rkrange_at (cR W1 hW1)).2.2.1) (agg_no _ (by kernel_rfl)))) (KpS.refl _ _ _) ?_
      simp only [Act.put, List.setIfInBounds_toArray, List.set_cons_zero, List.set_cons_succ]
      refine held_take (i := 16) (v := .slice (some ⟨g, off, none⟩) rs.length c) rfl (by kernel_rfl) (by kernel_rfl) (by kernel_rfl) (fun _ _ _ h => h) rfl (fun W1 hW1 => rfl) (KpS.refl _ _ _) ?_
      simp only [Act.put, List.setIfInBounds_toArray, List.set_cons_zero, List.set_cons_succ]
      refine held_take (i := 17) (v := .int .i64 (i : Int)) rfl (by kernel_rfl) (by kernel_rfl) (by kernel_rfl) (fun _ _ _ h => h) rfl (fun W1 hW1 => rfl) (KpS.refl _ _ _) ?_
      simp only [Act.put, List.setIfInBounds_toArray, List.set_cons_zero, List.set_cons_succ]
      refine held_take (i := 18) (v := .pointer (some ⟨g, off + i * 4, none⟩)) rfl (by kernel_rfl) (by kernel_rfl) (by kernel_rfl) (fun _ _ _ h => h) rfl (fun W1 hW1 => by go_simp) (KpS.refl _ _ _) ?_
      simp only [Act.put, List.setIfInBounds_toArray, List.set_cons_zero, List.set_cons_succ]
      refine held_take (i := 19) (v := .pointer (some ⟨g, off + i * 4 + 3, none⟩)) rfl (by kernel_rfl) (by kernel_rfl) (by kernel_rfl) (fun _ _ _ h => h) rfl (fun W1 hW1 => by go_simp) (KpS.refl _ _ _) ?_
      simp only [Act.put, List.setIfInBounds_toArray, List.set_cons_zero, List.set_cons_succ]
      refine held_take (i := 20) (v := .bool x.b) rfl (by kernel_rfl) (by kernel_rfl) (by kernel_rfl) (fun _ _ _ h => h) rfl (fun W1 hW1 => exec_load _ _ _ _ rfl rfl (run_loadCell W1 _ _ _ ((rkrange_at (cR W1 hW1)).2.2.2) (agg_no _ (by kernel_rfl)))) (KpS.refl _ _ _) ?_
      simp only [Act.put, List.setIfInBounds_toArray, List.set_cons_zero, List.set_cons_succ]
      refine held_take (i := 21) (v := rkV x) rfl (by kernel_rfl) (by kernel_rfl) (by kernel_rfl) (fun _ _ _ h => h) rfl (fun W1 hW1 => exec_rk4 _ _ _ _ x rfl rfl rfl rfl rfl) (KpS.refl _ _ _) ?_
      simp only [Act.put, List.setIfInBounds_toArray, List.set_cons_zero, List.set_cons_succ]
      refine held_do (i := 22) (by kernel_rfl) rfl rfl (wp_value (exec_oneRk rRk _ x rfl rfl) ?_)
      have kB : Keeps [] wr (wr.drew.alloc (.cells x.cells.toArray 62)) := (Keeps.refl [] wr).drew.alloc _
      have sB : KpS (Value.slice ao i co).ownBlock.toList wr.heap.size wr.drew (wr.drew.alloc (.cells x.cells.toArray 62)) := (KpS.refl _ _ _).alloc (by simp) _
      have oB := rkrange_new wr.drew x.cells 62
      have eS : wr.drew.heap.size = wr.heap.size := rfl
      rw [eS] at oB
      refine ⟨sB, ?_⟩
      simp only [Act.put, List.setIfInBounds_toArray, List.set_cons_zero, List.set_cons_succ]
      rw [eS]
      generalize wr.drew.alloc (.cells x.cells.toArray 62) = wB at kB sB oB ⊢
      have lt : (rs.take i).length = i := by rw [List.length_take]; have := HLT.out; omega
      obtain ⟨a3, c3, w8, hr2, o2, k2, n2⟩ := append_rk rRk (HO.out.later kB) wr.heap.size x oB (by rw [lt]; have := HLT.out; omega) (by have := HK.out.size; have := kB.size; omega) 42
      rw [lt] at hr2 o2
      refine held_do (i := 23) (by kernel_rfl) rfl rfl (wp_value (exec_appendT 42 _ _ rfl rfl rfl hr2) ?_)
      have sE : KpS (Value.slice ao i co).ownBlock.toList wr.heap.size wr.drew w8 := sB.keeps k2 kB.size (fun j hj _ => hj)
      refine ⟨sE, ?_⟩
      simp only [Act.put, List.setIfInBounds_toArray, List.set_cons_zero, List.set_cons_succ]
      refine held_take (i := 24) (v := .slice a3 (i + 1) c3) rfl (by kernel_rfl) (by kernel_rfl) (by kernel_rfl) (fun _ _ _ h => h) rfl (fun W1 hW1 => by go_simp) (sE) ?_
      simp only [Act.put, List.setIfInBounds_toArray, List.set_cons_zero, List.set_cons_succ]
      refine wpAnyH_done (by kernel_rfl) ?_ _
      have O8 : Hid (OwnK w8 w.heap.size 62 [] (.slice a3 (i + 1) c3) (rs.take (i + 1))) := hid (by rw [List.take_succ_eq_append_getElem HLT.out, ← HX.out]; exact o2)
      have K8 := hid ((HK.out.trans kB).trans' k2 (S := []) (fun j hj hm => by have := (HO.out.blk j (by simpa using hm)).1; omega))
      clear cR kB sB oB eS lt hr2 o2 k2 n2 sE
      go_wp2_with fail
      go_roundw
      case rel => exact ⟨i + 1, a3, c3, by go_num, by have := HLT.out; omega, rfl, O8, K8⟩
      case measure => have := HLT.out; simp [intOf]; omega
    · obtain rfl : i = rs.length := by omega
      go_wp2_with fail
      go_ret
      have := HO.out.at
      rw [List.take_length] at this
      exact ⟨ao, co, rfl, this, HK.out⟩
set_option maxHeartbeats 12800000 in
theorem sameK_any (w : World) (M N : List Nat) (v u : Value) (rs : List Rk) (h : RksAt w M v rs) (h2 : RksAt w N u rs) (hl : rs.length ≤ 1000) : Calls Try.prog 28 #[v, u] w (PB w true) := by
  obtain ⟨a, c, rfl⟩ := h.shape
  obtain ⟨b, d, rfl⟩ := h2.shape
  have H := hid h
  have H2 := hid h2
  clear h h2
  go_enter Try.func28, Try.ntmps28
  go_wp2_with fail
  go_loopw [5] (fun iv wr => ∃ i : Nat, iv = .int .i64 (i : Int) ∧ i ≤ rs.length ∧ Hid (Keeps [] w wr)) (fun iv _ => rs.length - (intOf iv).toNat)
  case atStart => exact ⟨0, rfl, by omega, hid (Keeps.refl _ _)⟩
  case round =>
    obtain ⟨i, rfl, hi, HK⟩ := hrel
    by_cases hlt : i < rs.length
    · obtain ⟨g, off, e1, _, hcap, hg, hM, hr⟩ := (H.out.later HK.out).open (by omega)
      obtain ⟨g2, off2, e2, _, hcap2, hg2, hM2, hr2⟩ := (H2.out.later HK.out).open (by omega)
      subst e1
      subst e2
      have R0 := range_rk hr i hlt
      have S0 := range_rk hr2 i hlt
      obtain ⟨x, hx⟩ : ∃ x, x = rs[i]'hlt := ⟨_, rfl⟩
      rw [← hx] at R0 S0
      have R := hid R0
      have S := hid S0
      have HG := hid hg
      have HG2 := hid hg2
      have HLT := hid hlt
      clear hr hcap hg hM R0 hx hr2 hcap2 hg2 hM2 S0
      go_wp2_with fail
      refine wp_region_any (by kernel_rfl) (wpAny_of_held (S := KpS [] wr.heap.size wr.drew) _ _ _ _ ?_)
      change wpAnyH _ _ _ _ _ _ _ _ wr.drew
      refine held_take (i := 0) (v := .slice (some ⟨g, off, none⟩) rs.length c) rfl (by kernel_rfl) (by kernel_rfl) (by kernel_rfl) (fun _ _ _ h => h) rfl (fun W1 hW1 => rfl) (KpS.refl _ _ _) ?_
      simp only [Act.put, List.setIfInBounds_toArray, List.set_cons_zero, List.set_cons_succ]
      refine held_take (i := 1) (v := .int .i64 (i : Int)) rfl (by kernel_rfl) (by kernel_rfl) (by kernel_rfl) (fun _ _ _ h => h) rfl (fun W1 hW1 => rfl) (KpS.refl _ _ _) ?_
      simp only [Act.put, List.setIfInBounds_toArray, List.set_cons_zero, List.set_cons_succ]
      refine held_take (i := 2) (v := .pointer (some ⟨g, off + i * 4, none⟩)) rfl (by kernel_rfl) (by kernel_rfl) (by kernel_rfl) (fun _ _ _ h => h) rfl (fun W1 hW1 => by go_simp) (KpS.refl _ _ _) ?_
      simp only [Act.put, List.setIfInBounds_toArray, List.set_cons_zero, List.set_cons_succ]
      refine held_take (i := 3) (v := rkV x) rfl (by kernel_rfl) (by kernel_rfl) (by kernel_rfl) (fun _ _ _ h => h) rfl (fun W1 hW1 => exec_load _ _ _ _ rfl rfl (loadRk_run rRk W1 g (off + i * 4) _ (fun t u hu => hW1.cell (by rw [World.cell?_drew]; exact R.out t u hu) HG.out (by simp)))) (KpS.refl _ _ _) ?_
      simp only [Act.put, List.setIfInBounds_toArray, List.set_cons_zero, List.set_cons_succ]
      refine held_take (i := 4) (v := .slice (some ⟨g2, off2, none⟩) rs.length d) rfl (by kernel_rfl) (by kernel_rfl) (by kernel_rfl) (fun _ _ _ h => h) rfl (fun W1 hW1 => rfl) (KpS.refl _ _ _) ?_
      simp only [Act.put, List.setIfInBounds_toArray, List.set_cons_zero, List.set_cons_succ]
      refine held_take (i := 5) (v := .int .i64 (i : Int)) rfl (by kernel_rfl) (by kernel_rfl) (by kernel_rfl) (fun _ _ _ h => h) rfl (fun W1 hW1 => rfl) (KpS.refl _ _ _) ?_
      simp only [Act.put, List.setIfInBounds_toArray, List.set_cons_zero, List.set_cons_succ]
      refine held_take (i := 6) (v := .pointer (some ⟨g2, off2 + i * 4, none⟩)) rfl (by kernel_rfl) (by kernel_rfl) (by kernel_rfl) (fun _ _ _ h => h) rfl (fun W1 hW1 => by go_simp) (KpS.refl _ _ _) ?_
      simp only [Act.put, List.setIfInBounds_toArray, List.set_cons_zero, List.set_cons_succ]
      refine held_take (i := 7) (v := rkV x) rfl (by kernel_rfl) (by kernel_rfl) (by kernel_rfl) (fun _ _ _ h => h) rfl (fun W1 hW1 => exec_load _ _ _ _ rfl rfl (loadRk_run rRk W1 g2 (off2 + i * 4) _ (fun t u hu => hW1.cell (by rw [World.cell?_drew]; exact S.out t u hu) HG2.out (by simp)))) (KpS.refl _ _ _) ?_
      simp only [Act.put, List.setIfInBounds_toArray, List.set_cons_zero, List.set_cons_succ]
      refine held_take (i := 8) (v := .bool false) rfl (by kernel_rfl) (by kernel_rfl) (by kernel_rfl) (fun _ _ _ h => h) rfl (fun W1 hW1 => (exec_neqRk rRe _ _ _ x x rfl rfl rfl).trans (by simp [eqK])) (KpS.refl _ _ _) ?_
      simp only [Act.put, List.setIfInBounds_toArray, List.set_cons_zero, List.set_cons_succ]
      refine wpAnyH_done (by kernel_rfl) ?_ _
      go_wp2_with fail
      go_roundw
      case rel => exact ⟨i + 1, by go_num, by have := HLT.out; omega, hid HK.out.drew⟩
      case measure => have := HLT.out; simp [intOf]; omega
    · obtain rfl : i = rs.length := by omega
      go_wp2_with fail
      go_ret
      exact ⟨rfl, HK.out⟩
end Go.Proofs.Ytjohikekhgcepaa


/- tokens: how the laws' deeds are read. -/
namespace Go.Proofs.Ytjohikekhgcepaa
open Go.Deep Go.ChangeShapes Go.WideShapes Go.ChangeAt Go.RowKit Go.Shelf
set_option maxRecDepth 100000
set_option linter.unusedSimpArgs false

/-- Deeds that came in. -/
def DdsAt (w : World) (v : Value) (ds : List Rk) : Prop :=
  ∃ (a : Option Addr) (cap : Nat), v = .slice a ds.length cap ∧ ds.length ≤ cap ∧ cap ≤ maxLen ∧ (a = none → cap = 0) ∧
    (ds ≠ [] → ∃ g off, a = some ⟨g, off, none⟩ ∧ g < w.heap.size ∧ ∀ i (h : i < ds.length), w.rangeAt g (off + i * 4) ds[i].cells)
theorem DdsAt.keep {w w' : World} {v : Value} {ds : List Rk} (h : DdsAt w v ds) (k : Keeps [] w w') : DdsAt w' v ds := by
  obtain ⟨a, cap, e, h1, h2, h0, h3⟩ := h
  exact ⟨a, cap, e, h1, h2, h0, fun hne => by
    obtain ⟨g, off, e2, hl, h5⟩ := h3 hne
    exact ⟨g, off, e2, Nat.lt_of_lt_of_le hl k.size, fun i hi => rkrange_keep (h5 i hi) k (by simp)⟩⟩
theorem DdsAt.shape {w : World} {v : Value} {ds : List Rk} (h : DdsAt w v ds) : ∃ a c, v = .slice a ds.length c := by
  obtain ⟨a, cap, e, _⟩ := h
  exact ⟨a, cap, e⟩
theorem DdsAt.at {w : World} {a : Option Addr} {n c : Nat} {ds : List Rk} (h : DdsAt w (.slice a n c) ds) {i : Nat} (hi : i < ds.length) : ∃ g off, a = some ⟨g, off, none⟩ ∧ g < w.heap.size ∧ w.rangeAt g (off + i * 4) ds[i].cells := by
  obtain ⟨a', cap, e, _, _, _, h3⟩ := h
  injection e with e1 _ _
  subst e1
  obtain ⟨g, off, e2, hl, h5⟩ := h3 (by intro e; rw [e] at hi; simp at hi)
  exact ⟨g, off, e2, hl, h5 i hi⟩
section
variable {H : Type} {enc : TypeId × Value → H}
theorem cellsD15 : Try.prog.cellsOf 46 = 4 := by kernel_rfl
theorem cellsI15 : Try.prog.cellsOf 3 = 1 := by kernel_rfl
theorem cellsB15 : Try.prog.cellsOf 4 = 1 := by kernel_rfl
theorem cells_rangeK {W : World} {g off n : Nat} {cs : List Value} (h : W.cells? 0 ⟨g, off, none⟩ n = some cs) : cs.length = n ∧ W.rangeAt g off cs := by
  obtain ⟨_, hl, hat⟩ := World.cells?_some h
  refine ⟨hl, fun j u hu => ?_⟩
  have hj := (List.getElem?_eq_some_iff.1 hu).1
  have := hat j (by omega)
  rw [Addr.add_lit] at this
  rw [this]; exact hu
theorem d15_of_trod {W : World} {fuel : Nat} {cs : List Value} {x : DataW H × List MemPlace} (hl : cs.length = 4) (h : DataW.trod enc Try.prog W 0 (fun _ => true) true fuel 46 cs = some x) : ∃ d : Rk, cs = d.cells := by
  obtain ⟨ys, n, _, hx, _, hyl, hf⟩ := DataW.trod_struct Try.underlying46 h
  match cs, hl with
  | [c0, c1, c2, c3], _ =>
    have t0 : DataW.trod enc Try.prog W 0 (fun _ => true) true n 3 (([c0, c1, c2, c3].drop 0).take (Try.prog.cellsOf 3)) = ys[0]? := hf 0 _ rfl
    have t1 : DataW.trod enc Try.prog W 0 (fun _ => true) true n 3 (([c0, c1, c2, c3].drop 1).take (Try.prog.cellsOf 3)) = ys[1]? := hf 1 _ rfl
    have t2 : DataW.trod enc Try.prog W 0 (fun _ => true) true n 3 (([c0, c1, c2, c3].drop 2).take (Try.prog.cellsOf 3)) = ys[2]? := hf 2 _ rfl
    have t3 : DataW.trod enc Try.prog W 0 (fun _ => true) true n 4 (([c0, c1, c2, c3].drop 3).take (Try.prog.cellsOf 4)) = ys[3]? := hf 3 _ rfl
    simp only [cellsI15, cellsB15, List.drop_zero, List.drop_succ_cons, List.take_succ_cons, List.take_zero] at t0 t1 t2 t3
    match ys, hyl with
    | [y0, y1, y2, y3], _ =>
      simp only [List.getElem?_cons_zero, List.getElem?_cons_succ] at t0 t1 t2 t3
      obtain ⟨z0, e0, _, w0⟩ := DataW.trod_int Try.underlying3 t0
      obtain ⟨z1, e1, _, w1⟩ := DataW.trod_int Try.underlying3 t1
      obtain ⟨z2, e2, _, w2⟩ := DataW.trod_int Try.underlying3 t2
      obtain ⟨z3, e3, _⟩ := DataW.trod_bool Try.underlying4 t3
      injection e0 with e0 _
      injection e1 with e1 _
      injection e2 with e2 _
      injection e3 with e3 _
      subst e0; subst e1; subst e2; subst e3
      exact ⟨⟨z0, z1, z2, z3⟩, rfl⟩
theorem deeds15_of_trod {W : World} {fuel : Nat} {cs : List Value} {x : DataW H × List MemPlace} (h : DataW.trod enc Try.prog W 0 (fun _ => true) true fuel 38 cs = some x) : ∃ v ds, cs = [v] ∧ DdsAt W v ds := by
  rcases Go.Deep.open_slice Try.underlying38 h with ⟨rfl, _⟩ | ⟨a, len, cap, m, n, D, Pl, rfl, _, hl, hm, hmm, rfl, hi⟩
  · exact ⟨_, [], rfl, none, 0, rfl, by simp, by simp, fun _ => rfl, fun h => absurd rfl h⟩
  · simp only [if_true] at hmm
    subst hmm
    by_cases h0 : len = 0
    · subst h0
      exact ⟨_, [], rfl, some a, m, rfl, by simp, hm, by simp, fun h => absurd rfl h⟩
    · obtain ⟨g, off, sp⟩ := a
      have hsp : sp = none := by
        obtain ⟨cs0, hc, _⟩ := hi 0 (by omega)
        rw [cellsD15] at hc
        obtain ⟨_, hl4, hat⟩ := World.cells?_some hc
        have := hat 0 (by omega)
        rw [List.getElem?_eq_getElem (by omega)] at this
        have hs := World.cell?_spot this
        simpa [Addr.add] using hs
      subst hsp
      obtain ⟨ds, hdl, hda⟩ := list_of (P := fun i (d : Rk) => W.rangeAt g (off + i * 4) d.cells) len (fun i hil => by
        obtain ⟨cs', hc, ht⟩ := hi i (by omega)
        rw [cellsD15, Addr.add_lit] at hc
        obtain ⟨hl4b, hr⟩ := cells_rangeK hc
        obtain ⟨d, rfl⟩ := d15_of_trod hl4b ht
        exact ⟨d, hr⟩)
      refine ⟨_, ds, rfl, some ⟨g, off, none⟩, m, by rw [hdl], by omega, hm, by simp, fun _ => ⟨g, off, rfl, ?_, hda⟩⟩
      have := hda 0 (by omega) 0 _ rfl
      exact World.block_lt_of_cell? _ _ this
end
end Go.Proofs.Ytjohikekhgcepaa
