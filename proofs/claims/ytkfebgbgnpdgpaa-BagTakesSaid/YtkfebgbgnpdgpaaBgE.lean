/- bag: the walk of copied. -/
import Derived.Test.YtkfebgbgnpdgpaaBgD
import Derived.Test.YtkfebgbgnpdgpaaKitA
namespace Go.Proofs.Ytkfebgbgnpdgpaa
open Go.RowKit
set_option maxRecDepth 100000

def CopiedPost (w : World) (ms : List Mg) (e : Ending) (w' : World) : Prop :=
  ∃ a c g ms', e = .returned (.slice a ms.length c) ∧ Own 33 w' w.heap.size [g] (.slice a ms.length c) ms' ∧ ms'.map con = ms.map con ∧ w.heap.size ≤ g ∧ Keeps [] w w'

theorem row_block3 {W : World} {b : Nat} {x0 x1 x2 : Value} {T : TypeId} (h : W.heap[b]? = some (.cells #[x0, x1, x2] T (0, 0))) :
    W.cell? ⟨b, 0, none⟩ = some x0 ∧ W.cell? ⟨b, 1, none⟩ = some x1 ∧ W.cell? ⟨b, 2, none⟩ = some x2 ∧ W.frozen? ⟨b, 0, none⟩ = false ∧ W.frozen? ⟨b, 1, none⟩ = false ∧ W.frozen? ⟨b, 2, none⟩ = false := by
  simp [World.cell?, World.frozen?, h]

/-- One round of the second loop of copied, in memory. -/
theorem copied_round {wr : World} {B g h k n s tot : Nat} {ms : List Mg} {m : Mg} (X : List Nat) (hm : MgOk wr X m) (hk : k < n)
    (hs : s = lsum ms) (hkl : ms.length = k) (hfit : s + m.bs.length ≤ tot) (hgh : h ≠ g)
    (oA : wr.ownsRow B 5 1 (.slice (some ⟨g, 0, none⟩) s tot) s ((allb ms).map (Value.int .u8))) (oO : wr.ownsRow B 33 3 (.slice (some ⟨h, 0, none⟩) k n) k (mcells (cutM g 0 ms))) (ra : Option Addr) (rc : Nat) (hrow : m.row = .slice ra m.bs.length rc) (ty1 ty2 : TypeId) :
    ∃ w1 w2 : World, (Builtin.append_ #[29, 29] ty1 #[.slice (some ⟨g, 0, none⟩) s tot, .slice ra m.bs.length rc]).run Try.prog (wr.alloc (.cells #[.int .i64 m.f, .int .i64 m.t, .slice ra m.bs.length rc] 33)) = .ok (.slice (some ⟨g, 0, none⟩) (s + m.bs.length) tot) w1 ∧
      w1.heap[wr.heap.size]? = some (.cells #[.int .i64 m.f, .int .i64 m.t, .slice ra m.bs.length rc] 33 (0, 0)) ∧
      (Builtin.append_ #[39, 39] ty2 #[.slice (some ⟨h, 0, none⟩) k n, .slice (some ⟨w1.heap.size, 0, none⟩) 1 1]).run Try.prog
        ((w1.setCell ⟨wr.heap.size, 2, none⟩ (.slice (some ⟨g, if m.bs.length = 0 then 0 else s, none⟩) m.bs.length m.bs.length)).alloc (.cells #[.int .i64 m.f, .int .i64 m.t, .slice (some ⟨g, if m.bs.length = 0 then 0 else s, none⟩) m.bs.length m.bs.length] 33)) = .ok (.slice (some ⟨h, 0, none⟩) (k + 1) n) w2 ∧
      w2.ownsRow B 5 1 (.slice (some ⟨g, 0, none⟩) (s + m.bs.length) tot) (s + m.bs.length) ((allb (ms ++ [m])).map (Value.int .u8)) ∧
      w2.ownsRow B 33 3 (.slice (some ⟨h, 0, none⟩) (k + 1) n) (k + 1) (mcells (cutM g 0 (ms ++ [m]))) ∧ KpS [g, h] wr.heap.size wr w2 := by
  subst hs
  obtain ⟨i5, hi5, hz5, hz51, hz52⟩ := info_parts info5
  obtain ⟨i3, hi3, hz3, hz33, hz340⟩ := info_parts mtB.inf
  have hrow2 := hm.row
  rw [hrow] at hrow2
  obtain ⟨ra', rc', e, r1, r2, r3, r4, r5⟩ := hrow2
  injection e with e1 _ e3
  subst e1; subst e3
  have ka := (Keeps.refl [] wr).alloc (.cells #[.int .i64 m.f, .int .i64 m.t, .slice ra m.bs.length rc] 33)
  have ba := heap_alloc_new wr (.cells #[.int .i64 m.f, .int .i64 m.t, .slice ra m.bs.length rc] 33)
  have za : (wr.alloc (.cells #[.int .i64 m.f, .int .i64 m.t, .slice ra m.bs.length rc] 33)).heap.size = wr.heap.size + 1 := by simp
  generalize wr.alloc (.cells #[.int .i64 m.f, .int .i64 m.t, .slice ra m.bs.length rc] 33) = wa at ka ba za ⊢
  have oA1 := ownsRow_keep oA ka (by simp)
  have oO1 := ownsRow_keep oO ka (by simp)
  have gl := (oA.lt g rfl).2
  have hl := (oO.lt h rfl).2
  obtain ⟨w1, run1, oA2, g1⟩ := run_fits_src (P := Try.prog) (w := wa) B 29 ty1 5 i5 1 Try.underlying29 hi5 hz51 g (lsum ms) tot _ oA1 ra m.bs.length rc (m.bs.map (Value.int .u8)) (by simp) r3 r1
    (fun ad had j u hu => ka.cell' (r5 ad had j u hu) (by simp)) (by intro u hu; simp at hu; obtain ⟨z, _, rfl⟩ := hu; rfl) hfit
  have k1 : Keeps [g] wa w1 := (Keeps.refl [g] wa).grown g1 (fun k hk => by cases hk; simp)
  have b1 : w1.heap[wr.heap.size]? = some (.cells #[.int .i64 m.f, .int .i64 m.t, .slice ra m.bs.length rc] 33 (0, 0)) := (k1.block _ (by omega) (by simp; omega)).trans ba
  have oO2 := ownsRow_keep oO1 k1 (by intro b hb; simp [Value.ownBlock] at hb; simp; omega)
  have z1 := k1.size
  generalize hnr : (Value.slice (some ⟨g, if m.bs.length = 0 then 0 else lsum ms, none⟩) m.bs.length m.bs.length) = nr
  have kb : Keeps [wr.heap.size] w1 (w1.setCell ⟨wr.heap.size, 2, none⟩ nr) := (Keeps.refl [wr.heap.size] w1).setCell (Or.inl (by simp)) nr
  have oA3 := ownsRow_keep oA2 kb (by intro b hb; simp [Value.ownBlock] at hb; simp; omega)
  have oO3 := ownsRow_keep oO2 kb (by intro b hb; simp [Value.ownBlock] at hb; simp; omega)
  have zb : (w1.setCell ⟨wr.heap.size, 2, none⟩ nr).heap.size = w1.heap.size := by simp [World.setCell]
  generalize hwb : w1.setCell ⟨wr.heap.size, 2, none⟩ nr = wb at kb oA3 oO3 zb ⊢
  have kc := (Keeps.refl [] wb).alloc (.cells #[.int .i64 m.f, .int .i64 m.t, nr] 33)
  have bc := heap_alloc_new wb (.cells #[.int .i64 m.f, .int .i64 m.t, nr] 33)
  have zc : (wb.alloc (.cells #[.int .i64 m.f, .int .i64 m.t, nr] 33)).heap.size = wb.heap.size + 1 := by simp
  rw [zb] at bc
  have oA4 := ownsRow_keep oA3 kc (by simp)
  have oO4 := ownsRow_keep oO3 kc (by simp)
  generalize hwc : wb.alloc (.cells #[.int .i64 m.f, .int .i64 m.t, nr] 33) = wc at kc bc zc oA4 oO4 ⊢
  obtain ⟨d0, d1, d2, _⟩ := row_block3 bc
  obtain ⟨w2, run2, oO5, g2⟩ := run_fits_src (P := Try.prog) (w := wc) B 39 ty2 33 i3 3 Try.underlying39 hi3 hz33 h k n _ oO4 (some ⟨w1.heap.size, 0, none⟩) 1 1 [.int .i64 m.f, .int .i64 m.t, nr] (by simp) (by simp) (by omega)
    (fun ad had j u hu => by
      obtain rfl := Option.some.inj had
      rw [Addr.add_lit, Nat.zero_add]
      match j, hu with
      | 0, hu => simp at hu; subst hu; exact d0
      | 1, hu => simp at hu; subst hu; exact d1
      | 2, hu => simp at hu; subst hu; exact d2) (by intro u hu; simp at hu; rcases hu with rfl | rfl | rfl <;> first | rfl | (rw [← hnr]; rfl)) (by omega)
  have k2 : Keeps [h] wc w2 := (Keeps.refl [h] wc).grown g2 (fun k hk => by cases hk; simp)
  refine ⟨w1, w2, run1, b1, by rw [hwb, hwc]; exact run2, ?_, ?_, ?_⟩
  · have := ownsRow_keep oA4 k2 (by intro b hb; simp [Value.ownBlock] at hb; simp; omega)
    rw [show (allb (ms ++ [m])).map (Value.int .u8) = (allb ms).map (Value.int .u8) ++ m.bs.map (Value.int .u8) by simp [allb]]
    exact this
  · rw [cutM_snoc, mcells_append, Nat.zero_add, hnr]
    exact oO5
  · have a1 : KpS [g, h] wr.heap.size wr wa := ⟨ka.os, ka.tape, ka.output, ka.size, fun k hk _ => ka.block k hk (by simp)⟩
    refine (((a1.keeps k1 (by omega) (by simp)).keeps kb (by omega) ?_).keeps kc (by omega) (by simp)).keeps k2 (by omega) (by simp)
    intro i hi hlt
    simp at hi
    omega

set_option maxHeartbeats 3200000 in
theorem bCopied_any (w : World) (X : List Nat) (v : Value) (ms : List Mg) (H : MsgsAt w X v ms) (hl : ms.length ≤ 1000) : Calls Try.prog 36 #[v] w (CopiedPost w ms) := by
  have hok := H.ok
  obtain ⟨a, c, rfl, hlc, hcm, hac, _, hcells⟩ := id H
  have HH := hid H
  have hsum := lsum_le ms (fun m hm => (hok m hm).fit)
  have HOK := hid hok
  have HAC := hid hac
  obtain ⟨i5, hi5, hz5, hz51, hz52⟩ := info_parts info5
  obtain ⟨i3, hi3, hz3, hz33, hz340⟩ := info_parts mtB.inf
  have LE := hid (lsum_take_le ms)
  clear hok H hcells hac
  go_enter Try.func36, Try.ntmps36
  go_wp2_with fail
  go_loopw [3, 14] (fun t i wr => ∃ k : Nat, k ≤ ms.length ∧ i = .int .i64 k ∧ t = .int .i64 (lsum (ms.take k) : Nat) ∧ Keeps [] w wr) (fun _ i _ => ms.length - (intOf i).toNat)
  case atStart => exact ⟨0, by omega, rfl, rfl, Keeps.refl _ _⟩
  case round =>
    obtain ⟨k, hk, rfl, rfl, kk⟩ := hrel
    have KK := hid kk
    by_cases hlt : k < ms.length
    · obtain ⟨g, off, ha, _, _, c0, c1, c2⟩ := (HH.out.keep kk).at k hlt
      subst ha
      have OK := hid (HOK.out ms[k] (List.getElem_mem _))
      have fit := OK.out.fit
      obtain ⟨ra, rc, hrow, _⟩ := OK.out.row
      rw [hrow] at c2
      have HS := hid (lsum_take_succ hlt)
      have hb := LE.out k
      clear kk hrow
      generalize ms[k].f = mf at c0
      generalize ms[k].t = mt at c1
      have HBL : Hid (lsum (ms.take (k + 1)) = lsum (ms.take k) + ms[k].bs.length) := HS
      generalize ms[k].bs.length = bl at *
      generalize lsum (ms.take k) = s at *
      go_wp2_with fail
      go_roundw
      case rel => exact ⟨k + 1, by omega, by go_num, by rw [HBL.out]; go_num, KK.out.alloc _⟩
      case measure => simp [intOf]; omega
    · obtain rfl : k = ms.length := by omega
      clear hlt kk
      rw [List.take_length]
      generalize hS : lsum ms = tot at *
      have HS := hid hS
      clear hS
      have hzw := KK.out.size
      go_wp2_with (refine wpList_make_own _ rfl _ _ 29 rfl w.heap.size 5 i5 _ 1 Try.underlying29 hi5 hz5 hz51 .i64 .i64 _ tot rfl rfl rfl (by rw [hz52]; omega) (by unfold maxLen; omega) hzw ?_)
      intro wA o1 g1
      have kA := hid (KK.out.grown g1 (by simp))
      have hzA := kA.out.size
      have OA := hid o1
      obtain ⟨g, hg⟩ : ∃ g, g = wr.heap.size := ⟨_, rfl⟩
      rw [← hg] at OA ⊢
      have hgw : w.heap.size ≤ g := by omega
      have gl := (OA.out.lt _ rfl).2
      clear hg o1 g1
      go_wp2_with (refine wpList_make_own _ rfl _ _ 39 rfl w.heap.size 33 i3 _ 3 Try.underlying39 hi3 hz3 hz33 .i64 .i64 _ ms.length rfl rfl rfl (by rw [hz340]; omega) (by unfold maxLen; omega) hzA ?_)
      intro wB o1 g1
      have kB := hid (kA.out.grown g1 (by simp))
      have OA2 := hid (OA.out.kept g1 (by simp [Value.ownBlock]))
      have OB := hid o1
      obtain ⟨h, hh⟩ : ∃ h, h = wA.heap.size := ⟨_, rfl⟩
      rw [← hh] at OB ⊢
      have NE : Hid (h ≠ g) := hid (by omega)
      have hhw : w.heap.size ≤ h := by omega
      clear hh gl hzA o1 g1
      go_wp2_with fail
      go_loopw [6, 7, 31] (fun al ou i wr => ∃ k : Nat, k ≤ ms.length ∧ i = .int .i64 k ∧ al = .slice (some ⟨g, 0, none⟩) (lsum (ms.take k)) tot ∧ ou = .slice (some ⟨h, 0, none⟩) k ms.length ∧
          wr.ownsRow w.heap.size 5 1 (.slice (some ⟨g, 0, none⟩) (lsum (ms.take k)) tot) (lsum (ms.take k)) ((allb (ms.take k)).map (Value.int .u8)) ∧
          wr.ownsRow w.heap.size 33 3 (.slice (some ⟨h, 0, none⟩) k ms.length) k (mcells (cutM g 0 (ms.take k))) ∧ Keeps [] w wr) (fun _ _ i _ => ms.length - (intOf i).toNat)
      case atStart => exact ⟨0, by omega, rfl, rfl, rfl, by simpa [allb, lsum] using OA2.out, by simpa [mcells, cutM] using OB.out, kB.out⟩
      case round =>
        obtain ⟨k, hk, rfl, rfl, rfl, qa, qo, kk⟩ := hrel
        have QA := hid qa
        have QO := hid qo
        have KK := hid kk
        clear qa qo
        by_cases hlt : k < ms.length
        · obtain ⟨g0, off, ha, _, _, c0, c1, c2⟩ := (HH.out.keep kk).at k hlt
          subst ha
          have OK := hid ((HOK.out ms[k] (List.getElem_mem _)).keep kk (by simp))
          have fit := OK.out.fit
          obtain ⟨ra, rc, hrow, _⟩ := OK.out.row
          have hrow' := hid hrow
          rw [hrow] at c2
          have HS2 := hid (lsum_take_succ hlt)
          have HTK := hid (List.take_succ_eq_append_getElem hlt)
          have hb := LE.out (k + 1)
          rw [HS2.out] at hb
          have hzr := KK.out.size
          clear kk hrow
          have hkl : (ms.take k).length = k := by rw [List.length_take]; omega
          obtain ⟨m, hm⟩ : ∃ m, m = ms[k] := ⟨_, rfl⟩
          rw [← hm] at c0 c1 c2 OK fit hrow' HS2 HTK hb
          obtain ⟨w1, w2, run1, b1, run2, o1, o2, kp⟩ := copied_round X OK.out hlt rfl hkl hb NE.out QA.out QO.out ra rc hrow'.out 29 39
          have R1 := hid run1
          have R2 := hid run2
          have O1 := hid o1
          have O2 := hid o2
          have KP : Hid (Keeps [] w w2) := hid (KK.out.trans' kp.toKeeps (by intro i hi hm; simp at hm; omega))
          have HM := hid hm
          obtain ⟨e0, e1, e2, f0, f1, f2⟩ := row_block3 b1
          obtain ⟨s, hs⟩ : ∃ s, s = lsum (ms.take k) := ⟨_, rfl⟩
          rw [← hs] at R1 R2 O1 HS2 hb ⊢
          obtain ⟨bl, hbl⟩ : ∃ bl, bl = m.bs.length := ⟨_, rfl⟩
          rw [← hbl] at R1 R2 O1 HS2 hb c2 fit
          have hcut := run_cut3 g (s + bl) tot s (s + bl) (by omega) (by omega)
          have hcut2 : ∀ W, (Instr.sliceAt 29 (.slice (some ⟨g, 0, none⟩) (s + bl) tot) (some (.int .i64 (s : Int))) (some (.int .i64 ((s + bl : Nat) : Int))) (some (.int .i64 ((s + bl : Nat) : Int)))).run Try.prog W = .ok (.slice (some ⟨g, if s + bl - s = 0 then 0 else s, none⟩) (s + bl - s) (s + bl - s)) W := fun W => by
            rw [run_sliceAt_slice W 29 _ _ _ _ bytes_elem]; exact hcut W
          rw [show s + bl - s = bl by omega] at hcut hcut2
          obtain ⟨nr, hnr⟩ : ∃ nr : Nat, nr = if bl = 0 then 0 else s := ⟨_, rfl⟩
          rw [← hnr] at hcut hcut2 R2
          have HNR := hid hnr
          have HC2 := hid hcut2
          have HSS := hid hs
          have HBL := hid hbl
          clear hm run1 run2 o1 o2 kp b1 hnr hs hbl hkl hcut hcut2
          go_wp2_with (first | (at_builtin; first | (refine wpList_is rfl _ _ (exec_appendT 29 _ _ rfl rfl rfl R1.out) ?_) | (refine wpList_is rfl _ _ (exec_appendT 39 _ _ rfl rfl rfl R2.out) ?_)) | (refine wpList_is rfl _ _ (exec_sliceR 29 _ _ _ _ rfl (HC2.out _)) ?_) | fail)
          go_roundw
          case rel =>
            refine ⟨k + 1, by omega, by go_num, ?_, rfl, ?_, ?_, KP.out⟩
            · rw [HS2.out]
            · rw [HS2.out, HTK.out]; exact O1.out
            · rw [HTK.out]; exact O2.out
          case measure => simp [intOf]; omega
        · obtain rfl : k = ms.length := by omega
          rw [List.take_length] at QA QO
          clear hlt kk
          go_wp2_with fail
          go_ret
          refine ⟨_, _, g, cutM g 0 ms, rfl, ⟨?_, ?_, ?_, ?_⟩, cutM_con g 0 ms, hgw, KK.out⟩
          · rw [cutM_length]; exact QO.out
          · refine cutM_ok 0 ms (fun m hm => ⟨(HOK.out m hm).fit, (HOK.out m hm).b0, (HOK.out m hm).b1, (HOK.out m hm).row.bytes⟩) (fun j u hu => ?_)
            have := QA.out.cells (g := g) rfl j u hu
            rw [Addr.add_lit] at this
            exact this
          · intro b hb hm
            simp [Value.ownBlock] at hb
            simp at hm
            exact NE.out (by omega)
          · intro b hb
            simp at hb
            subst hb
            exact (QA.out.lt _ rfl).2
end Go.Proofs.Ytkfebgbgnpdgpaa
