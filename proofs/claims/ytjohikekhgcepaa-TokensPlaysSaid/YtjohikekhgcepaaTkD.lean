/- tokens: slices.DeleteFunc over rows of the call's own. -/
import Derived.Test.YtjohikekhgcepaaTkC
namespace Go.Proofs.Ytjohikekhgcepaa
open Go.RowKit Go.Shelf
set_option maxRecDepth 100000
set_option linter.unusedSimpArgs false

def DelPostK (p : Rk → Bool) (w : World) (M : List Nat) (B : Nat) (v : Value) (ms : List Rk) (e : Ending) (w' : World) : Prop :=
  ∃ a c, e = .returned (.slice a (ms.filter (keepK p)).length c) ∧ OwnK w' B 59 M (.slice a (ms.filter (keepK p)).length c) (ms.filter (keepK p)) ∧ Keeps v.ownBlock.toList w w'
set_option maxHeartbeats 6400000 in
theorem delF_any {w0 : World} {f : Nat} {bs cb : Array Value} {p : Rk → Bool} (C : Cb w0 f bs cb p) (w : World) (M : List Nat) (B : Nat) (v : Value) (ms : List Rk) (h : OwnK w B 59 M v ms) (hl : ms.length ≤ 1000) (kw : Keeps [] w0 w) (hB0 : w0.heap.size ≤ B) :
    Calls Try.prog 136 #[v, .func (.func f) bs cb] w (DelPostK p w M B v ms) := by
  have HH := hid h
  have CC := hid C
  have eg := C.eg
  have KW := hid kw
  have HB0 := hid hB0
  have I := hid (idx_any (C.later kw) h.at (by omega))
  obtain ⟨a, c, rfl⟩ := h.shape
  clear h C kw hB0
  obtain ⟨ix, hix⟩ : ∃ i, i = idxK p ms := ⟨_, rfl⟩
  rw [← hix] at I
  have HIX := hid hix
  clear hix
  go_enter Try.func136, Try.ntmps136
  go_wp2_with fail
  refine I.out.mono ?_
  rintro e w1 ⟨rfl, k1⟩
  have K1 := hid k1
  have H1 := hid (HH.out.later k1)
  rcases idxK_cases p ms with ⟨hi, hno⟩ | ⟨k, hk, hi, htk, hno⟩
  rotate_left
  · have hxk := HIX.out.trans hi
    subst hxk
    obtain ⟨g, cap, cur, hv, hBg, hgb, hnc, hcm, hcs, htake⟩ : ∃ g cap cur, (Value.slice a ms.length c) = .slice (some ⟨g, 0, none⟩) ms.length cap ∧ B ≤ g ∧ w1.heap[g]? = some (.cells cur 59 (0, 0)) ∧ ms.length ≤ cap ∧ cap ≤ maxLen ∧ cur.size = cap * 4 ∧ cur.toList.take (ms.length * 4) = rkcells ms := by
      rcases H1.out.row.2 with ⟨_, h0⟩ | h
      · omega
      · exact h
    injection hv with e1 _ e3
    subst e1; subst e3
    have hnf : (ms.take k).filter (keepK p) = ms.take k := filterK_none (fun x hx => by
      obtain ⟨j, hj, rfl⟩ := List.mem_iff_getElem.1 hx
      rw [List.length_take] at hj
      rw [List.getElem_take]
      exact hno j (by omega) (by omega))
    have D0 : Hid (DelAtK p w w1 g c ms k (k + 1)) := hid ⟨by rw [filterK_snoc p ms k hk, if_neg (by simp [keepK, htk]), List.append_nil, hnf, List.length_take]; omega, ⟨cur, hgb, hcs, by
        rw [filterK_snoc p ms k hk, if_neg (by simp [keepK, htk]), List.append_nil, hnf, rkcells_take, ← htake, List.take_take]
        congr 1
        omega, by
        rw [rkcells_drop, ← htake, List.drop_take]
        congr 1
        omega⟩, k1.mono (by simp)⟩
    have hkl : k < 1000 := by omega
    have HNC := hid hnc
    have HBG := hid hBg
    clear htake hcs hgb hno hnf k1 htk hi
    go_wp2_with fail
    go_loopw [5, 6] (fun iv jv wr => ∃ i j : Nat, iv = .int .i64 i ∧ jv = .int .i64 j ∧ i < j ∧ j ≤ ms.length ∧ DelAtK p w wr g c ms i j) (fun _ jv _ => ms.length - (intOf jv).toNat)
    case atStart => exact ⟨k, k + 1, rfl, by go_num, by omega, by omega, D0.out⟩
    case round =>
      obtain ⟨i, j, rfl, rfl, hij, hjl, hd⟩ := hrel
      have HD := hid hd
      by_cases hlt : j < ms.length
      · have HA : Hid (i + 1 < j + 1 ∧ j + 1 ≤ ms.length) := hid ⟨by omega, by omega⟩
        have R := hid (hd.range hlt)
        have ka : Keeps [] wr (wr.alloc (.cells ms[j].cells.toArray 59)) := (Keeps.refl [] wr).alloc _
        have RA := hid (rkrange_new wr ms[j].cells 59)
        obtain ⟨y, hy⟩ : ∃ y, y = ms[j] := ⟨_, rfl⟩
        have HY := hid hy
        rw [← hy] at R ka RA
        have KA := hid ka
        clear hd ka hy
        have hcall := CC.out.call (wr.alloc (.cells y.cells.toArray 59)) ((KW.out.trans' HD.out.keep (fun b hb hm => by have := HB0.out; have := HBG.out; simp at hm; omega)).alloc _) y
        go_wp2_with (first | (refine wpList_loadRk cRk rfl _ rfl g (0 + j * 4) (by simp [Act.eval]) y R.out ?_) | (refine wpList_allocRk cRk rfl rfl ?_) | (refine wpList_newRk cRk rfl wr _ _ rfl rfl rfl y rfl ?_) | (refine wpList_loadRk cRk rfl _ rfl wr.heap.size 0 rfl y RA.out ?_) | (go_at_fn f; refine Hid.out ?_) | fail)
        refine hid ?_
        refine hcall.mono ?_
        rintro e w2 ⟨rfl, k2⟩
        have K2 := hid (KA.out.trans k2)
        have R2 := hid (rkrange_keep RA.out k2 (by simp))
        clear k2 hcall
        cases hz : p y with
        | true =>
          have S := hid (HD.out.skip hlt (by rw [← HY.out]; exact hz) K2.out)
          clear hz
          go_wp2_with fail
          go_roundw
          case rel =>
            repeat apply Exists.intro
            refine And.intro ?_ rfl
            exact ⟨i, j + 1, rfl, by go_num, by omega, by omega, S.out⟩
          case measure => simp [intOf]; omega
        | false =>
          obtain ⟨cur2, hb2, hs2, _⟩ := HD.out.blk
          have HB2 := hid ((K2.out.block _ (lt_of_block hb2) (by simp)).trans hb2)
          have HBW := hid hb2
          have HS2 := hid hs2
          have HT := hid hz
          have hcb := HNC.out
          clear hz hb2 hs2
          go_wp2_with (first | (refine wpList_loadRk cRk rfl _ rfl wr.heap.size 0 rfl y R2.out ?_) | (refine wpList_storeRkAt rfl _ _ rfl g (i * 4) (by simp [Act.eval]) cur2 HB2.out (by have := HS2.out; omega) y rfl ?_; intro w3 s1 s2) | fail)
          have P := hid (HD.out.put hij hlt (by rw [← HY.out]; exact HT.out) HBW.out (w1 := w3) (by rw [← HY.out]; exact s1.out) HNC.out ((K2.out.mono (by simp)).trans s2.out))
          go_roundw
          case rel =>
            repeat apply Exists.intro
            refine And.intro ?_ rfl
            exact ⟨i + 1, j + 1, by go_num, by go_num, HA.out.1, HA.out.2, P.out⟩
          case measure => simp [intOf]; omega
      · obtain rfl : j = ms.length := by omega
        obtain ⟨cur2, hb2, hs2, hp2, _⟩ := hd.blk
        have hcnt := hd.cnt
        rw [List.take_length] at hcnt hp2
        have HB2 := hid hb2
        have HS2 := hid hs2
        have HP2 := hid hp2
        have HCN := hid hcnt
        have hcb := HNC.out
        have SL := hid (rks_lo g ms.length c i (by omega) (by omega))
        have SH := hid (rks_hi (some ⟨g, 0, none⟩) ms.length c i (by omega))
        clear hd hb2 hs2 hp2 hcnt hlt
        go_wp2_with (first | (refine wpList_is rfl _ _ (exec_sliceR 67 _ _ _ _ rfl (SL.out _)) ?_) | (refine wpList_is rfl _ _ (exec_sliceR 67 _ _ _ _ rfl (SH.out _)) ?_) | (refine wpList_clearRk rfl _ rfl g (i * 4) (ms.length - i) (c - i) (by omega) rfl cur2 HB2.out (by have := HS2.out; omega) ?_; intro w3 cs s1 s2) | fail)
        go_ret
        have hl2 : (ms.filter (keepK p)).length = i := HCN.out.symm
        obtain ⟨b3, z3, t3⟩ := s1.out
        have kk : Keeps [g] w w3 := HD.out.keep.trans s2.out
        exact ⟨_, _, by rw [hl2]; rfl, ⟨⟨rkcells_length _, .inr ⟨g, c, cs, by rw [hl2], hBg, b3, by omega, hcm, by rw [z3]; exact HS2.out, by rw [hl2, t3]; exact HP2.out⟩⟩, HH.out.lt⟩, kk⟩
  · have hxk := HIX.out.trans hi
    subst hxk
    have hne : ((-1 : Int) == -1) = true := rfl
    have hf := filterK_none hno
    have HF := hid hf
    clear hf hno k1 hi
    go_wp2_with fail
    go_ret
    exact ⟨a, c, by rw [HF.out]; rfl, by rw [HF.out]; exact H1.out, K1.out.mono (by simp)⟩

end Go.Proofs.Ytjohikekhgcepaa
