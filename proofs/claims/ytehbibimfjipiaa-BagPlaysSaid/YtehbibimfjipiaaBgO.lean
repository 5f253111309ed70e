/- bag: the walks of the reference's Drop and Same, and of the laws' model. -/
import Derived.Test.YtehbibimfjipiaaBgN
import Derived.Test.YtehbibimfjipiaaSame
namespace Go.Proofs.Ytehbibimfjipiaa
open Go.RowKit Go.Shelf
set_option maxRecDepth 100000

set_option maxHeartbeats 3200000 in
theorem rbDrop_any (w : World) (p : Nat) (X : List Nat) (v : Value) (most : Int) (ms : List Mg) (H : BagAt 48 38 w p X v most ms) (tt : Int) :
    Calls Try.prog 16 #[.pointer (some ⟨p, 0, none⟩), .int .i64 tt] w (DropPost7 48 38 w p X v most ms tt) := by
  have fits := H.fits
  have m2 := H.m2
  have LT := hid H.lt
  have HH := hid H
  have fle := hid (filter_le tt)
  obtain ⟨a0, cp, hv⟩ := H.own.shape
  subst hv
  clear H
  go_enter Try.func16, Try.ntmps16
  go_wp2_with fail
  go_loopw [5, 6] (fun l iv wr => ∃ (k : Nat) (a : Option Addr) (c : Nat), k ≤ ms.length ∧ iv = .int .i64 k ∧ l = .slice a ((ms.take k).filter (keepTo tt)).length c ∧ Own 38 wr w.heap.size X (.slice a ((ms.take k).filter (keepTo tt)).length c) ((ms.take k).filter (keepTo tt)) ∧ Keeps [] w wr) (fun _ iv _ => ms.length - (intOf iv).toNat)
  case atStart => exact ⟨0, none, 0, by omega, rfl, rfl, by simpa using (Own.nil 38 w w.heap.size).wide X HH.out.own.lt (Nat.le_refl _), Keeps.refl _ _⟩
  case round =>
    obtain ⟨k, a, c, hk, rfl, rfl, ho, kk⟩ := hrel
    have KK := hid kk
    have HO := hid ho
    have HR := hid (HH.out.later kk)
    have c1 := HR.out.c1
    by_cases hlt : k < ms.length
    · obtain ⟨g, off, ha, _, gl, d0, d1, d2⟩ := HR.out.own.at.at k hlt
      subst ha
      have OK := hid (HR.out.own.ok ms[k] (List.getElem_mem _))
      obtain ⟨ra, rc, hrow, _⟩ := OK.out.row
      rw [hrow] at d2
      have HROW := hid hrow
      have FS := hid (filter_snoc tt ms k hlt)
      have fl := fle.out (ms.take k)
      have tl : (ms.take k).length = k := by rw [List.length_take]; omega
      rw [tl] at fl
      clear kk ho hrow tl gl
      by_cases ht : ms[k].t = tt
      · have hb : (ms[k].t != tt) = false := by simpa using ht
        have hf : (ms.take (k + 1)).filter (keepTo tt) = (ms.take k).filter (keepTo tt) := by rw [FS.out, if_neg (by simp [keepTo, ht]), List.append_nil]
        have HF := hid hf
        clear ht hf
        go_wp2_with fail
        go_roundw
        case rel => exact ⟨k + 1, a, c, by omega, by go_num, by rw [HF.out], by rw [HF.out]; exact HO.out, KK.out⟩
        case measure => simp [intOf]; omega
      · have hb : (ms[k].t != tt) = true := by simpa using ht
        have hf : (ms.take (k + 1)).filter (keepTo tt) = (ms.take k).filter (keepTo tt) ++ [ms[k]] := by rw [FS.out, if_pos (by simp [keepTo, ht])]
        have HF := hid hf
        have ka := (Keeps.refl [] wr).alloc (.cells #[.int .i64 ms[k].f, .int .i64 ms[k].t, .slice ra ms[k].bs.length rc] 38)
        have o1 := one_msgs (E := 38) OK.out HROW.out
        obtain ⟨a2, c2, w2, hr2, o2, k2, n2⟩ := append_msgs mtR (HO.out.later ka) _ 1 1 o1 (by simp; omega) (by have := KK.out.size; have := ka.size; omega) 46
        have R2 := hid hr2
        have O2 := hid o2
        have K2 : Hid (Keeps [] w w2) := hid ((KK.out.trans ka).trans' k2 (fun j hj hm => by have := (HO.out.blk j (by simpa using hm)).1; omega))
        have hzk := KK.out.size
        clear ht hf ka o1 hr2 o2 k2 n2
        go_wp2_with (first | (refine wpList_is rfl _ _ (exec_load _ _ _ _ rfl rfl (loadR d0 d1 d2)) ?_) | (refine wpList_is rfl _ _ (exec_oneMg mtR _ _ _ _ _ _ rfl rfl) ?_) | (at_builtin; refine wpList_is rfl _ _ (exec_appendT 46 _ _ rfl rfl rfl R2.out) ?_) | fail)
        go_roundw
        case rel =>
          refine ⟨k + 1, a2, c2, by omega, by go_num, ?_, ?_, K2.out⟩
          · rw [HF.out, List.length_append]; rfl
          · rw [HF.out, List.length_append]; exact O2.out
        case measure => simp [intOf]; omega
    · obtain rfl : k = ms.length := by omega
      rw [List.take_length] at HO ⊢
      have fl := fle.out ms
      have cd := HR.out.c1
      have fd := HR.out.f1
      have R := hid (rbag_new HR.out KK.out LT.out HO.out (X' := X) (fun b hb => Or.inl hb) (by omega))
      clear kk ho hlt
      go_wp2_with fail
      go_ret
      exact ⟨rfl, X, _, R.out.1, R.out.2.1, R.out.2.2⟩
end Go.Proofs.Ytehbibimfjipiaa
