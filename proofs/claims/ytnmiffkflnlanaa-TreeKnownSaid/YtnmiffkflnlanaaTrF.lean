/- The code's tree: mayHang, spot. -/
import Derived.Test.YtnmiffkflnlanaaTrE
namespace Go.Proofs.Ytnmiffkflnlanaa
open Go.RowKit
set_option maxRecDepth 100000

/-- Why nothing can be put at a place. -/
def hangX (X : Nat → Tg) (K : Nat → List UInt8 → Nat) (d : Nat) (s : List UInt8) : Int := if hasX X d = true then (if (X d).dir = true then (if K d s = 0 then 0 else 7) else 10) else 6
set_option maxHeartbeats 3200000 in
theorem mayHang_mid (w : World) (q c : Nat) (X : Nat → Tg) (G : Nat → Nat) (K : Nat → List UInt8 → Nat) (M : MidIn w q X G K c) (h1 : (X 1).there = true) (d : Nat) (s : List UInt8) (hs : s.length ≤ maxLen) :
    Calls Try.prog 52 #[.pointer (some ⟨q, 0, none⟩), plV d s] w fun e w' => e = .returned (.int .i64 (hangX X K d s)) ∧ Keeps [] w w' := by
  have HM := hid M
  have lq := M.lt
  have H1 := hid h1
  clear M h1
  obtain ⟨r, hr⟩ : ∃ r, r = hangX X K d s := ⟨_, rfl⟩
  rw [← hr]
  have HR := hid hr
  clear hr
  have kA : Keeps [] w (w.alloc (.cells (plC d s).toArray 62)) := (Keeps.refl [] w).alloc _
  have gA := heap_alloc_new w (.cells (plC d s).toArray 62)
  go_enter Try.func52, Try.ntmps52
  have pc0 : (w.alloc (.cells (plC d s).toArray 62)).cell? ⟨w.heap.size, 0, none⟩ = some (numN d) := by rw [cell_of_row _ _ 0 _ _ (0, 0) gA]; rfl
  have pc1 : (w.alloc (.cells (plC d s).toArray 62)).cell? ⟨w.heap.size, 1, none⟩ = some (bstr s) := by rw [cell_of_row _ _ 1 _ _ (0, 0) gA]; rfl
  have zA : (w.alloc (.cells (plC d s).toArray 62)).heap.size = w.heap.size + 1 := by simp
  have KA := hid kA
  have GA := hid gA
  have ZA := hid zA
  have P1 := hid pc1
  have HM1 := hid (HM.out.keep kA (by simp))
  clear kA gA zA pc1
  go_wp2_with (first | (refine wpList_boxPl rfl _ rfl d s rfl ?_) | fail)
  generalize w.alloc (.cells (plC d s).toArray 62) = w1 at KA GA ZA P1 HM1 pc0 ⊢
  go_wp2_with fail
  refine (has_mid w1 q c X G K HM1.out H1.out d).mono ?_
  rintro e w' ⟨rfl, rfl⟩
  cases hb : hasX X d with
  | false =>
    have HB := hid hb
    clear hb
    go_wp2_with fail
    go_ret
    refine ⟨?_, KA.out⟩
    rw [HR.out, hangX, HB.out]
    rfl
  | true =>
    have hd2 : d ≤ 128 := by unfold hasX at hb; simp at hb; omega
    have HB := hid hb
    clear hb
    have hni : ((d : Int) < 129) := by omega
    have hni0 : (0 : Int) ≤ d := by omega
    go_wp2_with fail
    refine wp_region_noPanic (wp_region_any (by kernel_rfl) (wpAny_of_held (S := KpS [] w1.heap.size w1.drew) _ _ _ _ ?_))
    change wpAnyH _ _ _ _ _ _ _ _ w1.drew
    have cP : ∀ W1, KpS [] w1.heap.size w1.drew W1 → W1.cell? ⟨w.heap.size, 0, none⟩ = some (numN d) := fun W1 h => h.cell (by rw [World.cell?_drew]; exact pc0) (by have := ZA.out; omega) (by simp)
    have cT : ∀ W1, KpS [] w1.heap.size w1.drew W1 → W1.rangeAt q (d * 4) (tgC (X d) (G d)) := fun W1 h j v hv => h.cell (by rw [World.cell?_drew]; exact HM1.out.cells d (by omega) j v hv) (HM1.out.lt) (by simp)
    refine held_take (i := 0) (v := .pointer (some ⟨q, 0, none⟩)) rfl (by kernel_rfl) (by kernel_rfl) (by kernel_rfl) (fun _ _ _ h => h) rfl (fun W1 hW1 => rfl) (KpS.refl _ _ _) ?_
    simp only [Act.put, List.setIfInBounds_toArray, List.set_cons_zero, List.set_cons_succ]
    refine held_take (i := 1) (v := .pointer (some ⟨w.heap.size, 0, none⟩)) rfl (by kernel_rfl) (by kernel_rfl) (by kernel_rfl) (fun _ _ _ h => h) rfl (fun W1 hW1 => by go_simp) (KpS.refl _ _ _) ?_
    simp only [Act.put, List.setIfInBounds_toArray, List.set_cons_zero, List.set_cons_succ]
    refine held_take (i := 2) (v := numN d) rfl (by kernel_rfl) (by kernel_rfl) (by kernel_rfl) (fun _ _ _ h => h) rfl (fun W1 hW1 => exec_load _ _ _ _ rfl rfl (run_loadCell W1 _ _ _ (cP W1 hW1) (agg_no _ (by kernel_rfl)))) (KpS.refl _ _ _) ?_
    simp only [Act.put, List.setIfInBounds_toArray, List.set_cons_zero, List.set_cons_succ]
    refine held_take (i := 3) (v := .pointer (some ⟨q, 0, none⟩)) rfl (by kernel_rfl) (by kernel_rfl) (by kernel_rfl) (fun _ _ _ h => h) rfl (fun W1 hW1 => by go_simp) (KpS.refl _ _ _) ?_
    simp only [Act.put, List.setIfInBounds_toArray, List.set_cons_zero, List.set_cons_succ]
    refine held_take (i := 4) (v := .pointer (some ⟨q, 0, none⟩)) rfl (by kernel_rfl) (by kernel_rfl) (by kernel_rfl) (fun _ _ _ h => h) rfl (fun W1 hW1 => by go_simp) (KpS.refl _ _ _) ?_
    simp only [Act.put, List.setIfInBounds_toArray, List.set_cons_zero, List.set_cons_succ]
    refine held_take (i := 5) (v := .pointer (some ⟨q, d * 4, none⟩)) rfl (by kernel_rfl) (by kernel_rfl) (by kernel_rfl) (fun _ _ _ h => h) rfl (fun W1 hW1 => by go_simp) (KpS.refl _ _ _) ?_
    simp only [Act.put, List.setIfInBounds_toArray, List.set_cons_zero, List.set_cons_succ]
    refine held_take (i := 6) (v := tgV (X d) (G d)) rfl (by kernel_rfl) (by kernel_rfl) (by kernel_rfl) (fun _ _ _ h => h) rfl (fun W1 hW1 => exec_load _ _ _ _ rfl rfl (loadTg_run W1 _ _ _ _ (cT W1 hW1))) (KpS.refl _ _ _) ?_
    simp only [Act.put, List.setIfInBounds_toArray, List.set_cons_zero, List.set_cons_succ]
    refine held_do (i := 7) (by kernel_rfl) rfl rfl (wp_value (exec_alloc 65 _ iThing rfl) ?_)
    refine ⟨(KpS.refl _ _ _).alloc (by simp) _, ?_⟩
    simp only [Act.put, List.setIfInBounds_toArray, List.set_cons_zero, List.set_cons_succ]
    refine held_do (i := 8) (by kernel_rfl) rfl rfl (wp_stored (exec_storeNew 65 _ _ rfl w1.drew _ (tgC (X d) (G d)).toArray rfl rfl rfl iThing rfl (tgC_one _ _)) ?_)
    refine ⟨(KpS.refl _ _ _).alloc (by simp) _, ?_⟩
    refine wpAnyH_done (by kernel_rfl) (NoPanic.normal ?_) _
    have k2 : Keeps [] w1 (w1.drew.alloc (.cells (tgC (X d) (G d)).toArray 65)) := ((Keeps.refl [] w1).drew).alloc _
    have g2 := heap_alloc_new w1.drew (.cells (tgC (X d) (G d)).toArray 65)
    generalize w1.drew.alloc (.cells (tgC (X d) (G d)).toArray 65) = w2 at k2 g2 ⊢
    have hz2 : w1.drew.heap.size = w1.heap.size := rfl
    rw [hz2] at g2 ⊢
    have r2 : w2.rangeAt w1.heap.size 0 (tgC (X d) (G d)) := fun j v hv => by rw [Nat.zero_add, cell_of_row _ _ j _ _ (0, 0) g2]; simpa using hv
    have c3 := r2 3 _ rfl
    have R2 := hid r2
    have K2 := hid k2
    have P1' := P1.out
    have p2 := k2.cell' P1' (by simp)
    have HM2 := hid (HM1.out.keep k2 (by simp))
    clear cP cT k2 g2 r2 P1' hz2
    have C3 := hid c3
    have P2 := hid p2
    clear c3 p2
    go_wp2_with (first | (refine wpList_loadTg rfl _ rfl w1.heap.size 0 rfl (X d) (G d) R2.out ?_) | fail)
    refine (isDir_any10 _ (X d) (G d)).mono ?_
    rintro e w3 ⟨rfl, k3⟩
    have K3 := hid ((KA.out.trans K2.out).trans k3)
    have HM3 := hid (HM2.out.keep k3 (by simp))
    have c3 := k3.cell' C3.out (by simp)
    have p3 := k3.cell' P2.out (by simp)
    simp only [Nat.zero_add] at c3
    clear k3
    cases hd : (X d).dir with
    | false =>
      have HD := hid hd
      clear hd
      go_wp2_with fail
      go_ret
      refine ⟨?_, K3.out⟩
      rw [HR.out, hangX, if_pos HB.out, HD.out]
      rfl
    | true =>
      have HMp := hid (HM3.out.map d (by omega) hd)
      rw [hd] at c3
      simp only [if_true] at c3
      have HD := hid hd
      clear hd
      by_cases hz : K d s = 0
      · have hz' : (K d s != 0) = false := by simp [hz]
        have HZ := hid hz
        clear hz
        go_wp2_with (first | (refine wpList_lookT rfl _ _ rfl (G d) c (K d) HMp.out rfl s hs rfl ?_) | fail)
        go_ret
        refine ⟨?_, K3.out⟩
        rw [HR.out, hangX, if_pos HB.out, if_pos HD.out, if_pos HZ.out]
        rfl
      · have hz' : (K d s != 0) = true := by simp [hz]
        have HZ := hid hz
        clear hz
        go_wp2_with (first | (refine wpList_lookT rfl _ _ rfl (G d) c (K d) HMp.out rfl s hs rfl ?_) | fail)
        go_ret
        refine ⟨?_, K3.out⟩
        rw [HR.out, hangX, if_pos HB.out, if_pos HD.out, if_neg HZ.out]
        rfl
end Go.Proofs.Ytnmiffkflnlanaa
