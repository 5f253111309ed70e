/- The code's tree: unhang, New. -/
import Derived.Test.YtnmiffkflnlanaaTrI
namespace Go.Proofs.Ytnmiffkflnlanaa
open Go.RowKit
set_option maxRecDepth 100000

def UnhangPost (w : World) (q : Nat) (X : Nat → Tg) (G : Nat → Nat) (K : Nat → List UInt8 → Nat) (c n : Nat) (e : Ending) (w' : World) : Prop :=
  e = .returned (.tuple #[]) ∧ MidIn w' q X G (updK K (X n).up (X n).nm 0) c ∧ Keeps [G (X n).up] w w'
theorem MidIn.pl {w : World} {q c : Nat} {X : Nat → Tg} {G : Nat → Nat} {K : Nat → List UInt8 → Nat} (M : MidIn w q X G K c) (n : Nat) (hn : n < 129) : w.rangeAt q (n * 4 + 1) (plC (X n).up (X n).nm) := fun j v hv => by
  have hj : j < 2 := (List.getElem?_eq_some_iff.1 hv).1
  have := M.cells n hn (1 + j) v (by
    match j, hj with
    | 0, _ => exact hv
    | 1, _ => exact hv)
  rw [show n * 4 + 1 + j = n * 4 + (1 + j) by omega]
  exact this

set_option maxHeartbeats 3200000 in
theorem unhang_mid (w : World) (q c : Nat) (X : Nat → Tg) (G : Nat → Nat) (K : Nat → List UInt8 → Nat) (M : MidIn w q X G K c) (n : Nat) (hn : n < 129) (hd : (X n).up < 129) (hdd : (X (X n).up).dir = true) (hs : (X n).nm.length ≤ maxLen) :
    Calls Try.prog 31 #[.pointer (some ⟨q, 0, none⟩), numN n] w (UnhangPost w q X G K c n) := by
  have lq := M.lt
  have PL := hid (M.pl n hn)
  unfold UnhangPost
  generalize (X n).up = d at hd hdd PL ⊢
  generalize (X n).nm = s at hs PL ⊢
  have HM := hid M
  have HS := hid hs
  have HDD := hid hdd
  clear M hs hdd
  have kA : Keeps [] w (w.alloc (.cells (plC d s).toArray 62)) := (Keeps.refl [] w).alloc _
  have gA := heap_alloc_new w (.cells (plC d s).toArray 62)
  have zA : (w.alloc (.cells (plC d s).toArray 62)).heap.size = w.heap.size + 1 := by simp
  have hni : ((n : Int) < 129) := by omega
  have hni0 : (0 : Int) ≤ n := by omega
  have hdi : ((d : Int) < 129) := by omega
  have hdi0 : (0 : Int) ≤ d := by omega
  go_enter Try.func31, Try.ntmps31
  go_wp2_with (first | (refine wpList_loadPl rfl _ rfl q (n * 4 + 1) rfl d s PL.out ?_) | (refine wpList_is rfl _ _ (exec_alloc 62 plZ iPlace rfl) ?_) | (refine wpList_noval rfl _ (exec_storeNew 62 _ _ rfl w plZ (plC d s).toArray rfl rfl rfl iPlace rfl (plC_one _ _)) ?_) | fail)
  generalize w.alloc (.cells (plC d s).toArray 62) = w2 at kA gA zA ⊢
  have KA := hid kA
  have G2 := hid gA
  have ZA := hid zA
  have M2 := hid (HM.out.keep kA (by simp))
  clear kA gA zA
  have hne := M2.out.ne d hd HDD.out
  have hlt2 : G d < w2.heap.size := (M2.out.map d hd HDD.out).lt
  refine wp_region_noPanic (wp_region_any (by kernel_rfl) (wpAny_of_held (S := KpS [G d] w2.heap.size w2.drew) _ _ _ _ ?_))
  change wpAnyH _ _ _ _ _ _ _ _ w2.drew
  have z2 : w.heap.size < w2.heap.size := by have := ZA.out; omega
  have hlt0 : G d < w.heap.size := (HM.out.map d hd HDD.out).lt
  have r0 : ∀ W1, KpS [G d] w2.heap.size w2.drew W1 → W1.cell? ⟨w.heap.size, 0, none⟩ = some (numN d) := fun W1 h => h.cell (by rw [World.cell?_drew, cell_of_row _ _ 0 _ _ (0, 0) G2.out]; rfl) z2 (by simp; omega)
  have r1 : ∀ W1, KpS [G d] w2.heap.size w2.drew W1 → W1.cell? ⟨w.heap.size, 1, none⟩ = some (bstr s) := fun W1 h => h.cell (by rw [World.cell?_drew, cell_of_row _ _ 1 _ _ (0, 0) G2.out]; rfl) z2 (by simp; omega)
  have r3 : ∀ W1, KpS [G d] w2.heap.size w2.drew W1 → W1.cell? ⟨q, d * 4 + 3, none⟩ = some (.map (some (G d))) := fun W1 h => h.cell (by rw [World.cell?_drew, M2.out.c3 d hd, if_pos HDD.out]) (M2.out.lt) (by simp; exact fun e => hne e.symm)
  refine held_take (i := 0) (v := .pointer (some ⟨q, 0, none⟩)) rfl (by kernel_rfl) (by kernel_rfl) (by kernel_rfl) (fun _ _ _ h => h) rfl (fun W1 hW1 => rfl) (KpS.refl _ _ _) ?_
  simp only [Act.put, List.setIfInBounds_toArray, List.set_cons_zero, List.set_cons_succ]
  refine held_take (i := 1) (v := .pointer (some ⟨w.heap.size, 0, none⟩)) rfl (by kernel_rfl) (by kernel_rfl) (by kernel_rfl) (fun _ _ _ h => h) rfl (fun W1 hW1 => by go_simp) (KpS.refl _ _ _) ?_
  simp only [Act.put, List.setIfInBounds_toArray, List.set_cons_zero, List.set_cons_succ]
  refine held_take (i := 2) (v := numN d) rfl (by kernel_rfl) (by kernel_rfl) (by kernel_rfl) (fun _ _ _ h => h) rfl (fun W1 hW1 => exec_load _ _ _ _ rfl rfl (run_loadCell W1 _ _ _ (r0 W1 hW1) (agg_no _ (by kernel_rfl)))) (KpS.refl _ _ _) ?_
  simp only [Act.put, List.setIfInBounds_toArray, List.set_cons_zero, List.set_cons_succ]
  refine held_take (i := 3) (v := .pointer (some ⟨q, 0, none⟩)) rfl (by kernel_rfl) (by kernel_rfl) (by kernel_rfl) (fun _ _ _ h => h) rfl (fun W1 hW1 => by go_simp) (KpS.refl _ _ _) ?_
  simp only [Act.put, List.setIfInBounds_toArray, List.set_cons_zero, List.set_cons_succ]
  refine held_take (i := 4) (v := .pointer (some ⟨q, 0, none⟩)) rfl (by kernel_rfl) (by kernel_rfl) (by kernel_rfl) (fun _ _ _ h => h) rfl (fun W1 hW1 => by go_simp) (KpS.refl _ _ _) ?_
  simp only [Act.put, List.setIfInBounds_toArray, List.set_cons_zero, List.set_cons_succ]
  refine held_take (i := 5) (v := .pointer (some ⟨q, d * 4, none⟩)) rfl (by kernel_rfl) (by kernel_rfl) (by kernel_rfl) (fun _ _ _ h => h) rfl (fun W1 hW1 => by go_simp) (KpS.refl _ _ _) ?_
  simp only [Act.put, List.setIfInBounds_toArray, List.set_cons_zero, List.set_cons_succ]
  refine held_take (i := 6) (v := .pointer (some ⟨q, d * 4 + 3, none⟩)) rfl (by kernel_rfl) (by kernel_rfl) (by kernel_rfl) (fun _ _ _ h => h) rfl (fun W1 hW1 => by go_simp) (KpS.refl _ _ _) ?_
  simp only [Act.put, List.setIfInBounds_toArray, List.set_cons_zero, List.set_cons_succ]
  refine held_take (i := 7) (v := .map (some (G d))) rfl (by kernel_rfl) (by kernel_rfl) (by kernel_rfl) (fun _ _ _ h => h) rfl (fun W1 hW1 => exec_load _ _ _ _ rfl rfl (run_loadCell W1 _ _ _ (r3 W1 hW1) (agg_no _ (by kernel_rfl)))) (KpS.refl _ _ _) ?_
  simp only [Act.put, List.setIfInBounds_toArray, List.set_cons_zero, List.set_cons_succ]
  refine held_take (i := 8) (v := .pointer (some ⟨w.heap.size, 1, none⟩)) rfl (by kernel_rfl) (by kernel_rfl) (by kernel_rfl) (fun _ _ _ h => h) rfl (fun W1 hW1 => by go_simp) (KpS.refl _ _ _) ?_
  simp only [Act.put, List.setIfInBounds_toArray, List.set_cons_zero, List.set_cons_succ]
  refine held_take (i := 9) (v := bstr s) rfl (by kernel_rfl) (by kernel_rfl) (by kernel_rfl) (fun _ _ _ h => h) rfl (fun W1 hW1 => exec_load _ _ _ _ rfl rfl (run_loadCell W1 _ _ _ (r1 W1 hW1) (agg_no _ (by kernel_rfl)))) (KpS.refl _ _ _) ?_
  simp only [Act.put, List.setIfInBounds_toArray, List.set_cons_zero, List.set_cons_succ]
  have MP := (M2.out.map d hd HDD.out).keep ((Keeps.refl [] w2).drew) (by simp)
  refine held_do (i := 10) (by kernel_rfl) rfl rfl (wp_mdropT _ _ rfl (G d) c (K d) MP rfl s HS.out rfl ?_)
  intro w3 m3 k3
  refine ⟨(KpS.refl _ _ _).keeps k3.out (Nat.le_refl _) (fun i hi _ => hi), ?_⟩
  refine wpAnyH_done (by kernel_rfl) (NoPanic.normal ?_) _
  have K3' : Keeps [G d] w2 w3 := ⟨k3.out.os, k3.out.tape, k3.out.output, k3.out.size, k3.out.block⟩
  have m4 := M2.out.mapped (Nat.le_refl c) d hd HDD.out K3' m3.out
  have k4 : Keeps [G d] w w3 := (KA.out.mono (by simp)).trans K3'
  have M4 := hid m4
  have K4 := hid k4
  clear m4 k4 K3' MP r0 r1 r3 m3 k3
  go_wp2_with fail
  go_end0
  exact ⟨rfl, M4.out, K4.out⟩

/-! New. -/
theorem flat4_at {f : Nat → List Value} (hf : ∀ n, (f n).length = 4) : ∀ (l : List Nat) (i : Nat) (h : i < l.length) (j : Nat), j < 4 → (l.flatMap f)[i * 4 + j]? = (f l[i])[j]?
  | x :: l, 0, _, j, hj => by
    rw [List.flatMap_cons, List.getElem?_append_left (by rw [hf]; omega)]
    simp
  | x :: l, i + 1, h, j, hj => by
    rw [List.flatMap_cons, List.getElem?_append_right (by rw [hf]; omega), hf, show (i + 1) * 4 + j - 4 = i * 4 + j by omega, flat4_at hf l i (by simpa using h) j hj]
    simp
def zTree : Array Value := ((List.range 129).flatMap fun _ => tgC tg0 0).toArray
theorem build_tree (w : World) : (Instr.build 68 #[]).run Try.prog w = .ok (.agg zTree) w := by kernel_rfl
theorem wpList_buildTree {ops : Array Oper} {rest : List Oper} {o : Oper} {a : Act} {w : World} {Q : Exit → Act → World → Prop} (hgd : o.guard = none) (ho : o.op = .build 68 #[])
    (hk : wpList Try.prog ops Q rest (a.put o.dst (.agg zTree)) w) : wpList Try.prog ops Q (o :: rest) a w := by
  refine wpList_is hgd _ _ ?_ hk
  have := build_tree w
  simp only [execOp, ho, List.map_toArray, List.map_nil, Sem.run_bind, this, Result.andThen_ok, Sem.run_pure]
theorem MidIn.blank {w : World} {q : Nat} (h : w.heap[q]? = some (.cells zTree 68 (0, 0))) (G : Nat → Nat) (K : Nat → List UInt8 → Nat) : MidIn w q (fun _ => tg0) G K 0 := by
  refine ⟨lt_of_block h, fun i => by simp [World.frozen?, h], fun n hn j v hv => ?_, fun n hn hd => by simp [tg0] at hd, fun n m _ _ hd => by simp [tg0] at hd, fun n _ hd => by simp [tg0] at hd⟩
  have hj : j < 4 := (List.getElem?_eq_some_iff.1 hv).1
  rw [cell_of_row _ _ (n * 4 + j) _ _ (0, 0) h]
  have := flat4_at (f := fun _ => tgC tg0 0) (fun _ => rfl) (List.range 129) n (by simpa using hn) j hj
  unfold zTree
  rw [List.getElem?_toArray, this]
  rw [tgV_false tg0 (G n) 0 rfl] at hv
  exact hv
theorem xT_nil (n : Nat) : xT [] n = if n = 1 then tgN true else tg0 := by
  unfold xT hasT isDirT upT nmT tgN tg0 findT
  by_cases h : n = 1 <;> simp [h]

/-- A new tree. -/
def NewTreePost (w : World) (e : Ending) (w' : World) : Prop :=
  e = .returned (.pointer (some ⟨w.heap.size, 0, none⟩)) ∧ ∃ F, TreeAt w' w.heap.size [] F 0 ∧ Keeps [] w w' ∧ ∀ b ∈ F, w.heap.size ≤ b
set_option maxHeartbeats 3200000 in
theorem newTree_any (w : World) : Calls Try.prog 9 #[] w (NewTreePost w) := by
  have kA : Keeps [] w (w.alloc (.cells zTree 68)) := (Keeps.refl [] w).alloc _
  have gA := heap_alloc_new w (.cells zTree 68)
  have zA : (w.alloc (.cells zTree 68)).heap.size = w.heap.size + 1 := by simp
  go_enter Try.func9, Try.ntmps9
  go_wp2_with (first | (refine wpList_buildTree rfl rfl ?_) | (refine wpList_is rfl _ _ (exec_box 68 _ zTree rfl rfl) ?_) | fail)
  generalize w.alloc (.cells zTree 68) = w1 at kA gA zA ⊢
  have KA := hid kA
  have M1 := hid (MidIn.blank gA (fun _ => 0) fun _ _ => 0)
  have ZA := hid zA
  clear kA gA zA
  refine wp_region_noPanic (wp_region_any (by kernel_rfl) (wpAny_of_held (S := KpS [w.heap.size] w1.heap.size w1.drew) _ _ _ _ ?_))
  change wpAnyH _ _ _ _ _ _ _ _ w1.drew
  refine held_take (i := 0) (v := .pointer (some ⟨w.heap.size, 0, none⟩)) rfl (by kernel_rfl) (by kernel_rfl) (by kernel_rfl) (fun _ _ _ h => h) rfl (fun W1 hW1 => rfl) (KpS.refl _ _ _) ?_
  simp only [Act.put, List.setIfInBounds_toArray, List.set_cons_zero, List.set_cons_succ]
  refine held_take (i := 2) (v := .pointer (some ⟨w.heap.size, 0, none⟩)) rfl (by kernel_rfl) (by kernel_rfl) (by kernel_rfl) (fun _ _ _ h => h) rfl (fun W1 hW1 => by go_simp) (KpS.refl _ _ _) ?_
  simp only [Act.put, List.setIfInBounds_toArray, List.set_cons_zero, List.set_cons_succ]
  refine held_take (i := 3) (v := .pointer (some ⟨w.heap.size, 0, none⟩)) rfl (by kernel_rfl) (by kernel_rfl) (by kernel_rfl) (fun _ _ _ h => h) rfl (fun W1 hW1 => by go_simp) (KpS.refl _ _ _) ?_
  simp only [Act.put, List.setIfInBounds_toArray, List.set_cons_zero, List.set_cons_succ]
  refine held_do (i := 1) (by kernel_rfl) rfl rfl (wp_enter (f := 27) (args := #[.bool true]) (by go_simp) (newThing_any w1.drew true) ?_)
  rintro e w2 ⟨g, rfl, k2, hg⟩
  obtain ⟨hg1, mg⟩ := hg rfl
  refine ⟨_, rfl, (KpS.refl _ _ _).keeps k2 (Nat.le_refl _) (by simp), ?_⟩
  simp only [Act.put, List.setIfInBounds_toArray, List.set_cons_zero, List.set_cons_succ]
  refine held_take (i := 4) (v := .pointer (some ⟨w.heap.size, 1 * 4, none⟩)) rfl (by kernel_rfl) (by kernel_rfl) (by kernel_rfl) (fun _ _ _ h => h) rfl (fun W1 hW1 => by go_simp) ((KpS.refl _ _ _).keeps k2 (Nat.le_refl _) (by simp)) ?_
  simp only [Act.put, List.setIfInBounds_toArray, List.set_cons_zero, List.set_cons_succ]
  have hM2 := (M1.out.keep ((Keeps.refl [] w1).drew) (by simp)).keep k2 (by simp)
  refine held_do (i := 5) (by kernel_rfl) rfl rfl (wp_store_mid 65 _ _ rfl w.heap.size (1 * 4) (tgC (tgN true) g).toArray rfl rfl (hM2.there 1 (by omega) 0 4 (by omega)) (spTg _ _) (tgC_one _ _) ?_)
  have hg1' : w1.heap.size ≤ g := hg1
  have hz := ZA.out
  obtain ⟨m3, k3⟩ := hM2.thing 1 (by omega) (tgN true) g (fun _ => 0) (fun _ => ⟨mg, fun m _ _ hd => by simp [tg0] at hd, by omega⟩)
  refine ⟨((KpS.refl _ _ _).keeps k2 (Nat.le_refl _) (by simp)).keeps k3 k2.size (fun i hi _ => hi), ?_⟩
  refine wpAnyH_done (by kernel_rfl) (NoPanic.normal ?_) _
  have e3 : w2.setCells w.heap.size (1 * 4) (tgC (tgN true) g).toArray.toList = w2.setCells w.heap.size (1 * 4) (tgC (tgN true) g) := rfl
  rw [e3]
  generalize w2.setCells w.heap.size (1 * 4) (tgC (tgN true) g) = w3 at m3 k3 ⊢
  have K3 := hid (((KA.out.drew).trans k2).trans' k3 (fun i hi hm => by simp at hm; omega))
  have M3 : Hid (MidIn w3 w.heap.size (xT []) (fun m => if m = 1 then g else 0) (kidT []) 0) := hid (m3.congr (fun n _ => xT_nil n) (fun n hn hd => by
    by_cases e : n = 1
    · rw [if_pos e]; rfl
    · rw [updX_ne _ _ e] at hd; simp [tg0] at hd))
  clear m3 k3 k2 mg hg hM2 e3
  go_wp2_with fail
  go_ret
  refine ⟨rfl, _, ⟨_, ⟨InvT.nil, M3.out⟩, rfl⟩, K3.out, fun b hb => ?_⟩
  rcases mem_footT.1 hb with rfl | ⟨n, hn, hd, rfl⟩
  · exact Nat.le_refl _
  · have e : n = 1 := by
      by_cases e : n = 1
      · exact e
      · rw [xT_nil, if_neg e] at hd; simp [tg0] at hd
    subst e
    simp
    omega
end Go.Proofs.Ytnmiffkflnlanaa
