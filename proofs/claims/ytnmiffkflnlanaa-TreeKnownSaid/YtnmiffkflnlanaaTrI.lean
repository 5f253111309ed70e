/- The code's tree: hang, unhang. -/
import Derived.Test.YtnmiffkflnlanaaTrH
namespace Go.Proofs.Ytnmiffkflnlanaa
open Go.RowKit
set_option maxRecDepth 100000

def updX (X : Nat → Tg) (n : Nat) (x : Tg) : Nat → Tg := fun m => if m = n then x else X m
def updK (K : Nat → List UInt8 → Nat) (d : Nat) (s : List UInt8) (v : Nat) : Nat → List UInt8 → Nat := fun m => if m = d then updS (K d) s v else K m
theorem updX_same (X : Nat → Tg) (n : Nat) (x : Tg) : updX X n x n = x := by simp [updX]
theorem updX_ne (X : Nat → Tg) {n m : Nat} (x : Tg) (h : m ≠ n) : updX X n x m = X m := by simp [updX, h]
def Tg.at_ (x : Tg) (d : Nat) (s : List UInt8) : Tg := { x with up := d, nm := s }

section
variable {w w' : World} {q c : Nat} {X : Nat → Tg} {G : Nat → Nat} {K : Nat → List UInt8 → Nat}
/-- A thing's place written. -/
theorem MidIn.place (h : MidIn w q X G K c) (n : Nat) (hn : n < 129) (d : Nat) (s : List UInt8) :
    MidIn (w.setCells q (n * 4 + 1) (plC d s)) q (updX X n ((X n).at_ d s)) G K c ∧ Keeps [q] w (w.setCells q (n * 4 + 1) (plC d s)) := by
  refine h.set n hn 1 (plC d s) (by show 1 + 2 ≤ 4; omega) (fun m hm => updX_ne X _ hm) (fun _ _ _ _ => rfl) (fun _ _ _ _ => rfl) ?_ ?_
  · intro j v hv
    rw [updX_same] at hv
    have hj : j < 4 := (List.getElem?_eq_some_iff.1 hv).1
    have hl : (plC d s).length = 2 := rfl
    rw [hl]
    match j, hj with
    | 0, _ => exact ⟨fun a => by omega, fun _ => hv⟩
    | 1, _ => exact ⟨fun _ => hv, fun a => by omega⟩
    | 2, _ => exact ⟨fun _ => hv, fun a => by omega⟩
    | 3, _ => exact ⟨fun a => by omega, fun _ => hv⟩
  · intro hd
    rw [updX_same] at hd
    exact ⟨h.map n hn hd, fun m hm hmn hdm e => hmn (h.inj m n hm hn hdm hd e), h.ne n hn hd⟩
/-- A whole thing written; its map, if it has one, is new. -/
theorem MidIn.thing (h : MidIn w q X G K c) (n : Nat) (hn : n < 129) (x : Tg) (g : Nat) (f : List UInt8 → Nat) (hd : x.dir = true → MapT w g c f ∧ (∀ m, m < 129 → m ≠ n → (X m).dir = true → G m ≠ g) ∧ g ≠ q) :
    MidIn (w.setCells q (n * 4) (tgC x g)) q (updX X n x) (fun m => if m = n then g else G m) (fun m => if m = n then f else K m) c ∧ Keeps [q] w (w.setCells q (n * 4) (tgC x g)) := by
  refine h.set n hn 0 (tgC x g) (by show 0 + 4 ≤ 4; omega) (fun m hm => updX_ne X _ hm) (fun m _ hm _ => if_neg hm) (fun m _ hm _ => if_neg hm) ?_ ?_
  · intro j v hv
    rw [updX_same] at hv
    simp only [if_true] at hv
    have hj : j < 4 := (List.getElem?_eq_some_iff.1 hv).1
    have hl : (tgC x g).length = 4 := rfl
    rw [hl]
    exact ⟨fun _ => by rw [Nat.sub_zero]; exact hv, fun a => by omega⟩
  · intro hd'
    rw [updX_same] at hd'
    simp only [if_true]
    exact hd hd'
theorem MidIn.congr (h : MidIn w q X G K c) {X' : Nat → Tg} {K' : Nat → List UInt8 → Nat} (hX : ∀ n, n < 129 → X' n = X n) (hK : ∀ n, n < 129 → (X n).dir = true → K' n = K n) : MidIn w q X' G K' c :=
  ⟨h.lt, h.fr, fun n hn => by rw [hX n hn]; exact h.cells n hn, fun n hn hd => by rw [hX n hn] at hd; rw [hK n hn hd]; exact h.map n hn hd,
   fun a b ha hb hda hdb => by rw [hX a ha] at hda; rw [hX b hb] at hdb; exact h.inj a b ha hb hda hdb, fun a ha hda => by rw [hX a ha] at hda; exact h.ne a ha hda⟩
end
theorem foot_congr {q : Nat} {X X' : Nat → Tg} {G : Nat → Nat} (hX : ∀ n, n < 129 → (X' n).dir = (X n).dir) : foot q X' G = foot q X G := by
  unfold foot
  congr 2
  refine List.filter_congr fun n hn => ?_
  rw [hX n (List.mem_range.1 hn)]

theorem wp_mstoreT {o : Oper} {a : Act} {w : World} {K : Act → World → Prop} {Q : Exit → Act → World → Prop} (x y z : Operand) (ho : o.op = .mapUpdate 63 x y z) (m n : Nat) (f : List UInt8 → Nat) (h : MapT w m n f) (hx : a.eval x = .map (some m)) (s : List UInt8) (hs : s.length ≤ maxLen) (hn : n < 140737488351232) (hy : a.eval y = bstr s) (k : Nat) (hk : k ≠ 0) (hz : a.eval z = numN k)
    (hK : ∀ w', Hid (MapT w' m (n + 1) (updS f s k)) → Hid (Keeps [m] w w') → K (a.put o.dst undef) w') : o.wp Try.prog a w K Q := by
  obtain ⟨w', hrun, h1, h2⟩ := h.store s hs hn k hk
  unfold Oper.wp execOp
  simp only [ho, hx, hy, hz, Sem.run_bind, hrun, Result.andThen_ok, Sem.run_pure]
  exact hK w' h1 h2
theorem wp_mdropT {o : Oper} {a : Act} {w : World} {K : Act → World → Prop} {Q : Exit → Act → World → Prop} (x y : Operand) (ho : o.op = .call { callee := .builtin .delete, args := #[x, y], argTypes := #[63, 9] }) (m n : Nat) (f : List UInt8 → Nat) (h : MapT w m n f) (hx : a.eval x = .map (some m)) (s : List UInt8) (hs : s.length ≤ maxLen) (hy : a.eval y = bstr s)
    (hK : ∀ w', Hid (MapT w' m n (updS f s 0)) → Hid (Keeps [m] w w') → K (a.put o.dst (.tuple #[])) w') : o.wp Try.prog a w K Q := by
  obtain ⟨w', hrun, h1, h2⟩ := h.drop s hs o.type
  refine wp_value (w' := w') (v := .tuple #[]) ?_ (hK w' h1 h2)
  simp [execOp, ho, resolve, invoke, builtin, hx, hy, hrun, Result.andThen]

def HangPost (w : World) (q : Nat) (X : Nat → Tg) (G : Nat → Nat) (K : Nat → List UInt8 → Nat) (c n d : Nat) (s : List UInt8) (e : Ending) (w' : World) : Prop :=
  e = .returned (.tuple #[]) ∧ MidIn w' q (updX X n ((X n).at_ d s)) G (updK K d s n) (c + 1) ∧ Keeps [q, G d] w w'

set_option maxHeartbeats 3200000 in
theorem hang_mid (w : World) (q c : Nat) (X : Nat → Tg) (G : Nat → Nat) (K : Nat → List UInt8 → Nat) (M : MidIn w q X G K c) (hc : c ≤ 100000000) (n d : Nat) (hn : n < 129) (hn0 : n ≠ 0) (hd : d < 129) (hdd : (X d).dir = true) (s : List UInt8) (hs : s.length ≤ maxLen) :
    Calls Try.prog 30 #[.pointer (some ⟨q, 0, none⟩), numN n, plV d s] w (HangPost w q X G K c n d s) := by
  have HM := hid M
  have lq := M.lt
  have HS := hid hs
  have HDD := hid hdd
  clear M hs hdd
  have kA : Keeps [] w (w.alloc (.cells (plC d s).toArray 62)) := (Keeps.refl [] w).alloc _
  have gA := heap_alloc_new w (.cells (plC d s).toArray 62)
  have zA : (w.alloc (.cells (plC d s).toArray 62)).heap.size = w.heap.size + 1 := by simp
  have hni : ((n : Int) < 129) := by omega
  have hni0 : (0 : Int) ≤ n := by omega
  have hdi : ((d : Int) < 129) := by omega
  have hdi0 : (0 : Int) ≤ d := by omega
  go_enter Try.func30, Try.ntmps30
  go_wp2_with (first | (refine wpList_boxPl rfl _ rfl d s rfl ?_) | fail)
  generalize w.alloc (.cells (plC d s).toArray 62) = w1 at kA gA zA ⊢
  have KA := hid kA
  have GA := hid gA
  have ZA := hid zA
  have M1 := hid (HM.out.keep kA (by simp))
  clear kA gA zA
  refine wp_region_noPanic (wp_region_any (by kernel_rfl) (wpAny_of_held (S := KpS [q] w1.heap.size w1.drew) _ _ _ _ ?_))
  change wpAnyH _ _ _ _ _ _ _ _ w1.drew
  have cP : ∀ W1, KpS [q] w1.heap.size w1.drew W1 → W1.rangeAt w.heap.size 0 (plC d s) := fun W1 h j v hv => h.cell (by rw [World.cell?_drew, Nat.zero_add, cell_of_row _ _ j _ _ (0, 0) GA.out]; simpa using hv) (by have := ZA.out; omega) (by simp; omega)
  refine held_take (i := 0) (v := .pointer (some ⟨q, 0, none⟩)) rfl (by kernel_rfl) (by kernel_rfl) (by kernel_rfl) (fun _ _ _ h => h) rfl (fun W1 hW1 => rfl) (KpS.refl _ _ _) ?_
  simp only [Act.put, List.setIfInBounds_toArray, List.set_cons_zero, List.set_cons_succ]
  refine held_take (i := 1) (v := numN n) rfl (by kernel_rfl) (by kernel_rfl) (by kernel_rfl) (fun _ _ _ h => h) rfl (fun W1 hW1 => rfl) (KpS.refl _ _ _) ?_
  simp only [Act.put, List.setIfInBounds_toArray, List.set_cons_zero, List.set_cons_succ]
  refine held_take (i := 2) (v := plV d s) rfl (by kernel_rfl) (by kernel_rfl) (by kernel_rfl) (fun _ _ _ h => h) rfl (fun W1 hW1 => exec_load _ _ _ _ rfl rfl (loadPl_run W1 _ _ _ _ (cP W1 hW1))) (KpS.refl _ _ _) ?_
  simp only [Act.put, List.setIfInBounds_toArray, List.set_cons_zero, List.set_cons_succ]
  refine held_take (i := 3) (v := .pointer (some ⟨q, 0, none⟩)) rfl (by kernel_rfl) (by kernel_rfl) (by kernel_rfl) (fun _ _ _ h => h) rfl (fun W1 hW1 => by go_simp) (KpS.refl _ _ _) ?_
  simp only [Act.put, List.setIfInBounds_toArray, List.set_cons_zero, List.set_cons_succ]
  refine held_take (i := 4) (v := .pointer (some ⟨q, 0, none⟩)) rfl (by kernel_rfl) (by kernel_rfl) (by kernel_rfl) (fun _ _ _ h => h) rfl (fun W1 hW1 => by go_simp) (KpS.refl _ _ _) ?_
  simp only [Act.put, List.setIfInBounds_toArray, List.set_cons_zero, List.set_cons_succ]
  refine held_take (i := 5) (v := .pointer (some ⟨q, n * 4, none⟩)) rfl (by kernel_rfl) (by kernel_rfl) (by kernel_rfl) (fun _ _ _ h => h) rfl (fun W1 hW1 => by go_simp) (KpS.refl _ _ _) ?_
  simp only [Act.put, List.setIfInBounds_toArray, List.set_cons_zero, List.set_cons_succ]
  refine held_take (i := 6) (v := .pointer (some ⟨q, n * 4 + 1, none⟩)) rfl (by kernel_rfl) (by kernel_rfl) (by kernel_rfl) (fun _ _ _ h => h) rfl (fun W1 hW1 => by go_simp) (KpS.refl _ _ _) ?_
  simp only [Act.put, List.setIfInBounds_toArray, List.set_cons_zero, List.set_cons_succ]
  have hD1 := M1.out.keep ((Keeps.refl [] w1).drew) (by simp)
  refine held_do (i := 7) (by kernel_rfl) rfl rfl (wp_store_mid 62 _ _ rfl q (n * 4 + 1) (plC d s).toArray rfl rfl (hD1.there n hn 1 2 (by omega)) (by rw [sPlace]; rfl) (plC_one _ _) ?_)
  obtain ⟨m2, k2⟩ := hD1.place n hn d s
  have kk : KpS [q] w1.heap.size w1.drew (w1.drew.setCells q (n * 4 + 1) (plC d s)) := (KpS.refl _ _ _).keeps k2 (Nat.le_refl _) (fun i hi _ => hi)
  refine ⟨kk, ?_⟩
  refine wpAnyH_done (by kernel_rfl) (NoPanic.normal ?_) _
  have e2 : w1.drew.setCells q (n * 4 + 1) (plC d s).toArray.toList = w1.drew.setCells q (n * 4 + 1) (plC d s) := rfl
  rw [e2]
  generalize w1.drew.setCells q (n * 4 + 1) (plC d s) = w2 at m2 k2 kk ⊢
  have M2 := hid m2
  have K2 : Hid (Keeps [q] w w2) := hid (((KA.out.drew).mono (by simp)).trans k2)
  have G2 := hid ((k2.block _ (by show _ < w1.heap.size; have := ZA.out; omega) (by simp; omega)).trans GA.out)
  have Z2 := hid k2.size
  clear m2 k2 kk cP hD1 e2
  have hX2 : Hid ((updX X n ((X n).at_ d s) d).dir = true) := hid (by
    by_cases e : d = n
    · rw [e, updX_same]; have := HDD.out; rw [e] at this; exact this
    · rw [updX_ne X _ e]; exact HDD.out)
  have hne := M2.out.ne d hd hX2.out
  have hlt2 : G d < w2.heap.size := (M2.out.map d hd hX2.out).lt
  have hlt0 : G d < w.heap.size := (HM.out.map d hd HDD.out).lt
  go_wp2_with fail
  refine wp_region_noPanic (wp_region_any (by kernel_rfl) (wpAny_of_held (S := KpS [G d] w2.heap.size w2.drew) _ _ _ _ ?_))
  change wpAnyH _ _ _ _ _ _ _ _ w2.drew
  have z2 : w.heap.size < w2.heap.size := by have := ZA.out; have := Z2.out; change w1.heap.size ≤ _ at this; omega
  have r0 : ∀ W1, KpS [G d] w2.heap.size w2.drew W1 → W1.cell? ⟨w.heap.size, 0, none⟩ = some (numN d) := fun W1 h => h.cell (by rw [World.cell?_drew, cell_of_row _ _ 0 _ _ (0, 0) G2.out]; rfl) z2 (by simp; omega)
  have r1 : ∀ W1, KpS [G d] w2.heap.size w2.drew W1 → W1.cell? ⟨w.heap.size, 1, none⟩ = some (bstr s) := fun W1 h => h.cell (by rw [World.cell?_drew, cell_of_row _ _ 1 _ _ (0, 0) G2.out]; rfl) z2 (by simp; omega)
  have r3 : ∀ W1, KpS [G d] w2.heap.size w2.drew W1 → W1.cell? ⟨q, d * 4 + 3, none⟩ = some (.map (some (G d))) := fun W1 h => h.cell (by rw [World.cell?_drew, M2.out.c3 d hd, if_pos hX2.out]) (M2.out.lt) (by simp; exact fun e => hne e.symm)
  refine held_take (i := 0) (v := .pointer (some ⟨q, 0, none⟩)) rfl (by kernel_rfl) (by kernel_rfl) (by kernel_rfl) (fun _ _ _ h => h) rfl (fun W1 hW1 => rfl) (KpS.refl _ _ _) ?_
  simp only [Act.put, List.setIfInBounds_toArray, List.set_cons_zero, List.set_cons_succ]
  refine held_take (i := 1) (v := .pointer (some ⟨w.heap.size, 0, none⟩)) rfl (by kernel_rfl) (by kernel_rfl) (by kernel_rfl) (fun _ _ _ h => h) rfl (fun W1 hW1 => by go_simp) (KpS.refl _ _ _) ?_
  simp only [Act.put, List.setIfInBounds_toArray, List.set_cons_zero, List.set_cons_succ]
  refine held_take (i := 2) (v := numN d) rfl (by kernel_rfl) (by kernel_rfl) (by kernel_rfl) (fun _ _ _ h => h) rfl (fun W1 hW1 => exec_load _ _ _ _ rfl rfl (run_loadCell W1 _ _ _ (r0 W1 hW1) (agg_no _ (by kernel_rfl)))) (KpS.refl _ _ _) ?_
  simp only [Act.put, List.setIfInBounds_toArray, List.set_cons_zero, List.set_cons_succ]
  refine held_take (i := 3) (v := .pointer (some ⟨q, 0, none⟩)) rfl (by kernel_rfl) (by kernel_rfl) (by kernel_rfl) (fun _ _ _ h => h) rfl (fun W1 hW1 => by go_simp) (KpS.refl _ _ _) ?_
  simp only [Act.put, List.setIfInBounds_toArray, List.set_cons_zero, List.set_cons_succ]
  refine held_take (i := 4) (v := .pointer (some ⟨q, 0, none⟩)) rfl (by kernel_rfl) (by kernel_rfl) (by kernel_rfl) (fun _ _ _ h => h) rfl (fun W1 hW1 => by go_simp) (KpS.refl _ _ _) ?_
  simp only [Act.put, List.setIfInBounds_toArray, List.set_cons_zero, List.set_cons_succ]
  refine held_take (i := 5) (v := .pointer (some ⟨q, d * 4, none⟩)) rfl (by kernel_rfl) (by kernel_rfl) (by kernel_rfl) (fun _ _ _ h => h) rfl (fun W1 hW1 => by go_simp) (KpS.refl _ _ _) ?_
  simp only [Act.put, List.setIfInBounds_toArray, List.set_cons_zero, List.set_cons_succ]
  refine held_take (i := 6) (v := .pointer (some ⟨q, d * 4 + 3, none⟩)) rfl (by kernel_rfl) (by kernel_rfl) (by kernel_rfl) (fun _ _ _ h => h) rfl (fun W1 hW1 => by go_simp) (KpS.refl _ _ _) ?_
  simp only [Act.put, List.setIfInBounds_toArray, List.set_cons_zero, List.set_cons_succ]
  refine held_take (i := 7) (v := .map (some (G d))) rfl (by kernel_rfl) (by kernel_rfl) (by kernel_rfl) (fun _ _ _ h => h) rfl (fun W1 hW1 => exec_load _ _ _ _ rfl rfl (run_loadCell W1 _ _ _ (r3 W1 hW1) (agg_no _ (by kernel_rfl)))) (KpS.refl _ _ _) ?_
  simp only [Act.put, List.setIfInBounds_toArray, List.set_cons_zero, List.set_cons_succ]
  refine held_take (i := 8) (v := .pointer (some ⟨w.heap.size, 1, none⟩)) rfl (by kernel_rfl) (by kernel_rfl) (by kernel_rfl) (fun _ _ _ h => h) rfl (fun W1 hW1 => by go_simp) (KpS.refl _ _ _) ?_
  simp only [Act.put, List.setIfInBounds_toArray, List.set_cons_zero, List.set_cons_succ]
  refine held_take (i := 9) (v := bstr s) rfl (by kernel_rfl) (by kernel_rfl) (by kernel_rfl) (fun _ _ _ h => h) rfl (fun W1 hW1 => exec_load _ _ _ _ rfl rfl (run_loadCell W1 _ _ _ (r1 W1 hW1) (agg_no _ (by kernel_rfl)))) (KpS.refl _ _ _) ?_
  simp only [Act.put, List.setIfInBounds_toArray, List.set_cons_zero, List.set_cons_succ]
  refine held_take (i := 10) (v := numN n) rfl (by kernel_rfl) (by kernel_rfl) (by kernel_rfl) (fun _ _ _ h => h) rfl (fun W1 hW1 => rfl) (KpS.refl _ _ _) ?_
  simp only [Act.put, List.setIfInBounds_toArray, List.set_cons_zero, List.set_cons_succ]
  have MP := (M2.out.map d hd hX2.out).keep ((Keeps.refl [] w2).drew) (by simp)
  refine held_do (i := 11) (by kernel_rfl) rfl rfl (wp_mstoreT _ _ _ rfl (G d) c (K d) MP rfl s HS.out (by omega) rfl n hn0 rfl ?_)
  intro w3 m3 k3
  refine ⟨(KpS.refl _ _ _).keeps k3.out (Nat.le_refl _) (fun i hi _ => hi), ?_⟩
  refine wpAnyH_done (by kernel_rfl) (NoPanic.normal ?_) _
  have K3' : Keeps [G d] w2 w3 := ⟨k3.out.os, k3.out.tape, k3.out.output, k3.out.size, k3.out.block⟩
  have m4 := M2.out.mapped (Nat.le_succ c) d hd hX2.out K3' m3.out
  have k4 : Keeps [q, G d] w w3 := ((K2.out.mono (by intro _ _ h; simp at h; simp [h]))).trans' K3' (fun i hi hm => by simp at hm; simp [hm])
  have M4 := hid m4
  have K4 := hid k4
  clear m4 k4 K3' MP r0 r1 r3 m3 k3
  go_wp2_with fail
  go_end0
  exact ⟨rfl, M4.out, K4.out⟩
end Go.Proofs.Ytnmiffkflnlanaa
