/- The code's tree: Make. -/
import Derived.Test.YtnmiffkflnlanaaTrJ
namespace Go.Proofs.Ytnmiffkflnlanaa
open Go.RowKit
set_option maxRecDepth 100000

theorem spot_ok {T : TL} (I : InvT T) {p : List UInt8} (h : (spotT T p).2.2 = 0) : isDirT T (spotT T p).1 = true ∧ kidT T (spotT T p).1 (spotT T p).2.1 = 0 ∧ mayN (spotT T p).2.1 = true ∧ splitN p ≠ none := by
  cases hq : splitN p with
  | none => rw [spotT_none hq] at h; simp at h
  | some l =>
    by_cases h0 : l = []
    · subst h0; rw [spotT_root hq] at h; simp at h
    · have hm : mayN (l.getLastD []) = true := by
        rw [List.getLastD_eq_getLast?, List.getLast?_eq_some_getLast h0]
        exact (splitN_some hq).1 _ (List.getLast_mem h0)
      have hS := spotT_some I hq h0
      rw [hS] at h ⊢
      by_cases h1 : (walkT T 1 l.dropLast).2 = 0
      · have hh := walkT_has I l.dropLast 1 (one_has T) h1
        rw [if_pos h1] at h ⊢
        rw [hangX_T I _ hh] at h ⊢
        generalize l.getLastD [] = u at hm h ⊢
        by_cases h2 : isDirT T (walkT T 1 l.dropLast).1 = true
        · rw [if_pos h2] at h ⊢
          by_cases h3 : kidT T (walkT T 1 l.dropLast).1 u = 0
          · rw [if_pos h3, if_pos rfl]
            exact ⟨h2, h3, hm, by simp⟩
          · rw [if_neg h3] at h; simp at h
        · rw [if_neg h2] at h; simp at h
      · rw [if_neg h1] at h; exact absurd h h1
theorem least_is {T : TL} {n : Nat} (h : leastT T = some n) : 2 ≤ n ∧ n ≤ 128 ∧ hasT T n = false := by
  unfold leastT at h
  have h1 := List.find?_some h
  have h2 := List.mem_range.1 (List.mem_of_find?_eq_some h)
  simp only [Bool.and_eq_true, decide_eq_true_eq, Bool.not_eq_true'] at h1
  refine ⟨?_, by omega, h1.2⟩
  rcases Nat.lt_or_ge n 2 with h3 | h3
  · have : n = 1 := by omega
    subst this
    rw [one_has] at h1
    simp at h1
  · exact h3
theorem has_no {T : TL} {n : Nat} (h : hasT T n = false) : ∀ z ∈ T, z.ino ≠ n := by
  unfold hasT at h
  simp at h
  exact findT_none.1 h.2
theorem kid_no {T : TL} (I : InvT T) {n : Nat} (h : hasT T n = false) (u : List UInt8) : kidT T n u = 0 := by
  rw [kidT_zero I]
  intro x hx e
  have := isDirT_has (I.up x hx)
  rw [e, h] at this
  cases this
theorem xT_ins {T : TL} (I : InvT T) {x : Th} (h : ∀ z ∈ T, z.ino ≠ x.ino) (h1 : x.ino ≠ 1) (m : Nat) : xT (insT T x) m = updX (xT T) x.ino ⟨true, x.up, x.nm, x.dir⟩ m := by
  by_cases e : m = x.ino
  · subst e
    rw [updX_same]
    simp [xT, hasT, upT, nmT, isDirT, find_ins I h, h1]
  · rw [updX_ne _ _ e]
    simp [xT, hasT, upT, nmT, isDirT, find_ins I h, e]

theorem makeT_no {T : TL} {p : List UInt8} {dir : Bool} (h : (spotT T p).2.2 ≠ 0) : makeT T p dir = (T, 0, (spotT T p).2.2) := if_neg h
theorem makeT_full {T : TL} {p : List UInt8} {dir : Bool} (h : (spotT T p).2.2 = 0) (hl : leastT T = none) : makeT T p dir = (T, 0, 5) := by
  unfold makeT
  rw [if_pos h, hl]
theorem makeT_yes {T : TL} {p : List UInt8} {dir : Bool} (h : (spotT T p).2.2 = 0) {n : Nat} (hl : leastT T = some n) : makeT T p dir = (insT T ⟨n, (spotT T p).1, (spotT T p).2.1, dir⟩, n, 0) := by
  unfold makeT
  rw [if_pos h, hl]

def DoPost (w : World) (q : Nat) (T' : TL) (F : List Nat) (c : Nat) (v : Value) (e : Ending) (w' : World) : Prop :=
  e = .returned v ∧ ∃ F', TreeAt w' q T' F' (c + 1) ∧ Keeps F w w' ∧ FreshT w F F'
theorem DoPost.no {w w' : World} {q c : Nat} {T : TL} {G : Nat → Nat} {v : Value} (TI : TreeIn w' q T G c) (k : Keeps [] w w') : DoPost w q T (foot q (xT T) G) c v (.returned v) w' :=
  ⟨rfl, _, ⟨G, ⟨TI.1, TI.2.mono (Nat.le_succ c)⟩, rfl⟩, k.mono (by simp), fun b hb => Or.inl hb⟩

set_option maxHeartbeats 6400000 in
theorem make_in (w : World) (q c : Nat) (T : TL) (G : Nat → Nat) (TI : TreeIn w q T G c) (hc : c ≤ 10000000) (s : ByteArray) (hs : s.size ≤ 140737488351232) (dir : Bool) :
    Calls Try.prog 10 #[.pointer (some ⟨q, 0, none⟩), .string s, .bool dir] w (DoPost w q (makeT T s.data.toList dir).1 (foot q (xT T) G) c (.tuple #[numN (makeT T s.data.toList dir).2.1, .int .i64 (makeT T s.data.toList dir).2.2])) := by
  have HI := hid TI
  have HSP := hid (spot_any10 w q c T G TI s hs)
  have HNO := hid (fun h => makeT_no (T := T) (p := s.data.toList) (dir := dir) h)
  have HFU := hid (fun h => makeT_full (T := T) (p := s.data.toList) (dir := dir) h)
  have HYE := hid (fun h n => makeT_yes (T := T) (p := s.data.toList) (dir := dir) h (n := n))
  have HOK := hid (spot_ok (p := s.data.toList) TI.1)
  clear TI
  unfold SpotPost at HSP
  generalize makeT T s.data.toList dir = r at HNO HFU HYE ⊢
  generalize spotT T s.data.toList = sp at HSP HNO HFU HYE HOK
  obtain ⟨d, u, x⟩ := sp
  go_enter Try.func10, Try.ntmps10
  go_wp2_with fail
  refine HSP.out.mono ?_
  rintro e w1 ⟨rfl, k1⟩
  have kA : Keeps [] w1 (w1.alloc (.cells (plC d u).toArray 62)) := (Keeps.refl [] w1).alloc _
  have gA := heap_alloc_new w1 (.cells (plC d u).toArray 62)
  have zA : (w1.alloc (.cells (plC d u).toArray 62)).heap.size = w1.heap.size + 1 := by simp
  by_cases hx : x = 0
  · subst hx
    have FU := hid (HFU.out rfl)
    have YE := hid (HYE.out rfl)
    have OK := hid (HOK.out rfl)
    clear HFU HYE HOK HNO
    go_wp2_with (first | (refine wpList_is rfl _ _ (exec_alloc 62 plZ iPlace rfl) ?_) | (refine wpList_noval rfl _ (exec_storeNew 62 _ _ rfl w1 plZ (plC d u).toArray rfl rfl rfl iPlace rfl (plC_one _ _)) ?_) | fail)
    generalize w1.alloc (.cells (plC d u).toArray 62) = w2 at kA gA zA ⊢
    have K2 := hid (k1.trans kA)
    have HI2 := hid (HI.out.keep0 K2.out)
    have G2 := hid gA
    have Z2 := hid zA
    have Z1 := hid k1.size
    clear kA gA zA k1
    refine (least_any10 w2 q c T G HI2.out).mono ?_
    rintro e _ ⟨rfl, rfl⟩
    unfold leastR
    cases hl : leastT T with
    | none =>
      have HR := hid (FU.out hl)
      clear hl
      go_wp2_with fail
      go_ret2
      rw [HR.out]
      exact DoPost.no HI2.out K2.out
    | some n =>
      have HR := hid (YE.out n hl)
      have HL := hid (least_is hl)
      have hn2 := (least_is hl).2.1
      have hn1 := (least_is hl).1
      clear hl
      have hni : ((n : Int) < 129) := by omega
      have hni0 : (0 : Int) ≤ n := by omega
      go_wp2_with fail
      refine wp_region_noPanic (wp_region_any (by kernel_rfl) (wpAny_of_held (S := KpS [q] w2.heap.size w2.drew) _ _ _ _ ?_))
      change wpAnyH _ _ _ _ _ _ _ _ w2.drew
      refine held_take (i := 0) (v := .pointer (some ⟨q, 0, none⟩)) rfl (by kernel_rfl) (by kernel_rfl) (by kernel_rfl) (fun _ _ _ h => h) rfl (fun W1 hW1 => rfl) (KpS.refl _ _ _) ?_
      simp only [Act.put, List.setIfInBounds_toArray, List.set_cons_zero, List.set_cons_succ]
      refine held_take (i := 1) (v := numN n) rfl (by kernel_rfl) (by kernel_rfl) (by kernel_rfl) (fun _ _ _ h => h) rfl (fun W1 hW1 => rfl) (KpS.refl _ _ _) ?_
      simp only [Act.put, List.setIfInBounds_toArray, List.set_cons_zero, List.set_cons_succ]
      refine held_take (i := 2) (v := .bool dir) rfl (by kernel_rfl) (by kernel_rfl) (by kernel_rfl) (fun _ _ _ h => h) rfl (fun W1 hW1 => rfl) (KpS.refl _ _ _) ?_
      simp only [Act.put, List.setIfInBounds_toArray, List.set_cons_zero, List.set_cons_succ]
      refine held_take (i := 4) (v := .pointer (some ⟨q, 0, none⟩)) rfl (by kernel_rfl) (by kernel_rfl) (by kernel_rfl) (fun _ _ _ h => h) rfl (fun W1 hW1 => by go_simp) (KpS.refl _ _ _) ?_
      simp only [Act.put, List.setIfInBounds_toArray, List.set_cons_zero, List.set_cons_succ]
      refine held_take (i := 5) (v := .pointer (some ⟨q, 0, none⟩)) rfl (by kernel_rfl) (by kernel_rfl) (by kernel_rfl) (fun _ _ _ h => h) rfl (fun W1 hW1 => by go_simp) (KpS.refl _ _ _) ?_
      simp only [Act.put, List.setIfInBounds_toArray, List.set_cons_zero, List.set_cons_succ]
      refine held_do (i := 3) (by kernel_rfl) rfl rfl (wp_enter (f := 27) (args := #[.bool dir]) (by go_simp) (newThing_any w2.drew dir) ?_)
      rintro e w3 ⟨g, rfl, k3, hg⟩
      refine ⟨_, rfl, (KpS.refl _ _ _).keeps k3 (Nat.le_refl _) (by simp), ?_⟩
      simp only [Act.put, List.setIfInBounds_toArray, List.set_cons_zero, List.set_cons_succ]
      refine held_take (i := 6) (v := .pointer (some ⟨q, n * 4, none⟩)) rfl (by kernel_rfl) (by kernel_rfl) (by kernel_rfl) (fun _ _ _ h => h) rfl (fun W1 hW1 => by go_simp) ((KpS.refl _ _ _).keeps k3 (Nat.le_refl _) (by simp)) ?_
      simp only [Act.put, List.setIfInBounds_toArray, List.set_cons_zero, List.set_cons_succ]
      have hM3 := (HI2.out.2.keep ((Keeps.refl [] w2).drew) (by simp)).keep k3 (by simp)
      refine held_do (i := 7) (by kernel_rfl) rfl rfl (wp_store_mid 65 _ _ rfl q (n * 4) (tgC (tgN dir) g).toArray rfl rfl (hM3.there n (by omega) 0 4 (by omega)) (spTg _ _) (tgC_one _ _) ?_)
      have hlq := HI.out.2.lt
      have hz2 := Z2.out
      have hz1 := Z1.out
      have hgne : dir = true → MapT w3 g c (fun _ => 0) ∧ (∀ m, m < 129 → m ≠ n → (xT T m).dir = true → G m ≠ g) ∧ g ≠ q := fun h => by
        obtain ⟨h1, h2⟩ := hg h
        have h1' : w2.heap.size ≤ g := h1
        exact ⟨h2.mono (Nat.zero_le _), fun m hm _ hd => by have := (HI2.out.2.map m hm hd).lt; omega, by omega⟩
      obtain ⟨m4, k4⟩ := hM3.thing n (by omega) (tgN dir) g (fun _ => 0) hgne
      refine ⟨((KpS.refl _ _ _).keeps k3 (Nat.le_refl _) (by simp)).keeps k4 k3.size (fun i hi _ => hi), ?_⟩
      refine wpAnyH_done (by kernel_rfl) (NoPanic.normal ?_) _
      have e3 : w3.setCells q (n * 4) (tgC (tgN dir) g).toArray.toList = w3.setCells q (n * 4) (tgC (tgN dir) g) := rfl
      rw [e3]
      generalize w3.setCells q (n * 4) (tgC (tgN dir) g) = w4 at m4 k4 ⊢
      have M4 := hid m4
      have K4 := hid ((((K2.out.drew).trans k3).mono (by simp)).trans k4)
      have G4 := hid ((k4.block _ (by have h1 := k3.size; have h2 := lt_of_block G2.out; change w2.heap.size ≤ _ at h1; omega) (by simp; omega)).trans ((k3.block _ (lt_of_block G2.out) (by simp)).trans G2.out))
      have R4 := hid (show w4.rangeAt w1.heap.size 0 (plC d u) from fun j v hv => by rw [Nat.zero_add, cell_of_row _ _ j _ _ (0, 0) G4.out]; simpa using hv)
      have HG := hid (fun h : dir = true => show w.heap.size ≤ g by have := (hg h).1; change w2.heap.size ≤ g at this; omega)
      clear m4 k4 hM3 hgne hg k3 e3 hz2 hz1
      have hdn : d ≠ n := fun e => by
        have h1 := isDirT_has OK.out.1
        rw [e, HL.out.2.2] at h1
        cases h1
      have hd2 := (hasT_le HI.out.1 (isDirT_has OK.out.1)).2
      have hX4 : (updX (xT T) n (tgN dir) d).dir = true := by rw [updX_ne _ _ hdn]; exact OK.out.1
      have HH := hid (hang_mid w4 q c _ _ _ M4.out (by omega) n d (by omega) (by omega) (by omega) hX4 u (by have := (mayN_len OK.out.2.2.1).2; exact Nat.le_trans this (by decide)))
      have HDN := hid hdn
      clear hX4 hdn
      go_wp2_with (first | (refine wpList_loadPl rfl _ rfl w1.heap.size 0 rfl d u R4.out ?_) | fail)
      refine HH.out.mono ?_
      rintro e w5 ⟨rfl, m5, k5⟩
      have M5 := hid m5
      have K5 := hid k5
      clear m5 k5
      go_wp2_with fail
      go_ret2
      rw [HR.out]
      have hz := has_no HL.out.2.2
      have J : InvT (insT T ⟨n, d, u, dir⟩) := HI.out.1.ins (x := ⟨n, d, u, dir⟩) hz ⟨hn1, hn2⟩ OK.out.1 OK.out.2.2.1 OK.out.2.1
      have xe : ∀ m, xT (insT T ⟨n, d, u, dir⟩) m = updX (updX (xT T) n (tgN dir)) n ((updX (xT T) n (tgN dir) n).at_ d u) m := fun m => by
        rw [xT_ins HI.out.1 (x := ⟨n, d, u, dir⟩) hz (show n ≠ 1 by omega)]
        by_cases e : m = n
        · subst e
          rw [updX_same, updX_same, updX_same]
          rfl
        · rw [updX_ne _ _ e, updX_ne _ _ e, updX_ne _ _ e]
      refine ⟨rfl, foot q (xT (insT T ⟨n, d, u, dir⟩)) (fun m => if m = n then g else G m), ⟨_, ⟨J, M5.out.congr (fun m _ => xe m) (fun m hm hd => ?_)⟩, rfl⟩, ?_, ?_⟩
      · funext v
        rw [kid_ins HI.out.1 (x := ⟨n, d, u, dir⟩) hz J]
        unfold updK
        by_cases e : m = d
        · subst e
          rw [if_pos rfl]
          simp only [if_neg HDN.out]
          unfold updS
          by_cases e2 : v = u
          · simp [e2]
          · simp [e2]
        · rw [if_neg e, if_neg (fun h => e h.1)]
          by_cases e2 : m = n
          · simp only [if_pos e2]
            rw [e2, kid_no HI.out.1 HL.out.2.2]
          · simp only [if_neg e2]
      · have hGd : (if d = n then g else G d) = G d := if_neg HDN.out
        have k5 := K5.out
        simp only [hGd] at k5
        have hq : q ∈ foot q (xT T) G := by simp [foot]
        have hgd : G d ∈ foot q (xT T) G := mem_footT.2 (Or.inr ⟨d, by omega, OK.out.1, rfl⟩)
        exact (K4.out.mono (by intro _ _ h; simp at h; rw [h]; exact hq)).trans' k5 (fun i hi hm => by simp at hm; rcases hm with rfl | rfl; exact hq; exact hgd)
      · intro b hb
        rcases mem_footT.1 hb with rfl | ⟨m, hm, hd, rfl⟩
        · exact Or.inl (by simp [foot])
        · rw [xe] at hd
          by_cases e : m = n
          · subst e
            rw [updX_same, updX_same] at hd
            simp only [if_true]
            exact Or.inr (HG.out hd)
          · rw [updX_ne _ _ e, updX_ne _ _ e] at hd
            rw [if_neg e]
            exact Or.inl (mem_footT.2 (Or.inr ⟨m, hm, hd, rfl⟩))
  · have HR := hid (HNO.out hx)
    have hx' : (x != 0) = true := by simpa using hx
    clear HFU HYE HOK HNO hx
    go_wp2_with (first | (refine wpList_is rfl _ _ (exec_alloc 62 plZ iPlace rfl) ?_) | (refine wpList_noval rfl _ (exec_storeNew 62 _ _ rfl w1 plZ (plC d u).toArray rfl rfl rfl iPlace rfl (plC_one _ _)) ?_) | fail)
    go_ret2
    rw [HR.out]
    exact DoPost.no (HI.out.keep0 (k1.trans kA)) (k1.trans kA)
end Go.Proofs.Ytnmiffkflnlanaa
