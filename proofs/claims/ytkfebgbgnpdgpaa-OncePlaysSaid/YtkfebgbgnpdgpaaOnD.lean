/- once: the walks of keep, Ask, Done, Life, New. -/
import Derived.Test.YtkfebgbgnpdgpaaOnC
import Derived.Test.YtkfebgbgnpdgpaaKitB
namespace Go.Proofs.Ytkfebgbgnpdgpaa
open Go.RowKit Go.Shelf
set_option maxRecDepth 100000
set_option linter.unusedSimpArgs false

def updR (R : Nat → Rw) (k : Nat) (r : Rw) : Nat → Rw := fun i => if i = k then r else R i

theorem winCells_upd (R : Nat → Rw) (k : Nat) (hk : k < 4) (r : Rw) : ((((winCells R).toArray.setIfInBounds (1 + k * 4) (.int .i64 r.c)).setIfInBounds (1 + k * 4 + 1) (.int .i64 r.l)).setIfInBounds (1 + k * 4 + 1 + 1) (.int .i64 r.s)).setIfInBounds (1 + k * 4 + 1 + 1 + 1) r.row = (winCells (updR R k r)).toArray := by
  match k, hk with
  | 0, _ => simp [winCells, Rw.cells, updR]
  | 1, _ => simp [winCells, Rw.cells, updR]
  | 2, _ => simp [winCells, Rw.cells, updR]
  | 3, _ => simp [winCells, Rw.cells, updR]

theorem Keeps.setCells {S : List Nat} {a : World} {b : Nat} (hb : b ∈ S ∨ a.heap.size ≤ b) : ∀ (vs : List Value) (o : Nat) {w : World}, Keeps S a w → Keeps S a (w.setCells b o vs)
  | [], _, _, h => h
  | v :: r, o, _, h => Keeps.setCells hb r (o + 1) (h.setCell (p := ⟨b, o, none⟩) hb v)

theorem WinAt.put {w : World} {p : Nat} {M : List Nat} {R : Nat → Rw} {T : Tab} (h : WinAt w p M R T) (k : Nat) (hk : k < 4) (r : Rw) (hc : r.c = k) (hm : mayS r.c r.l r.s = true) (ok : RwOk w M r) :
    WinAt (w.setCells p (1 + k * 4) r.cells) p M (updR R k r) (T.put k (r.l, r.s, r.bs)) ∧ Keeps [p] w (w.setCells p (1 + k * 4) r.cells) := by
  have kk : Keeps [p] w (w.setCells p (1 + k * 4) r.cells) := Keeps.setCells (Or.inl (by simp)) _ _ (Keeps.refl [p] w)
  have hM : ∀ b ∈ [p], b ∈ M := by simpa using h.inM
  refine ⟨⟨?_, h.inM, fun i hi => ?_⟩, kk⟩
  · have b1 := heap_setCell_same w p (1 + k * 4) _ 85 (.int .i64 r.c) h.blk
    have b2 := heap_setCell_same _ p (1 + k * 4 + 1) _ 85 (.int .i64 r.l) b1
    have b3 := heap_setCell_same _ p (1 + k * 4 + 1 + 1) _ 85 (.int .i64 r.s) b2
    have b4 := heap_setCell_same _ p (1 + k * 4 + 1 + 1 + 1) _ 85 r.row b3
    rw [winCells_upd R k hk r] at b4
    exact b4
  · unfold updR Tab.put
    by_cases e : i = k
    · subst e
      simp only [if_true]
      exact ⟨hc, rfl, rfl, rfl, hm, ok.keep kk hM⟩
    · simp only [e, if_false]
      exact (h.row i hi).keep kk hM

theorem winAt_there {w : World} {p : Nat} {M : List Nat} {R : Nat → Rw} {T : Tab} (h : WinAt w p M R T) (k : Nat) (hk : k < 4) : w.there p (1 + k * 4) 4 := fun j hj => by
  have hl : (winCells R).toArray.size = 17 := by simp [winCells, Rw.cells]
  refine ⟨?_, by simp [World.frozen?, h.blk]⟩
  rw [cell_of_row _ _ _ _ _ (0, 0) h.blk, Array.getElem?_eq_getElem (by omega)]
  rfl
theorem iRow8 : (Try.prog.info? 82).map (fun i => (i.zero, i.size)) = some (some (.agg #[.int .i64 0, .int .i64 0, .int .i64 0, .slice none 0 0]), 4) := by kernel_rfl

/-- What keeps a request leaves. -/
def KeptPost (w : World) (p : Nat) (M : List Nat) (T' : Tab) (v : Value) (e : Ending) (w' : World) : Prop :=
  e = .returned v ∧ (∃ R', WinAt w' p M R' T') ∧ Keeps [p] w w'

set_option maxHeartbeats 3200000 in
theorem nKeep_any (w : World) (p : Nat) (M : List Nat) (hM : ∀ b ∈ M, b < w.heap.size) (R : Nat → Rw) (T : Tab) (H : WinAt w p M R T) (k : Nat) (l s : Int) (hm : mayS k l s = true) (ra : Option Addr) (rc : Nat) (bs : List Int) (hr : RowAt w (.slice ra bs.length rc) bs) (hl : bs.length ≤ 100) :
    Calls Try.prog 45 #[.pointer (some ⟨p, 0, none⟩), stV k l s, .slice ra bs.length rc] w (KeptPost w p M (T.put k (l, s, bs)) (.tuple #[])) := by
  obtain ⟨q1, q2, q3, q4, q5, q6⟩ := mayS_is.1 hm
  have hk : k < 4 := by omega
  have ka := (Keeps.refl [] w).alloc (.cells #[.int .i64 k, .int .i64 l, .int .i64 s] 48)
  have KA := hid ka
  have BA := hid (heap_alloc_new w (.cells #[.int .i64 k, .int .i64 l, .int .i64 s] 48))
  have HA := hid (H.later ka)
  have RA := hid (hr.keep ka (by intro _ _ _ _ _; simp))
  have HM := hid hM
  have MM := hid hm
  clear ka H hr hM hm
  unfold stV
  go_enter Try.func45, Try.ntmps45
  go_wp2_with fail
  obtain ⟨g, hg⟩ : ∃ g, g = w.heap.size := ⟨_, rfl⟩
  have HZ : Hid (w.heap.size ≤ (w.alloc (.cells #[.int .i64 k, .int .i64 l, .int .i64 s] 48)).heap.size) := hid (by simp)
  rw [← hg] at BA ⊢
  clear hg
  generalize w.alloc (.cells #[.int .i64 k, .int .i64 l, .int .i64 s] 48) = w1 at KA BA HA RA HZ ⊢
  have bl := lt_of_block BA.out
  have pl := HA.out.lt
  refine wp_region_any (by kernel_rfl) (wpAny_of_late (late := [10]) (S := KpS [] w1.heap.size w1.drew) _ _ _ _ ?_)
  change wpAnyT _ _ _ _ _ _ _ _ _ w1.drew
  have D0 : ∀ W1, KpS [] w1.heap.size w1.drew W1 → W1.heap[g]? = some (.cells #[.int .i64 k, .int .i64 l, .int .i64 s] 48 (0, 0)) := fun W1 h => (h.block g bl (by simp)).trans BA.out
  refine late_take (i := 0) (v := .pointer (some ⟨p, 0, none⟩)) rfl (by kernel_rfl) (by kernel_rfl) (by kernel_rfl) (by kernel_rfl) (by kernel_rfl) (fun _ _ _ h => h) rfl (fun W1 hW1 => rfl) (KpS.refl _ _ _) ?_
  simp only [Act.put, List.setIfInBounds_toArray, List.set_cons_zero, List.set_cons_succ]
  refine late_take (i := 1) (v := .pointer (some ⟨g, 0, none⟩)) rfl (by kernel_rfl) (by kernel_rfl) (by kernel_rfl) (by kernel_rfl) (by kernel_rfl) (fun _ _ _ h => h) rfl (fun W1 hW1 => by go_simp) (KpS.refl _ _ _) ?_
  simp only [Act.put, List.setIfInBounds_toArray, List.set_cons_zero, List.set_cons_succ]
  refine late_take (i := 2) (v := .int .i64 k) rfl (by kernel_rfl) (by kernel_rfl) (by kernel_rfl) (by kernel_rfl) (by kernel_rfl) (fun _ _ _ h => h) rfl (fun W1 hW1 => exec_load _ _ _ _ rfl rfl (run_loadCell W1 _ _ _ ((block_cells3 (D0 W1 hW1)).1) (agg_no _ (by kernel_rfl)))) (KpS.refl _ _ _) ?_
  simp only [Act.put, List.setIfInBounds_toArray, List.set_cons_zero, List.set_cons_succ]
  refine late_take (i := 3) (v := .agg #[.int .i64 k, .int .i64 l, .int .i64 s]) rfl (by kernel_rfl) (by kernel_rfl) (by kernel_rfl) (by kernel_rfl) (by kernel_rfl) (fun _ _ _ h => h) rfl (fun W1 hW1 => exec_load _ _ _ _ rfl rfl (loadStB (D0 W1 hW1))) (KpS.refl _ _ _) ?_
  simp only [Act.put, List.setIfInBounds_toArray, List.set_cons_zero, List.set_cons_succ]
  refine late_take (i := 4) (v := .slice ra bs.length rc) rfl (by kernel_rfl) (by kernel_rfl) (by kernel_rfl) (by kernel_rfl) (by kernel_rfl) (fun _ _ _ h => h) rfl (fun W1 hW1 => rfl) (KpS.refl _ _ _) ?_
  simp only [Act.put, List.setIfInBounds_toArray, List.set_cons_zero, List.set_cons_succ]
  refine late_take (i := 7) (v := .pointer (some ⟨p, 0, none⟩)) rfl (by kernel_rfl) (by kernel_rfl) (by kernel_rfl) (by kernel_rfl) (by kernel_rfl) (fun _ _ _ h => h) rfl (fun W1 hW1 => by go_simp) (KpS.refl _ _ _) ?_
  simp only [Act.put, List.setIfInBounds_toArray, List.set_cons_zero, List.set_cons_succ]
  refine late_take (i := 8) (v := .pointer (some ⟨p, 1, none⟩)) rfl (by kernel_rfl) (by kernel_rfl) (by kernel_rfl) (by kernel_rfl) (by kernel_rfl) (fun _ _ _ h => h) rfl (fun W1 hW1 => by go_simp) (KpS.refl _ _ _) ?_
  simp only [Act.put, List.setIfInBounds_toArray, List.set_cons_zero, List.set_cons_succ]
  refine late_do (i := 5) (by kernel_rfl) rfl rfl (wp_enter (f := 44) (args := #[.slice ra bs.length rc]) (by go_simp) (cloneK_any w1.drew _ bs (RA.out.keep ((Keeps.refl [] w1).drew) (by intro _ _ _ _ _; simp)) (by omega)) ?_)
  rintro e w2 ⟨a2, c2, rfl, r2, n2, k2⟩
  refine ⟨_, rfl, Or.inr ((KpS.refl _ _ _).keeps k2 (by simp) (by simp)), ?_⟩
  simp only [Act.put, List.setIfInBounds_toArray, List.set_cons_zero, List.set_cons_succ]
  have kD : Keeps [] w1 w2 := (Keeps.refl [] w1).drew.trans k2
  have ok : RwOk w2 M ⟨k, l, s, .slice a2 bs.length c2, bs⟩ := ⟨r2, off_new n2 (fun b hb => by have h1 := HM.out b hb; have h2 : w.heap.size ≤ w1.drew.heap.size := HZ.out; omega), hl, by constructor <;> simp <;> omega, by constructor <;> simp <;> omega, by constructor <;> simp <;> omega⟩
  have hP := (HA.out.later kD).put k hk ⟨k, l, s, .slice a2 bs.length c2, bs⟩ rfl MM.out ok
  have hT := winAt_there (HA.out.later kD) k hk
  have sD : KpS [] w1.heap.size w1.drew w2 := (KpS.refl _ _ _).keeps k2 (by simp) (by simp)
  refine late_take (i := 6) (v := .agg #[.int .i64 k, .int .i64 l, .int .i64 s, .slice a2 bs.length c2]) rfl (by kernel_rfl) (by kernel_rfl) (by kernel_rfl) (by kernel_rfl) (by kernel_rfl) (fun _ _ _ h => h) rfl (fun W1 hW1 => by go_simp) (sD) ?_
  simp only [Act.put, List.setIfInBounds_toArray, List.set_cons_zero, List.set_cons_succ]
  refine late_take (i := 9) (v := .pointer (some ⟨p, 1 + k * 4, none⟩)) rfl (by kernel_rfl) (by kernel_rfl) (by kernel_rfl) (by kernel_rfl) (by kernel_rfl) (fun _ _ _ h => h) rfl (fun W1 hW1 => by go_simp) (sD) ?_
  simp only [Act.put, List.setIfInBounds_toArray, List.set_cons_zero, List.set_cons_succ]
  refine late_do (i := 10) (by kernel_rfl) rfl rfl (wp_stored (exec_storeMid 82 _ _ rfl p (1 + k * 4) #[.int .i64 k, .int .i64 l, .int .i64 s, .slice a2 bs.length c2] rfl rfl hT iRow8 (by simp [Value.oneCell'])) ?_)
  refine ⟨Or.inl rfl, ?_⟩
  simp only [Act.put, List.setIfInBounds_toArray, List.set_cons_zero, List.set_cons_succ]
  have PW := hid hP.1
  have PK := hid (((KA.out.trans kD).mono (S' := [p]) (by simp)).trans hP.2)
  clear hP hT ok kD D0 sD r2 n2 k2
  simp only [Rw.cells] at PW PK
  generalize w2.setCells p (1 + k * 4) [.int .i64 k, .int .i64 l, .int .i64 s, .slice a2 bs.length c2] = w3 at PW PK ⊢
  refine wpAnyT_done (by kernel_rfl) ?_ _
  go_wp2_with fail
  refine bodyPost_ret (results_none rfl _ _ _) rfl ?_
  exact ⟨rfl, ⟨_, PW.out⟩, PK.out⟩

theorem tup2 {a b : Int} {u v : Value} (h : a = b) (h2 : u = v) : Ending.returned (.tuple #[.int .i64 a, u]) = .returned (.tuple #[.int .i64 b, v]) := by rw [h, h2]

/-- What Ask leaves. -/
def AskPost (w : World) (M : List Nat) (T : Tab) (c l s : Int) (e : Ending) (w' : World) : Prop :=
  ∃ a n, e = .returned (.tuple #[.int .i64 (kindS T c l s), .slice a (replyS T c l s).length n]) ∧ RowAt w' (.slice a (replyS T c l s).length n) (replyS T c l s) ∧ Off M (.slice a (replyS T c l s).length n) (replyS T c l s) ∧ Keeps [] w w'

set_option maxHeartbeats 3200000 in
theorem nAsk_any (w : World) (p : Nat) (M : List Nat) (hM : ∀ b ∈ M, b < w.heap.size) (R : Nat → Rw) (T : Tab) (H : WinAt w p M R T) (c l s : Int) :
    Calls Try.prog 20 #[.pointer (some ⟨p, 0, none⟩), stV c l s] w (AskPost w M T c l s) := by
  have ka := (Keeps.refl [] w).alloc (.cells #[.int .i64 c, .int .i64 l, .int .i64 s] 48)
  have KA := hid ka
  have BA := hid (heap_alloc_new w (.cells #[.int .i64 c, .int .i64 l, .int .i64 s] 48))
  have HA := hid (H.later ka)
  have HM := hid hM
  have IM := hid (nIsMade_any _ p M R T HA.out)
  have KD := hid (nKind_any _ p M R T HA.out c l s)
  clear ka H hM
  unfold stV at KD ⊢
  go_enter Try.func20, Try.ntmps20
  go_wp2_with fail
  obtain ⟨g, hg⟩ : ∃ g, g = w.heap.size := ⟨_, rfl⟩
  have HZ : Hid (w.heap.size ≤ (w.alloc (.cells #[.int .i64 c, .int .i64 l, .int .i64 s] 48)).heap.size) := hid (by simp)
  rw [← hg] at BA ⊢
  clear hg
  generalize w.alloc (.cells #[.int .i64 c, .int .i64 l, .int .i64 s] 48) = w1 at KA BA HA HZ IM KD ⊢
  obtain ⟨ks, hks⟩ : ∃ z, z = kindS T c l s := ⟨_, rfl⟩
  rw [← hks] at KD
  have HKS := hid hks.symm
  clear hks
  by_cases h1 : ks = 1
  · subst h1
    have hm : mayS c l s = true := by
      cases h : mayS c l s with
      | true => rfl
      | false => have := HKS.out; simp [kindS, h] at this
    obtain ⟨q1, q2, _⟩ := mayS_is.1 hm
    obtain ⟨k, rfl⟩ : ∃ k : Nat, c = k := ⟨c.toNat, by omega⟩
    have hk : k < 4 := by omega
    have RR := hid (HA.out.row k hk)
    have OKK := hid (HA.out.ok k hk)
    have HR : Hid (replyS T k l s = (R k).bs) := hid (by
      have h := HKS.out
      have r := RR.out
      simp only [replyS, h, if_true, Int.toNat_natCast]
      simp only [kindS, hm, if_true, Int.toNat_natCast] at h
      cases hT : T k with
      | none => rw [hT] at h; simp [kindE] at h
      | some x => obtain ⟨x1, x2, x3⟩ := x; rw [hT] at r; exact r.2.2.2.1.symm)
    obtain ⟨ra, rc, hrow, -⟩ := OKK.out.row
    have HROW := hid hrow
    clear hrow
    go_wp2_with (first | (refine wpList_is rfl _ _ (exec_load _ _ _ _ rfl rfl (loadStB BA.out)) ?_) | (go_at_call 42; refine IM.out.mono ?_; rintro e w' ⟨rfl, rfl⟩) | (go_at_call 43; refine KD.out.mono ?_; rintro e w2 ⟨rfl, k2⟩; have K2 := hid k2; clear k2) | fail)
    have cR := (HA.out.later K2.out).cells k hk
    have pl := (HA.out.later K2.out).lt
    have B2 := hid ((K2.out.block _ (lt_of_block BA.out) (by simp)).trans BA.out)
    have bl := lt_of_block B2.out
    rw [HROW.out] at cR
    refine wp_region_any (by kernel_rfl) (wpAny_of_held (S := KpS [] w2.heap.size w2.drew) _ _ _ _ ?_)
    change wpAnyH _ _ _ _ _ _ _ _ w2.drew
    have D0 : ∀ W1, KpS [] w2.heap.size w2.drew W1 → W1.heap[g]? = some (.cells #[.int .i64 k, .int .i64 l, .int .i64 s] 48 (0, 0)) := fun W1 h => (h.block g bl (by simp)).trans B2.out
    have D3 : ∀ W1, KpS [] w2.heap.size w2.drew W1 → W1.cell? ⟨p, 1 + k * 4 + 3, none⟩ = some (.slice ra (R k).bs.length rc) := fun W1 h => h.cell (by rw [World.cell?_drew]; exact cR.2.2.2) pl (by simp)
    refine held_take (i := 0) (v := .int .i64 1) rfl (by kernel_rfl) (by kernel_rfl) (by kernel_rfl) (fun _ _ _ h => h) rfl (fun W1 hW1 => rfl) (KpS.refl _ _ _) ?_
    simp only [Act.put, List.setIfInBounds_toArray, List.set_cons_zero, List.set_cons_succ]
    refine held_take (i := 1) (v := .pointer (some ⟨p, 0, none⟩)) rfl (by kernel_rfl) (by kernel_rfl) (by kernel_rfl) (fun _ _ _ h => h) rfl (fun W1 hW1 => rfl) (KpS.refl _ _ _) ?_
    simp only [Act.put, List.setIfInBounds_toArray, List.set_cons_zero, List.set_cons_succ]
    refine held_take (i := 2) (v := .pointer (some ⟨g, 0, none⟩)) rfl (by kernel_rfl) (by kernel_rfl) (by kernel_rfl) (fun _ _ _ h => h) rfl (fun W1 hW1 => by go_simp) (KpS.refl _ _ _) ?_
    simp only [Act.put, List.setIfInBounds_toArray, List.set_cons_zero, List.set_cons_succ]
    refine held_take (i := 3) (v := .int .i64 k) rfl (by kernel_rfl) (by kernel_rfl) (by kernel_rfl) (fun _ _ _ h => h) rfl (fun W1 hW1 => exec_load _ _ _ _ rfl rfl (run_loadCell W1 _ _ _ ((block_cells3 (D0 W1 hW1)).1) (agg_no _ (by kernel_rfl)))) (KpS.refl _ _ _) ?_
    simp only [Act.put, List.setIfInBounds_toArray, List.set_cons_zero, List.set_cons_succ]
    refine held_take (i := 4) (v := .pointer (some ⟨p, 0, none⟩)) rfl (by kernel_rfl) (by kernel_rfl) (by kernel_rfl) (fun _ _ _ h => h) rfl (fun W1 hW1 => by go_simp) (KpS.refl _ _ _) ?_
    simp only [Act.put, List.setIfInBounds_toArray, List.set_cons_zero, List.set_cons_succ]
    refine held_take (i := 5) (v := .pointer (some ⟨p, 1, none⟩)) rfl (by kernel_rfl) (by kernel_rfl) (by kernel_rfl) (fun _ _ _ h => h) rfl (fun W1 hW1 => by go_simp) (KpS.refl _ _ _) ?_
    simp only [Act.put, List.setIfInBounds_toArray, List.set_cons_zero, List.set_cons_succ]
    refine held_take (i := 6) (v := .pointer (some ⟨p, 1 + k * 4, none⟩)) rfl (by kernel_rfl) (by kernel_rfl) (by kernel_rfl) (fun _ _ _ h => h) rfl (fun W1 hW1 => by go_simp) (KpS.refl _ _ _) ?_
    simp only [Act.put, List.setIfInBounds_toArray, List.set_cons_zero, List.set_cons_succ]
    refine held_take (i := 7) (v := .pointer (some ⟨p, 1 + k * 4 + 3, none⟩)) rfl (by kernel_rfl) (by kernel_rfl) (by kernel_rfl) (fun _ _ _ h => h) rfl (fun W1 hW1 => by go_simp) (KpS.refl _ _ _) ?_
    simp only [Act.put, List.setIfInBounds_toArray, List.set_cons_zero, List.set_cons_succ]
    refine held_take (i := 8) (v := .slice ra (R k).bs.length rc) rfl (by kernel_rfl) (by kernel_rfl) (by kernel_rfl) (fun _ _ _ h => h) rfl (fun W1 hW1 => exec_load _ _ _ _ rfl rfl (run_loadCell W1 _ _ _ (D3 W1 hW1) (agg_no _ (by kernel_rfl)))) (KpS.refl _ _ _) ?_
    simp only [Act.put, List.setIfInBounds_toArray, List.set_cons_zero, List.set_cons_succ]
    have rr := OKK.out.row
    rw [HROW.out] at rr
    refine held_do (i := 9) (by kernel_rfl) rfl rfl (wp_enter (f := 44) (args := #[.slice ra (R k).bs.length rc]) (by go_simp) (cloneK_any w2.drew _ (R k).bs (rr.keep (K2.out.trans (Keeps.refl [] w2).drew) (by intro _ _ _ _ _; simp)) (by have := OKK.out.fit; omega)) ?_)
    rintro e w3 ⟨a3, c3, rfl, r3, n3, k3⟩
    refine ⟨_, rfl, (KpS.refl _ _ _).keeps k3 (by simp) (by simp), ?_⟩
    simp only [Act.put, List.setIfInBounds_toArray, List.set_cons_zero, List.set_cons_succ]
    have sE : KpS [] w2.heap.size w2.drew w3 := (KpS.refl _ _ _).keeps k3 (by simp) (by simp)
    refine held_take (i := 10) (v := .int .i64 1) rfl (by kernel_rfl) (by kernel_rfl) (by kernel_rfl) (fun _ _ _ h => h) rfl (fun W1 hW1 => by go_simp) (sE) ?_
    simp only [Act.put, List.setIfInBounds_toArray, List.set_cons_zero, List.set_cons_succ]
    refine held_take (i := 11) (v := .slice a3 (R k).bs.length c3) rfl (by kernel_rfl) (by kernel_rfl) (by kernel_rfl) (fun _ _ _ h => h) rfl (fun W1 hW1 => by go_simp) (sE) ?_
    simp only [Act.put, List.setIfInBounds_toArray, List.set_cons_zero, List.set_cons_succ]
    refine wpAnyH_done (by kernel_rfl) ?_ _
    have FIN : Hid (AskPost w M T k l s (.returned (.tuple #[.int .i64 1, .slice a3 (R k).bs.length c3])) w3) := hid (by
      unfold AskPost
      rw [HKS.out, HR.out]
      refine ⟨a3, c3, rfl, r3, off_new n3 (fun b hb => ?_), (KA.out.trans K2.out).drew.trans k3⟩
      have h1 := HM.out b hb
      have h2 : w.heap.size ≤ w2.drew.heap.size := (KA.out.trans K2.out).size
      omega)
    clear D0 D3 sE r3 n3 k3 rr cR
    go_wp2_with fail
    go_ret2
    exact FIN.out
  · have hb : (ks != 1) = true := by simpa using h1
    have HR : Hid (replyS T c l s = []) := hid (by
      have h := HKS.out
      simp only [replyS, h, h1, if_false])
    clear h1
    go_wp2_with (first | (refine wpList_is rfl _ _ (exec_load _ _ _ _ rfl rfl (loadStB BA.out)) ?_) | (go_at_call 42; refine IM.out.mono ?_; rintro e w' ⟨rfl, rfl⟩) | (go_at_call 43; refine KD.out.mono ?_; rintro e w2 ⟨rfl, k2⟩; have K2 := hid k2; clear k2) | fail)
    go_ret2
    unfold AskPost
    rw [HKS.out, HR.out]
    exact ⟨none, 0, rfl, RowAt.nil _, by intro _ _ _ e; (try cases e), KA.out.trans K2.out⟩

set_option maxHeartbeats 3200000 in
theorem nDone_any (w : World) (p : Nat) (M : List Nat) (hM : ∀ b ∈ M, b < w.heap.size) (R : Nat → Rw) (T : Tab) (H : WinAt w p M R T) (c l s : Int) (ra : Option Addr) (rc : Nat) (bs : List Int) (hr : RowAt w (.slice ra bs.length rc) bs) (hl : bs.length ≤ 100) :
    Calls Try.prog 21 #[.pointer (some ⟨p, 0, none⟩), stV c l s, .slice ra bs.length rc] w (KeptPost w p M (doneT T c l s bs) (.int .i64 (doneA T c l s))) := by
  have ka := (Keeps.refl [] w).alloc (.cells #[.int .i64 c, .int .i64 l, .int .i64 s] 48)
  have KA := hid ka
  have BA := hid (heap_alloc_new w (.cells #[.int .i64 c, .int .i64 l, .int .i64 s] 48))
  have HA := hid (H.later ka)
  have RA := hid (hr.keep ka (by intro _ _ _ _ _; simp))
  have HM := hid hM
  have IM := hid (nIsMade_any _ p M R T HA.out)
  have KD := hid (nKind_any _ p M R T HA.out c l s)
  clear ka H hM hr
  unfold stV at KD ⊢
  obtain ⟨ks, hks⟩ : ∃ z, z = kindS T c l s := ⟨_, rfl⟩
  rw [← hks] at KD
  have HKS := hid hks.symm
  clear hks
  go_enter Try.func21, Try.ntmps21
  go_wp2_with fail
  obtain ⟨g, hg⟩ : ∃ g, g = w.heap.size := ⟨_, rfl⟩
  have HZ : Hid (w.heap.size ≤ (w.alloc (.cells #[.int .i64 c, .int .i64 l, .int .i64 s] 48)).heap.size) := hid (by simp)
  rw [← hg] at BA ⊢
  clear hg
  generalize w.alloc (.cells #[.int .i64 c, .int .i64 l, .int .i64 s] 48) = w1 at KA BA HA RA HZ IM KD ⊢
  by_cases h2 : ks = 2
  · subst h2
    have FT : Hid (doneT T c l s bs = T ∧ doneA T c l s = 17) := hid (by simp [doneT, doneA, HKS.out])
    go_wp2_with (first | (refine wpList_is rfl _ _ (exec_load _ _ _ _ rfl rfl (loadStB BA.out)) ?_) | (go_at_call 42; refine IM.out.mono ?_; rintro e w' ⟨rfl, rfl⟩) | (go_at_call 43; refine KD.out.mono ?_; rintro e w2 ⟨rfl, k2⟩; have K2 := hid k2; clear k2) | fail)
    go_ret
    unfold KeptPost
    rw [FT.out.1, FT.out.2]
    exact ⟨rfl, ⟨R, HA.out.later K2.out⟩, (KA.out.trans K2.out).mono (by simp)⟩
  · by_cases h1 : ks = 1
    · subst h1
      have FT : Hid (doneT T c l s bs = T ∧ doneA T c l s = 17) := hid (by simp [doneT, doneA, HKS.out])
      clear h2
      go_wp2_with (first | (refine wpList_is rfl _ _ (exec_load _ _ _ _ rfl rfl (loadStB BA.out)) ?_) | (go_at_call 42; refine IM.out.mono ?_; rintro e w' ⟨rfl, rfl⟩) | (go_at_call 43; refine KD.out.mono ?_; rintro e w2 ⟨rfl, k2⟩; have K2 := hid k2; clear k2) | fail)
      go_ret
      unfold KeptPost
      rw [FT.out.1, FT.out.2]
      exact ⟨rfl, ⟨R, HA.out.later K2.out⟩, (KA.out.trans K2.out).mono (by simp)⟩
    · have hm : mayS c l s = true := by
        cases h : mayS c l s with
        | true => rfl
        | false => have := HKS.out; simp [kindS, h] at this; omega
      obtain ⟨q1, q2, _⟩ := mayS_is.1 hm
      obtain ⟨k, rfl⟩ : ∃ k : Nat, c = k := ⟨c.toNat, by omega⟩
      have FT : Hid (doneT T k l s bs = T.put k (l, s, bs) ∧ doneA T k l s = 0) := hid (by simp [doneT, doneA, HKS.out, h1, h2])
      have b1 : (ks == 1) = false := by simpa using h1
      have b2 : (ks == 2) = false := by simpa using h2
      have MM := hid hm
      clear h1 h2 hm q1 q2
      go_wp2_with (first | (refine wpList_is rfl _ _ (exec_load _ _ _ _ rfl rfl (loadStB BA.out)) ?_) | (go_at_call 42; refine IM.out.mono ?_; rintro e w' ⟨rfl, rfl⟩) | (go_at_call 43; refine KD.out.mono ?_; rintro e w2 ⟨rfl, k2⟩; have K2 := hid k2; have BA := hid ((k2.block _ (lt_of_block BA.out) (by simp)).trans BA.out); have KP := hid (nKeep_any w2 p M (fun b hb => by have h1 := HM.out b hb; have h2 := (KA.out.trans k2).size; omega) R T (HA.out.later k2) k l s MM.out ra rc bs (RA.out.keep k2 (by intro _ _ _ _ _; simp)) hl); unfold stV at KP; clear k2) | (go_at_call 45; refine KP.out.mono ?_; rintro e w3 ⟨rfl, HW3, k3⟩; have H3 := hid HW3; have K3 := hid k3; clear HW3 k3) | fail)
      go_ret
      unfold KeptPost
      rw [FT.out.1, FT.out.2]
      exact ⟨rfl, H3.out, ((KA.out.trans K2.out).mono (by simp)).trans K3.out⟩

theorem life_is {w : World} {p : Nat} {M : List Nat} {R : Nat → Rw} {T : Tab} (H : WinAt w p M R T) (k : Nat) (hk : k < 4) : (R k).l = lifeS T k := by
  have r := H.row k hk
  unfold lifeS
  rw [if_pos (by omega)]
  simp only [Int.toNat_natCast]
  cases hT : T k with
  | none => rw [hT] at r; exact r.1
  | some x => obtain ⟨x1, x2, x3⟩ := x; rw [hT] at r; exact r.2.1

set_option maxHeartbeats 1600000 in
theorem nLife_any (w : World) (p : Nat) (M : List Nat) (R : Nat → Rw) (T : Tab) (H : WinAt w p M R T) (c : Int) :
    Calls Try.prog 22 #[.pointer (some ⟨p, 0, none⟩), .int .i64 c] w fun e w' => e = .returned (.int .i64 (lifeS T c)) ∧ w = w' := by
  have IM := hid (nIsMade_any _ p M R T H)
  have IC := hid (nIsClient_any w c)
  by_cases h : 0 ≤ c ∧ c < 4
  · rw [decide_eq_true h] at IC
    obtain ⟨k, rfl⟩ : ∃ k : Nat, c = k := ⟨c.toNat, by omega⟩
    have hk : k < 4 := by omega
    have cR := (H.cells k hk).2.1
    have L := hid (life_is H k hk)
    clear H h
    go_enter Try.func22, Try.ntmps22
    go_wp2_with (first | (go_at_call 42; refine IM.out.mono ?_; rintro e w' ⟨rfl, rfl⟩) | (go_at_call 46; refine IC.out.mono ?_; rintro e w' ⟨rfl, rfl⟩) | fail)
    go_ret
    exact ⟨ret_i8 L.out, rfl⟩
  · rw [decide_eq_false h] at IC
    have L : Hid ((-1 : Int) = lifeS T c) := hid (by unfold lifeS; rw [if_neg h])
    clear H h
    go_enter Try.func22, Try.ntmps22
    go_wp2_with (first | (go_at_call 42; refine IM.out.mono ?_; rintro e w' ⟨rfl, rfl⟩) | (go_at_call 46; refine IC.out.mono ?_; rintro e w' ⟨rfl, rfl⟩) | fail)
    go_ret
    exact ⟨ret_i8 L.out, rfl⟩

/-- A window of which nothing is known, its first n rows made. -/
def newCells (n : Nat) : List Value := .bool true :: (List.range 4).flatMap fun i => [.int .i64 0, .int .i64 (if i < n then -1 else 0), .int .i64 0, .slice none 0 0]
def rw0 : Rw := ⟨0, -1, 0, .slice none 0 0, []⟩

/-- A window in new memory: no row's bytes lie in it, or in what was there. -/
def NewW8 (w : World) (M : List Nat) (T : Tab) (e : Ending) (w' : World) : Prop :=
  ∃ p, w.heap.size ≤ p ∧ e = .returned (.pointer (some ⟨p, 0, none⟩)) ∧ (∃ R, WinAt w' p (p :: M) R T) ∧ Keeps [] w w'

theorem newCells_set (k : Nat) (hk : k < 4) : (newCells k).toArray.setIfInBounds (1 + k * 4 + 1) (.int .i64 (-1)) = (newCells (k + 1)).toArray := by
  match k, hk with
  | 0, _ => rfl
  | 1, _ => rfl
  | 2, _ => rfl
  | 3, _ => rfl

set_option maxHeartbeats 1600000 in
theorem nNew_any (w : World) (M : List Nat) : Calls Try.prog 19 #[] w (NewW8 w M tab0) := by
  go_enter Try.func19, Try.ntmps19
  have HP := hid (heap_alloc_new w (.cells (newCells 0).toArray 85))
  have KP := hid ((Keeps.refl [] w).alloc (.cells (newCells 0).toArray 85))
  go_wp2_with fail
  go_loopw [5] (fun iv wr => ∃ k : Nat, k ≤ 4 ∧ iv = .int .i64 k ∧ wr.heap[w.heap.size]? = some (.cells (newCells k).toArray 85 (0, 0)) ∧ Keeps [] w wr) (fun iv _ => 4 - (intOf iv).toNat)
  case atStart => exact ⟨0, by omega, rfl, HP.out, KP.out⟩
  case round =>
    obtain ⟨k, hk, rfl, hb, kk⟩ := hrel
    have KK := hid kk
    have HB := hid hb
    by_cases hlt : k < 4
    · have cc : wr.cell? ⟨w.heap.size, 1 + k * 4 + 1, none⟩ = some (.int .i64 0) := by
        rw [cell_of_row _ _ _ _ _ (0, 0) hb]
        match k, hlt with
        | 0, _ => rfl
        | 1, _ => rfl
        | 2, _ => rfl
        | 3, _ => rfl
      have ff : wr.frozen? ⟨w.heap.size, 1 + k * 4 + 1, none⟩ = false := by simp [World.frozen?, hb]
      have HB2 := hid (heap_setCell_same wr w.heap.size (1 + k * 4 + 1) _ 85 (.int .i64 (-1)) hb)
      have HE := hid (newCells_set k hlt)
      obtain ⟨p, hp⟩ : ∃ p, p = w.heap.size := ⟨_, rfl⟩
      rw [← hp] at cc ff HB2 ⊢
      have HPP := hid hp
      clear hb kk hp
      go_wp2_with fail
      go_roundw
      case rel =>
        refine ⟨k + 1, by omega, by go_num, ?_, KK.out.setCell (p := ⟨p, 1 + k * 4 + 1, none⟩) (Or.inr (by rw [HPP.out]; exact Nat.le_refl _)) _⟩
        rw [← HE.out]
        exact HB2.out
      case measure => simp [intOf]; omega
    · obtain rfl : k = 4 := by omega
      clear hb kk
      go_wp2_with fail
      go_ret
      refine ⟨w.heap.size, Nat.le_refl _, rfl, ⟨fun _ => rw0, ⟨HB.out, by simp, fun k hk => ⟨rfl, by constructor <;> decide, by constructor <;> decide, rfl, rfl⟩⟩⟩, KK.out⟩
end Go.Proofs.Ytkfebgbgnpdgpaa
