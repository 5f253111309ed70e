/- Slots: mark: a head is written, and lasts; Put and Clear. -/
import Derived.Test.YtnhcfkiejldicaaGreatSlH
namespace Go.Proofs.YtnhcfkiejldicaaGreat
open Go.RowKit Go.Shelf

theorem loadHd_run (W : World) (b off : Nat) (h : Hd) (hc : W.rangeAt b off h.cells) : (Instr.loadAt 100 (.pointer (some ⟨b, off, none⟩))).run Tryz.prog W = .ok (hdV h) W :=
  run_loadAt_mid W b off 100 h.cells _ hc uHd rfl (by rw [sHd]; rfl)
theorem wpList_boxHd {ops : Array Oper} {rest : List Oper} {o : Oper} {a : Act} {w : World} {Q : Exit → Act → World → Prop} (hgd : o.guard = none) (x : Operand) (ho : o.op = .box 100 x) (h : Hd) (hx : a.eval x = hdV h)
    (hk : wpList Tryz.prog ops Q rest (a.put o.dst (.pointer (some ⟨w.heap.size, 0, none⟩))) (w.alloc (.cells h.cells.toArray 100))) : wpList Tryz.prog ops Q (o :: rest) a w := by
  refine wpList_is hgd _ _ ?_ hk
  simp [execOp, ho, Instr.box, newVar, newRow, hx, hdV, Value.cells, Result.andThen]
theorem deadE_cases (s : DS) : (s.dead = true ∧ deadE s = 14) ∨ (s.dead = false ∧ deadE s = 0) := by
  cases h : s.dead
  · exact .inr ⟨rfl, by simp [deadE, h]⟩
  · exact .inl ⟨rfl, by simp [deadE, h]⟩

/-- What mark leaves. -/
def MarkPost (w : World) (q p g first : Nat) (hs : List Hd) (i : Nat) (h : Hd) (s2 : DS) (F : List Nat) (K : Nat) (e : Ending) (w' : World) : Prop :=
  e = .returned (.int .i64 (deadE s2)) ∧ ∃ F', DiskAt w' p s2 F' K ∧ SlotsAt w' q p g first (if s2.dead then hs else hs.set i h) ∧ Keeps (g :: F) w w' ∧ Fresh w F F'

set_option maxRecDepth 100000 in
set_option maxHeartbeats 6400000 in
theorem lMark_any (w : World) (q p g first : Nat) (hs : List Hd) (S : SlotsAt w q p g first hs) (m : Nat) (s : DS) (F : List Nat) (K : Nat) (D : DM w p m s F K) (hK : K ≤ 500000000) (hq : q ∉ F) (hgF : g ∉ F)
    (i bg : Nat) (hbg : bg = first + i * 8) (hi : i < hs.length) (hf : first + hs.length * 8 ≤ s.cnt) (hc : s.cnt ≤ 4160) (h : Hd) (ok : h.Ok) :
    Calls Tryz.prog 58 #[.pointer (some ⟨q, 0, none⟩), .int .i64 i, hdV h] w (MarkPost w q p g first hs i h (markS s bg h) F (K + 20)) := by
  have HS := hid S
  have HD := hid D
  have HOK := hid ok
  have hlb := headB_len h ok
  have hgs := S.ltg
  have hqs := S.ltq
  have hqg := S.ne
  have lF := D.lt
  have nF : ∀ j, w.heap.size ≤ j → j ∉ F := fun j hj hm => by have := lF j hm; omega
  obtain ⟨s2, hs2⟩ : ∃ x, x = markS s bg h := ⟨_, rfl⟩
  rw [← hs2]
  have HM2 : Hid (syncS (writeS s bg (pad64 (headB h))) = s2) := hid hs2.symm
  clear S D ok hs2
  go_enter Tryz.func58, Tryz.ntmps58
  go_wp2_with (first | (refine wpList_boxHd rfl _ rfl _ rfl ?_) | (refine wpList_loadHd rfl _ rfl w.heap.size 0 rfl h (rangeNew _ _ _) ?_) | fail)
  have kA : Keeps [] w (w.alloc (.cells h.cells.toArray 100)) := (Keeps.refl [] w).alloc _
  have gA := heap_alloc_new w (.cells h.cells.toArray 100)
  have zA : (w.alloc (.cells h.cells.toArray 100)).heap.size = w.heap.size + 1 := by simp
  generalize w.alloc (.cells h.cells.toArray 100) = w1 at kA gA zA ⊢
  refine (lBytes_any h HOK.out w1).mono ?_
  rintro e w2 ⟨_, rfl, rB, ⟨ba, bn, bc, rfl⟩, kB⟩
  have RB2 := hid rB
  have K2 := hid (kA.trans kB)
  have G2 := hid ((kB.block _ (lt_of_block gA) (by simp)).trans gA)
  have z2 : w1.heap.size ≤ w2.heap.size := kB.size
  clear rB kB kA gA
  have S2 := hid (HS.out.keep K2.out (by simp) (by simp))
  have D2 := hid (HD.out.keep K2.out (by simp))
  have LB := lBegin_any w2 q p g first hs S2.out i (by omega) (by omega)
  rw [← hbg] at LB
  have LBH := hid LB
  have hb8 : bg + 8 ≤ s.cnt := by omega
  have LW := lWrite_any w2 q p g first hs S2.out m s F K D2.out (by omega) hq (bg : Int) _ (headB h) RB2.out (by omega)
  have hwe := writeE_is (s := s) (k := bg) (zs := pad64 (headB h)) (by omega) (pad64_len (by omega))
  rw [pad64_len (by omega)] at hwe
  rw [hwe] at LW
  have hcs : (writeS s (bg : Int) (pad64 (headB h))).cnt = s.cnt := writeS_cnt _ _ _
  have hm2 := HM2.out
  clear HM2
  generalize writeS s (bg : Int) (pad64 (headB h)) = s1 at LW hcs hm2
  have HM2 := hid hm2
  have LWH := hid LW
  clear LB LW hwe hbg hm2
  go_wp2_with fail
  refine LBH.out.mono ?_
  rintro e w3 ⟨rfl, rfl⟩
  go_wp2_with fail
  refine LWH.out.mono ?_
  rintro e w4 ⟨rfl, F4, d4, k4, fr4⟩
  have D4 := hid d4
  have g4 := (k4.block _ (lt_of_block G2.out) (nF _ (Nat.le_refl _))).trans G2.out
  have G4 := hid g4
  have K4 := hid ((K2.out.mono (by simp)).trans k4)
  have FR4 : Hid (Fresh w F F4) := hid fun b hb => (fr4 b hb).imp id (fun h => by omega)
  have hq4 : q ∉ F4 := fun hm => by rcases FR4.out _ hm with h | h; exact hq h; omega
  have hg4 : g ∉ F4 := fun hm => by rcases FR4.out _ hm with h | h; exact hgF h; omega
  have hn4 : w.heap.size ∉ F4 := fun hm => by rcases fr4 _ hm with h | h; exact nF _ (Nat.le_refl _) h; omega
  have S4 := hid (S2.out.keep k4 hq hgF)
  have z4 : w2.heap.size ≤ w4.heap.size := k4.size
  clear d4 k4 fr4 g4
  rcases deadE_cases s1 with ⟨hd, he⟩ | ⟨hd, he⟩
  · rw [he]
    have HD1 := hid hd
    clear hd he
    go_wp2_with fail
    go_ret
    have e12 : s1 = s2 := (syncS_dead HD1.out).symm.trans HM2.out
    rw [← e12]
    exact ⟨by simp [deadE, HD1.out], F4, (D4.out.mono (by omega)).at_, by rw [HD1.out]; exact S4.out, K4.out.mono (by intro k _ hk; simp [hk]), FR4.out⟩
  · rw [he]
    have c4 := S4.out.c0
    have SY := sync_any w4 p s1 F4 (K + 2) D4.out.at_ (by omega)
    rw [syncE_is] at SY
    rw [HM2.out] at SY
    have SYH := hid SY
    clear SY hd he
    go_wp2_with fail
    refine SYH.out.mono ?_
    rintro e w5 ⟨rfl, F5, d5, k5, fr5⟩
    have D5 := hid d5
    have S5 := hid (S4.out.keep k5 hq4 hg4)
    have G5 := hid ((k5.block _ (lt_of_block G4.out) hn4).trans G4.out)
    have K5 : Hid (Keeps F w w5) := hid (K4.out.trans' k5 (fun j hj hm => by rcases FR4.out _ hm with h | h; exact h; omega))
    have FR5 : Hid (Fresh w F F5) := hid fun b hb => by
      rcases fr5 b hb with h | h
      · exact FR4.out b h
      · exact .inr (by omega)
    have hg5 : g ∉ F5 := fun hm => by rcases FR5.out _ hm with h | h; exact hgF h; omega
    have z5 : w4.heap.size ≤ w5.heap.size := k5.size
    clear d5 k5 fr5 c4
    rcases deadE_cases s2 with ⟨hd, he⟩ | ⟨hd, he⟩
    · rw [he]
      have HD1 := hid hd
      clear hd he
      go_wp2_with fail
      go_ret
      exact ⟨by simp [deadE, HD1.out], F5, D5.out.mono (by omega), by rw [HD1.out]; exact S5.out, K5.out.mono (by intro k _ hk; simp [hk]), FR5.out⟩
    · rw [he]
      have HD1 := hid hd
      clear hd he
      go_wp2_with fail
      refine wp_region_any (by kernel_rfl) (wpAny_of_held (S := KpS [g] w5.heap.size w5.drew) _ _ _ _ ?_)
      change wpAnyH _ _ _ _ _ _ _ _ w5.drew
      have hlt : (i : Int) < (hs.length : Int) := by omega
      have cQ : ∀ W1, KpS [g] w5.heap.size w5.drew W1 → W1.cell? ⟨q, 2, none⟩ = some (.slice (some ⟨g, 0, none⟩) hs.length hs.length) := fun W1 h => h.cell (by rw [World.cell?_drew]; exact S5.out.c2) (by omega) (by simp; omega)
      have cH : ∀ W1, KpS [g] w5.heap.size w5.drew W1 → W1.rangeAt w.heap.size 0 h.cells := fun W1 hh => hh.range (fun j u hu => by rw [World.cell?_drew, Nat.zero_add, cell_of_row w5 w.heap.size j _ _ (0, 0) G5.out]; simpa using hu) (by omega) (by simp; omega)
      refine held_take (i := 0) (v := .pointer (some ⟨q, 0, none⟩)) rfl (by kernel_rfl) (by kernel_rfl) (by kernel_rfl) (fun _ _ _ h => h) rfl (fun W1 hW1 => rfl) (KpS.refl _ _ _) ?_
      simp only [Act.put, List.setIfInBounds_toArray, List.set_cons_zero, List.set_cons_succ]
      refine held_take (i := 1) (v := .pointer (some ⟨q, 0, none⟩)) rfl (by kernel_rfl) (by kernel_rfl) (by kernel_rfl) (fun _ _ _ h => h) rfl (fun W1 hW1 => by go_simp) (KpS.refl _ _ _) ?_
      simp only [Act.put, List.setIfInBounds_toArray, List.set_cons_zero, List.set_cons_succ]
      refine held_take (i := 2) (v := .pointer (some ⟨q, 2, none⟩)) rfl (by kernel_rfl) (by kernel_rfl) (by kernel_rfl) (fun _ _ _ h => h) rfl (fun W1 hW1 => by go_simp) (KpS.refl _ _ _) ?_
      simp only [Act.put, List.setIfInBounds_toArray, List.set_cons_zero, List.set_cons_succ]
      refine held_take (i := 3) (v := .slice (some ⟨g, 0, none⟩) hs.length hs.length) rfl (by kernel_rfl) (by kernel_rfl) (by kernel_rfl) (fun _ _ _ h => h) rfl (fun W1 hW1 => exec_load _ _ _ _ rfl rfl (run_loadCell W1 _ _ _ (cQ W1 hW1) (agg_no _ (by kernel_rfl)))) (KpS.refl _ _ _) ?_
      simp only [Act.put, List.setIfInBounds_toArray, List.set_cons_zero, List.set_cons_succ]
      refine held_take (i := 4) (v := .int .i64 i) rfl (by kernel_rfl) (by kernel_rfl) (by kernel_rfl) (fun _ _ _ h => h) rfl (fun W1 hW1 => rfl) (KpS.refl _ _ _) ?_
      simp only [Act.put, List.setIfInBounds_toArray, List.set_cons_zero, List.set_cons_succ]
      refine held_take (i := 5) (v := hdV h) rfl (by kernel_rfl) (by kernel_rfl) (by kernel_rfl) (fun _ _ _ h => h) rfl (fun W1 hW1 => exec_load _ _ _ _ rfl rfl (loadHd_run W1 _ _ h (cH W1 hW1))) (KpS.refl _ _ _) ?_
      simp only [Act.put, List.setIfInBounds_toArray, List.set_cons_zero, List.set_cons_succ]
      refine held_take (i := 6) (v := .pointer (some ⟨g, i * 3, none⟩)) rfl (by kernel_rfl) (by kernel_rfl) (by kernel_rfl) (fun _ _ _ h => h) rfl (fun W1 hW1 => by go_simp) (KpS.refl _ _ _) ?_
      simp only [Act.put, List.setIfInBounds_toArray, List.set_cons_zero, List.set_cons_succ]
      have hth : (w5.drew).there g (i * 3) 3 := there_of (w := w5.drew) S5.out.hds (i * 3) 3 (by have := hdsC_len hs; simp; omega)
      refine held_do (i := 7) (by kernel_rfl) rfl rfl (wp_store_mid 100 _ _ rfl g (i * 3) h.cells.toArray rfl rfl hth (by rw [sHd]; rfl) h.one ?_)
      have kk : KpS [g] w5.heap.size w5.drew (w5.drew.setCells g (i * 3) h.cells) := ((KpS.refl _ _ _).setCell _ _ _ (.inl (by simp))).setCell _ _ _ (.inl (by simp)) |>.setCell _ _ _ (.inl (by simp))
      refine ⟨kk, ?_⟩
      refine wpAnyH_done (by kernel_rfl) ?_ _
      have hs5 := setHd_hds (w := w5.drew) (T := 100) h hi S5.out.hds
      have hq5 := (setHd_other w5.drew g (i * 3) h hqg).trans S5.out.blk
      have S6 : Hid (SlotsAt (w5.drew.setCells g (i * 3) h.cells) q p g first (hs.set i h)) := hid ⟨by rw [List.length_set]; exact hq5, hs5, hqg, fun x hx => by
        rcases List.mem_or_eq_of_mem_set hx with hx | hx
        · exact S5.out.ok x hx
        · rw [hx]; exact HOK.out, by rw [List.length_set]; exact S5.out.few⟩
      have K6 : Hid (Keeps (g :: F) w (w5.drew.setCells g (i * 3) h.cells)) := hid (setHd_keeps ((K5.out.drew).mono (by intro k _ hk; simp [hk])) h (.inl (by simp)))
      have D6 : Hid (DiskAt (w5.drew.setCells g (i * 3) h.cells) p s2 F5 (K + 20)) := hid ((D5.out.mono (by omega)).keep (setHd_keeps (S := [g]) ((Keeps.refl [g] w5).drew) h (.inl (by simp))) (fun b hb hm => by simp at hm; subst hm; exact hg5 hb))
      clear kk hs5 hq5 cQ cH hth
      go_wp2_with fail
      go_ret
      exact ⟨by simp [deadE, HD1.out], F5, D6.out, by rw [HD1.out]; exact S6.out, K6.out, FR5.out⟩
end Go.Proofs.YtnhcfkiejldicaaGreat
