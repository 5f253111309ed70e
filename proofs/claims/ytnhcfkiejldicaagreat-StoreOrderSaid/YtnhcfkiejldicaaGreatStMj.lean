/- StBI, StBM, StDe, StPf, StLv, StLF, StLG, StLN, StLT, StLU, StLw, StIdP, StSt, StSu. -/
import Derived.Test.YtnhcfkiejldicaaGreatStZj
import Derived.Test.YtnhcfkiejldicaaGreatStAP
import Derived.Shelf.SlSortCmp.WholeK
import Derived.Test.YtnhcfkiejldicaaGreatShelfSI
import Derived.Shelf.SlSortCmp.NoneTotal
import Derived.ChangeSame
import Derived.Deep.Strs
import Derived.Test.YtnhcfkiejldicaaGreatOpenC
/- store: slices.Backward of ints. -/
namespace Go.Proofs.YtnhcfkiejldicaaGreat
open Go.RowKit Go.Shelf Go.Maps
set_option maxRecDepth 100000
set_option linter.unusedSimpArgs false

set_option maxHeartbeats 2000000 in
theorem backI_in (n : Nat) (hn : 1 ≤ n) (l Bs n₀ b cap : Nat) (S : List Nat) (xs : List Int) (hreach : xs.length ≤ 1099511627776) (hb : b < n₀ ∧ b ∉ S) (hbs : Bs < n₀ ∧ Bs ∉ S) (J Jx : List Int → World → Prop)
    (hY : ∀ pre x (i : Int) W, x ∈ xs → J pre W → pre.length < xs.length → YieldAt Fence.wide (n - 1) Tryz.prog l #[.int .i64 i, .int .i64 x] W fun e W' =>
      (e = .returned (.bool true) ∧ J (pre ++ [x]) W' ∧ KpS S n₀ W W') ∨ (e = .returned (.bool false) ∧ Jx (pre ++ [x]) W'))
    (W : World) (hBs : W.cell? ⟨Bs, 0, none⟩ = some (.slice (some ⟨b, 0, none⟩) xs.length cap))
    (hc : ∀ j (hj : j < xs.length), W.cell? ⟨b, j, none⟩ = some (.int .i64 xs[j])) (h0 : J [] W) :
    CallsIn Fence.wide n Tryz.prog 60 #[.func (.yield l) #[] #[], .pointer (some ⟨Bs, 0, none⟩)] W fun e W' => (∃ v, e = .returned v) ∧
      (J xs.reverse W' ∨ (∃ pre, Jx pre W')) := by
  refine callsIn_of_wp Tryz.func60 rfl trivial ?_ rfl
  simp only [Tryz.ntmps60, List.size_toArray, List.length_cons, List.length_nil, Nat.reduceAdd, Nat.reduceSub, Array.replicate_succ, Array.replicate_zero, List.push_toArray, List.append_toArray, List.nil_append, List.cons_append]
  have HC := hid hc
  have HY := hid hY
  have HB := hid hBs
  clear hc hY
  gi_wp2
  gi_loopw [3] (fun i wr => ∃ k : Nat, k ≤ xs.length ∧ i = .int .i64 ((k : Int) - 1) ∧ J (xs.drop k).reverse wr ∧ KpS S n₀ W wr)
    (fun i _ => (intOf i + 1).toNat)
  case atStart => exact ⟨xs.length, Nat.le_refl _, by go_num, by simpa using h0, KpS.refl _ _ _⟩
  case round =>
    obtain ⟨k, hk, rfl, hJs, hnx⟩ := hrel
    have HJ := hid hJs
    have HN := hid hnx
    clear hJs hnx
    have cB : wr.cell? ⟨Bs, 0, none⟩ = some (.slice (some ⟨b, 0, none⟩) xs.length cap) := HN.out.cell HB.out hbs.1 hbs.2
    cases k with
    | zero =>
      gi_wp2
      go_end0
      exact ⟨⟨_, rfl⟩, .inl (by simpa using HJ.out)⟩
    | succ j =>
      have hlt : j < xs.length := by omega
      have ej : ((j + 1 : Nat) : Int) - 1 = (j : Int) := by omega
      rw [ej]
      have EJ := hid ej
      clear ej
      have c0 : wr.cell? ⟨b, j, none⟩ = some (.int .i64 xs[j]) := HN.out.cell (HC.out j hlt) hb.1 hb.2
      obtain ⟨fn, tmps, assign, body, hy, hR⟩ := HY.out _ xs[j] j wr (List.getElem_mem hlt) HJ.out (by rw [List.length_reverse, List.length_drop]; omega)
      have HT : Hid ((xs.drop (j + 1)).reverse ++ [xs[j]] = (xs.drop j).reverse) := hid (by rw [← List.getElem_cons_drop (h := hlt), List.reverse_cons])
      generalize xs[j] = x at *
      have HR := hid hR
      clear hR
      gi_wp2
      refine HR.out.mono ?_
      rintro e W3 (⟨rfl, hJ3, hk3⟩ | ⟨rfl, hJx3⟩)
      · have HJ3 := hid hJ3
        have HK3 := hid hk3
        clear hJ3 hk3
        gi_wp2
        go_roundw
        case rel => exact ⟨j, by omega, by go_num, by rw [← HT.out]; exact HJ3.out, HN.out.trans HK3.out⟩
        case measure => simp [intOf]
      · have HJ3 := hid hJx3
        clear hJx3
        gi_wp2
        refine bodyPost_ret (results_none rfl _ _ _) rfl ?_
        exact ⟨⟨_, rfl⟩, .inr ⟨_, HJ3.out⟩⟩

theorem backI_stops (n : Nat) (hn : 1 ≤ n) (Bs n₀ b cap : Nat) (S : List Nat) (xs : List Int) (hreach : xs.length ≤ 1099511627776) (hb : b < n₀ ∧ b ∉ S) (hbs : Bs < n₀ ∧ Bs ∉ S) (w : World) (hn0 : n₀ ≤ w.heap.size)
    (hBs : w.cell? ⟨Bs, 0, none⟩ = some (.slice (some ⟨b, 0, none⟩) xs.length cap))
    (hc : ∀ j (hj : j < xs.length), w.cell? ⟨b, j, none⟩ = some (.int .i64 xs[j])) :
    SeqStopsK Fence.wide n Tryz.prog 60 #[.pointer (some ⟨Bs, 0, none⟩)] (fun x : {x : Int × Int // x.2 ∈ xs} => #[.int .i64 x.1.1, .int .i64 x.1.2]) (KpS S n₀) (fun ys => ys.map (·.1.2) = xs.reverse) (fun _ => True) xs.length w := fun l J Jx W hW hA _ hY h0 => by
  have K0 : KpS [] w.heap.size w W := KpS.below hW (Nat.le_refl _)
  refine (backI_in n hn l Bs n₀ b cap S xs hreach hb hbs (fun pre W => ∃ ps, ps.map (·.1.2) = pre ∧ J ps W) (fun pre W => ∃ ps, ps.map (·.1.2) = pre ∧ Jx ps W) ?_ W
    (K0.cell hBs (World.block_lt_of_cell? w _ hBs) (by simp)) (fun j hj => K0.cell (hc j hj) (by have := hb.1; omega) (by simp)) ⟨[], rfl, h0⟩).mono ?_
  · rintro pre x i W1 hx ⟨ps, rfl, hs⟩ hl
    obtain ⟨fn, tmps, assign, body, hy, hR⟩ := hY ps ⟨(i, x), hx⟩ W1 hs (by simpa using hl)
    refine ⟨fn, tmps, assign, body, hy, hR.mono ?_⟩
    rintro e W2 (⟨rfl, h1, h2⟩ | ⟨rfl, h1⟩)
    · exact .inl ⟨rfl, ⟨_, by simp, h1⟩, h2⟩
    · exact .inr ⟨rfl, _, by simp, h1⟩
  · rintro e W' ⟨h1, (⟨ps, hps, hs⟩ | ⟨pre, ps, hps, hs⟩)⟩
    · exact ⟨h1, .inl ⟨ps, hps, hs⟩⟩
    · exact ⟨h1, .inr ⟨ps, trivial, hs⟩⟩

theorem backI_any (w : World) (a : Option Addr) (n c : Nat) : Calls Tryz.prog 32 #[.slice a n c] w fun e w' => e = .returned (.func (.func 60) #[] #[.pointer (some ⟨w.heap.size, 0, none⟩)]) ∧ w.alloc (.cells #[.slice a n c] 58) = w' := by
  go_enter Tryz.func32, Tryz.ntmps32
  go_wp2_with fail
  go_ret
  exact ⟨rfl, rfl⟩
end Go.Proofs.YtnhcfkiejldicaaGreat


/- store: a slot is cleared, the disk's map being the one that it was. -/
namespace Go.Proofs.YtnhcfkiejldicaaGreat
open Go.RowKit Go.Shelf
set_option maxRecDepth 100000
set_option linter.unusedSimpArgs false

/-- Sync: its map is the one that it was. -/
theorem sync_anyM (w : World) (p m : Nat) (s : DS) (F : List Nat) (K : Nat) (H : DM w p m s F K) (hK : K ≤ 1000000000) :
    Calls Tryz.prog 44 #[.pointer (some ⟨p, 0, none⟩)] w fun e w' => e = .returned (.int .i64 (syncE s)) ∧ ∃ F', DM w' p m (syncS s) F' (K + 2) ∧ Keeps F w w' ∧ Fresh w F F' := by
  have H' := H
  obtain ⟨ok, lv, n, hi, rfl, hk⟩ := H
  have fr : Fresh w (foot p m lv) (foot p m lv) := fun b hb => Or.inl hb
  by_cases hd : s.dead = true
  · have e1 : syncE s = 14 := by simp [syncE, hd]
    have e2 : syncS s = s := by simp [syncS, hd]
    rw [e1, e2]
    refine (sync_dead w p m n lv s hi ok.lo hd).mono ?_
    rintro e w' ⟨rfl, kp⟩
    exact ⟨rfl, _, (H'.keep kp (by simp)).mono (by omega), kp.mono (by simp), fr⟩
  · have hd' : s.dead = false := by simpa using hd
    have hop := ok.op
    by_cases hf : s.fuse = 0
    · have e1 : syncE s = 14 := by simp [syncE, hd', hf]
      have e2 : syncS s = { s with dead := true } := by simp [syncS, hd', hf]
      rw [e1, e2]
      refine (sync_dies w p m n lv s hi ok.lo hd' ok.fz ⟨hop.1, by omega⟩ hf).mono ?_
      rintro e w' ⟨rfl, D, kp⟩
      exact ⟨rfl, _, ⟨⟨ok.lo, ok.hi, ok.fz, ⟨hop.1, by have := hop.2; simp only; omega⟩, ok.at_, ok.eqs⟩, lv, n, D, rfl, by simp only; omega⟩, kp.mono (by intro k _ hk; simp at hk; simp [foot, hk]), fr⟩
    · have e1 : syncE s = 0 := by simp [syncE, hd', hf]
      have e2 : syncS s = s.synced := by simp [syncS, hd', hf]
      rw [e1, e2]
      refine (callsIn_wide.1 (sync_in 9 (by omega) w p m n lv s hi ok.lo ok.hi hd' (by omega) (by omega) ok.fz ⟨hop.1, by omega⟩ ok.at_ hf)).mono ?_
      rintro e w' ⟨rfl, ⟨n', hn', hb, hM⟩, kp⟩
      refine ⟨rfl, foot p m (.slice none 0 0), ⟨⟨ok.lo, ok.hi, ?_, ⟨?_, ?_⟩, by simp [DS.synced], fun i _ => rfl⟩, _, n', ⟨hb, ?_, ?_⟩, rfl, ?_⟩, kp, ?_⟩
      · have := ok.fz
        simp only [DS.synced, DS.spent]; split <;> omega
      · simp only [DS.synced, DS.spent]; omega
      · simp only [DS.synced, DS.spent]; omega
      · have e : (s.loose.foldl syncStep fun i => (s.now i, s.las i)) = fun i => (s.now i, s.now i) := funext (synced_map s K ok)
        rw [e] at hM
        exact hM
      · exact World.ownsRow_nil _ _ _ _
      · simp only [DS.synced, List.length_nil]; omega
      · intro b hb
        refine Or.inl ?_
        simp only [foot, Value.ownBlock, Option.toList, List.mem_cons, List.not_mem_nil, or_false] at hb ⊢
        rcases hb with hb | hb
        · exact Or.inl hb
        · exact Or.inr (Or.inl hb)


/-- What mark leaves, the map that it was. -/
def MarkPostM (w : World) (q p m g first : Nat) (hs : List Hd) (i : Nat) (h : Hd) (s2 : DS) (F : List Nat) (K : Nat) (e : Ending) (w' : World) : Prop :=
  e = .returned (.int .i64 (deadE s2)) ∧ ∃ F', DM w' p m s2 F' K ∧ SlotsAt w' q p g first (if s2.dead then hs else hs.set i h) ∧ Keeps (g :: F) w w' ∧ Fresh w F F'

set_option maxRecDepth 100000 in
set_option maxHeartbeats 6400000 in
theorem lMark_anyM (w : World) (q p g first : Nat) (hs : List Hd) (S : SlotsAt w q p g first hs) (m : Nat) (s : DS) (F : List Nat) (K : Nat) (D : DM w p m s F K) (hK : K ≤ 500000000) (hq : q ∉ F) (hgF : g ∉ F)
    (i bg : Nat) (hbg : bg = first + i * 8) (hi : i < hs.length) (hf : first + hs.length * 8 ≤ s.cnt) (hc : s.cnt ≤ 4160) (h : Hd) (ok : h.Ok) :
    Calls Tryz.prog 58 #[.pointer (some ⟨q, 0, none⟩), .int .i64 i, hdV h] w (MarkPostM w q p m g first hs i h (markS s bg h) F (K + 20)) := by
  have HS := hid S
  have HD := hid D
  have HOK := hid ok
  have hlb := headB_len h ok
  have hgs := S.ltg
  have hqs := S.ltq
  have hqg := S.ne
  have lF := D.lt
  have nF : ∀ j, w.heap.size ≤ j → j ∉ F := fun j hj hm => by have := lF j hm; omega
  obtain ⟨s2, hs2⟩ : ∃ x, x = markS s bg h := ⟨_, rfl⟩
  rw [← hs2]
  have HM2 : Hid (syncS (writeS s bg (pad64 (headB h))) = s2) := hid hs2.symm
  clear S D ok hs2
  go_enter Tryz.func58, Tryz.ntmps58
  go_wp2_with (first | (refine wpList_boxHd rfl _ rfl _ rfl ?_) | (refine wpList_loadHd rfl _ rfl w.heap.size 0 rfl h (rangeNew _ _ _) ?_) | fail)
  have kA : Keeps [] w (w.alloc (.cells h.cells.toArray 100)) := (Keeps.refl [] w).alloc _
  have gA := heap_alloc_new w (.cells h.cells.toArray 100)
  have zA : (w.alloc (.cells h.cells.toArray 100)).heap.size = w.heap.size + 1 := by simp
  generalize w.alloc (.cells h.cells.toArray 100) = w1 at kA gA zA ⊢
  refine (lBytes_any h HOK.out w1).mono ?_
  rintro e w2 ⟨_, rfl, rB, ⟨ba, bn, bc, rfl⟩, kB⟩
  have RB2 := hid rB
  have K2 := hid (kA.trans kB)
  have G2 := hid ((kB.block _ (lt_of_block gA) (by simp)).trans gA)
  have z2 : w1.heap.size ≤ w2.heap.size := kB.size
  clear rB kB kA gA
  have S2 := hid (HS.out.keep K2.out (by simp) (by simp))
  have D2 := hid (HD.out.keep K2.out (by simp))
  have LB := lBegin_any w2 q p g first hs S2.out i (by omega) (by omega)
  rw [← hbg] at LB
  have LBH := hid LB
  have hb8 : bg + 8 ≤ s.cnt := by omega
  have LW := lWrite_any w2 q p g first hs S2.out m s F K D2.out (by omega) hq (bg : Int) _ (headB h) RB2.out (by omega)
  have hwe := writeE_is (s := s) (k := bg) (zs := pad64 (headB h)) (by omega) (pad64_len (by omega))
  rw [pad64_len (by omega)] at hwe
  rw [hwe] at LW
  have hcs : (writeS s (bg : Int) (pad64 (headB h))).cnt = s.cnt := writeS_cnt _ _ _
  have hm2 := HM2.out
  clear HM2
  generalize writeS s (bg : Int) (pad64 (headB h)) = s1 at LW hcs hm2
  have HM2 := hid hm2
  have LWH := hid LW
  clear LB LW hwe hbg hm2
  go_wp2_with fail
  refine LBH.out.mono ?_
  rintro e w3 ⟨rfl, rfl⟩
  go_wp2_with fail
  refine LWH.out.mono ?_
  rintro e w4 ⟨rfl, F4, d4, k4, fr4⟩
  have D4 := hid d4
  have g4 := (k4.block _ (lt_of_block G2.out) (nF _ (Nat.le_refl _))).trans G2.out
  have G4 := hid g4
  have K4 := hid ((K2.out.mono (by simp)).trans k4)
  have FR4 : Hid (Fresh w F F4) := hid fun b hb => (fr4 b hb).imp id (fun h => by omega)
  have hq4 : q ∉ F4 := fun hm => by rcases FR4.out _ hm with h | h; exact hq h; omega
  have hg4 : g ∉ F4 := fun hm => by rcases FR4.out _ hm with h | h; exact hgF h; omega
  have hn4 : w.heap.size ∉ F4 := fun hm => by rcases fr4 _ hm with h | h; exact nF _ (Nat.le_refl _) h; omega
  have S4 := hid (S2.out.keep k4 hq hgF)
  have z4 : w2.heap.size ≤ w4.heap.size := k4.size
  clear d4 k4 fr4 g4
  rcases deadE_cases s1 with ⟨hd, he⟩ | ⟨hd, he⟩
  · rw [he]
    have HD1 := hid hd
    clear hd he
    go_wp2_with fail
    go_ret
    have e12 : s1 = s2 := (syncS_dead HD1.out).symm.trans HM2.out
    rw [← e12]
    exact ⟨by simp [deadE, HD1.out], F4, D4.out.mono (by omega), by rw [HD1.out]; exact S4.out, K4.out.mono (by intro k _ hk; simp [hk]), FR4.out⟩
  · rw [he]
    have c4 := S4.out.c0
    have SY := sync_anyM w4 p m s1 F4 (K + 2) D4.out (by omega)
    rw [syncE_is] at SY
    rw [HM2.out] at SY
    have SYH := hid SY
    clear SY hd he
    go_wp2_with fail
    refine SYH.out.mono ?_
    rintro e w5 ⟨rfl, F5, d5, k5, fr5⟩
    have D5 := hid d5
    have S5 := hid (S4.out.keep k5 hq4 hg4)
    have G5 := hid ((k5.block _ (lt_of_block G4.out) hn4).trans G4.out)
    have K5 : Hid (Keeps F w w5) := hid (K4.out.trans' k5 (fun j hj hm => by rcases FR4.out _ hm with h | h; exact h; omega))
    have FR5 : Hid (Fresh w F F5) := hid fun b hb => by
      rcases fr5 b hb with h | h
      · exact FR4.out b h
      · exact .inr (by omega)
    have hg5 : g ∉ F5 := fun hm => by rcases FR5.out _ hm with h | h; exact hgF h; omega
    have z5 : w4.heap.size ≤ w5.heap.size := k5.size
    clear d5 k5 fr5 c4
    rcases deadE_cases s2 with ⟨hd, he⟩ | ⟨hd, he⟩
    · rw [he]
      have HD1 := hid hd
      clear hd he
      go_wp2_with fail
      go_ret
      exact ⟨by simp [deadE, HD1.out], F5, D5.out.mono (by omega), by rw [HD1.out]; exact S5.out, K5.out.mono (by intro k _ hk; simp [hk]), FR5.out⟩
    · rw [he]
      have HD1 := hid hd
      clear hd he
      go_wp2_with fail
      refine wp_region_any (by kernel_rfl) (wpAny_of_held (S := KpS [g] w5.heap.size w5.drew) _ _ _ _ ?_)
      change wpAnyH _ _ _ _ _ _ _ _ w5.drew
      have hlt : (i : Int) < (hs.length : Int) := by omega
      have cQ : ∀ W1, KpS [g] w5.heap.size w5.drew W1 → W1.cell? ⟨q, 2, none⟩ = some (.slice (some ⟨g, 0, none⟩) hs.length hs.length) := fun W1 h => h.cell (by rw [World.cell?_drew]; exact S5.out.c2) (by omega) (by simp; omega)
      have cH : ∀ W1, KpS [g] w5.heap.size w5.drew W1 → W1.rangeAt w.heap.size 0 h.cells := fun W1 hh => hh.range (fun j u hu => by rw [World.cell?_drew, Nat.zero_add, cell_of_row w5 w.heap.size j _ _ (0, 0) G5.out]; simpa using hu) (by omega) (by simp; omega)
      refine held_take (i := 0) (v := .pointer (some ⟨q, 0, none⟩)) rfl (by kernel_rfl) (by kernel_rfl) (by kernel_rfl) (fun _ _ _ h => h) rfl (fun W1 hW1 => rfl) (KpS.refl _ _ _) ?_
      simp only [Act.put, List.setIfInBounds_toArray, List.set_cons_zero, List.set_cons_succ]
      refine held_take (i := 1) (v := .pointer (some ⟨q, 0, none⟩)) rfl (by kernel_rfl) (by kernel_rfl) (by kernel_rfl) (fun _ _ _ h => h) rfl (fun W1 hW1 => by go_simp) (KpS.refl _ _ _) ?_
      simp only [Act.put, List.setIfInBounds_toArray, List.set_cons_zero, List.set_cons_succ]
      refine held_take (i := 2) (v := .pointer (some ⟨q, 2, none⟩)) rfl (by kernel_rfl) (by kernel_rfl) (by kernel_rfl) (fun _ _ _ h => h) rfl (fun W1 hW1 => by go_simp) (KpS.refl _ _ _) ?_
      simp only [Act.put, List.setIfInBounds_toArray, List.set_cons_zero, List.set_cons_succ]
      refine held_take (i := 3) (v := .slice (some ⟨g, 0, none⟩) hs.length hs.length) rfl (by kernel_rfl) (by kernel_rfl) (by kernel_rfl) (fun _ _ _ h => h) rfl (fun W1 hW1 => exec_load _ _ _ _ rfl rfl (run_loadCell W1 _ _ _ (cQ W1 hW1) (agg_no _ (by kernel_rfl)))) (KpS.refl _ _ _) ?_
      simp only [Act.put, List.setIfInBounds_toArray, List.set_cons_zero, List.set_cons_succ]
      refine held_take (i := 4) (v := .int .i64 i) rfl (by kernel_rfl) (by kernel_rfl) (by kernel_rfl) (fun _ _ _ h => h) rfl (fun W1 hW1 => rfl) (KpS.refl _ _ _) ?_
      simp only [Act.put, List.setIfInBounds_toArray, List.set_cons_zero, List.set_cons_succ]
      refine held_take (i := 5) (v := hdV h) rfl (by kernel_rfl) (by kernel_rfl) (by kernel_rfl) (fun _ _ _ h => h) rfl (fun W1 hW1 => exec_load _ _ _ _ rfl rfl (loadHd_run W1 _ _ h (cH W1 hW1))) (KpS.refl _ _ _) ?_
      simp only [Act.put, List.setIfInBounds_toArray, List.set_cons_zero, List.set_cons_succ]
      refine held_take (i := 6) (v := .pointer (some ⟨g, i * 3, none⟩)) rfl (by kernel_rfl) (by kernel_rfl) (by kernel_rfl) (fun _ _ _ h => h) rfl (fun W1 hW1 => by go_simp) (KpS.refl _ _ _) ?_
      simp only [Act.put, List.setIfInBounds_toArray, List.set_cons_zero, List.set_cons_succ]
      have hth : (w5.drew).there g (i * 3) 3 := there_of (w := w5.drew) S5.out.hds (i * 3) 3 (by have := hdsC_len hs; simp; omega)
      refine held_do (i := 7) (by kernel_rfl) rfl rfl (wp_store_mid 100 _ _ rfl g (i * 3) h.cells.toArray rfl rfl hth (by rw [sHd]; rfl) h.one ?_)
      have kk : KpS [g] w5.heap.size w5.drew (w5.drew.setCells g (i * 3) h.cells) := ((KpS.refl _ _ _).setCell _ _ _ (.inl (by simp))).setCell _ _ _ (.inl (by simp)) |>.setCell _ _ _ (.inl (by simp))
      refine ⟨kk, ?_⟩
      refine wpAnyH_done (by kernel_rfl) ?_ _
      have hs5 := setHd_hds (w := w5.drew) (T := 100) h hi S5.out.hds
      have hq5 := (setHd_other w5.drew g (i * 3) h hqg).trans S5.out.blk
      have S6 : Hid (SlotsAt (w5.drew.setCells g (i * 3) h.cells) q p g first (hs.set i h)) := hid ⟨by rw [List.length_set]; exact hq5, hs5, hqg, fun x hx => by
        rcases List.mem_or_eq_of_mem_set hx with hx | hx
        · exact S5.out.ok x hx
        · rw [hx]; exact HOK.out, by rw [List.length_set]; exact S5.out.few⟩
      have K6 : Hid (Keeps (g :: F) w (w5.drew.setCells g (i * 3) h.cells)) := hid (setHd_keeps ((K5.out.drew).mono (by intro k _ hk; simp [hk])) h (.inl (by simp)))
      have D6 : Hid (DM (w5.drew.setCells g (i * 3) h.cells) p m s2 F5 (K + 20)) := hid ((D5.out.mono (by omega)).keep (setHd_keeps (S := [g]) ((Keeps.refl [g] w5).drew) h (.inl (by simp))) (fun b hb hm => by simp at hm; subst hm; exact hg5 hb))
      clear kk hs5 hq5 cQ cH hth
      go_wp2_with fail
      go_ret
      exact ⟨by simp [deadE, HD1.out], F5, D6.out, by rw [HD1.out]; exact S6.out, K6.out, FR5.out⟩

set_option maxRecDepth 100000 in
set_option maxHeartbeats 6400000 in
theorem lClear_anyM (w : World) (q p m g first : Nat) (hs : List Hd) (s : DS) (F : List Nat) (K : Nat) (S : SlotsAt w q p g first hs) (D : DM w p m s F K) (hq : q ∉ F) (hgF : g ∉ F) (hfit : first + hs.length * 8 ≤ s.cnt) (hcnt : s.cnt ≤ 4160) (hK : K ≤ 400000000) (k : Nat) (hk : k < hs.length) (hu : hs[k].used = true) :
    Calls Tryz.prog 33 #[.pointer (some ⟨q, 0, none⟩), .int .i64 k] w (MarkPostM w q p m g first hs k hd0 (markS s (first + k * 8) hd0) F (K + 20)) := by
  have HS := hid S
  have ht : takeE hs k = 0 := by
    have h2 : hasS hs k = true := by simp [hasS, hk]
    simp only [takeE, usedS, headS_at hk, h2, hu, if_true]
  have HT := hid ht
  have MK := hid (lMark_anyM w q p g first hs S m s F K D (by omega) hq hgF k (first + k * 8) rfl hk hfit hcnt hd0 ⟨by simp [hd0], by simp [hd0], by simp [hd0], fun _ => rfl⟩)
  generalize markS s (first + k * 8) hd0 = s2 at MK
  clear S D ht hu
  go_enter Tryz.func33, Tryz.ntmps33
  go_wp2_with fail
  refine (lTake_any w q p g first hs HS.out k).mono ?_
  rintro e w' ⟨rfl, rfl⟩
  rw [HT.out]
  go_wp2_with fail
  refine MK.out.mono ?_
  rintro e w4 h4
  obtain ⟨rfl, h5⟩ := h4
  have H5 := hid h5
  clear h5
  go_wp2_with fail
  go_ret
  exact ⟨rfl, H5.out⟩
theorem SlotsAt.grown {w w' : World} {q p g first n₀ : Nat} {hs : List Hd} {row : Option Nat} (h : SlotsAt w q p g first hs) (hg : w.grownBy w' row) (hr : ∀ r, row = some r → n₀ ≤ r ∧ ∃ o : Obj, w.heap[r]? = some o ∧ o.isCells = false) (h1 : q < n₀) (h2 : g < n₀) : SlotsAt w' q p g first hs := by
  have low : ∀ b, b < n₀ → b < w.heap.size → w'.heap[b]? = w.heap[b]? := fun b hb hb2 => hg.block b hb2 (fun e => by have := (hr b e.symm).1; omega)
  exact ⟨(low q h1 h.ltq).trans h.blk, (low g h2 h.ltg).trans h.hds, h.ne, h.ok, h.few⟩
end Go.Proofs.YtnhcfkiejldicaaGreat


/- store: Delete of what is there. -/
namespace Go.Proofs.YtnhcfkiejldicaaGreat
open Go.RowKit Go.Shelf Go.Maps
set_option maxRecDepth 100000
set_option linter.unusedSimpArgs false

theorem usedN_clear : ∀ (hs : List Hd) (i : Nat) (h : i < hs.length) (x : Hd), hs[i].used = true → x.used = false → usedN (hs.set i x) + 1 = usedN hs
  | a :: l, 0, _, x, h1, h2 => by
    have h1' : a.used = true := h1
    simp [usedN, h1', h2]
  | a :: l, i + 1, h, x, h1, h2 => by
    have ih := usedN_clear l i (by simpa using h) x (by simpa using h1) h2
    unfold usedN at ih ⊢
    rw [List.set_cons_succ, List.filter_cons, List.filter_cons]
    split
    · simp only [List.length_cons]; omega
    · exact ih
theorem exec_delete {ρ : Operand → Value} {o : Oper} {w w' : World} {m : Nat} {z : Idn} (x y : Operand) (ho : o.op = .call { callee := .builtin .delete, args := #[x, y], argTypes := #[55, 36] }) (hx : ρ x = .map (some m)) (hy : ρ y = idV z)
    (hrun : (Builtin.delete_ #[55, 36] o.type #[.map (some m), idV z]).run Tryz.prog w = .ok (.tuple #[]) w') : (execOp ρ o).run Tryz.prog w = .ok (.value (.tuple #[])) w' := by
  simp [execOp, ho, resolve, invoke, builtin, hx, hy, hrun, Result.andThen]
section
variable {F : Fence} {n : Nat} {ops : Array Oper} {rest : List Oper} {o : Oper} {a : Act} {w : World} {Q : Exit → Act → World → Prop}
theorem wpListIn_loadCell (hgd : o.guard = none) (T : TypeId) (X : Operand) (ho : o.op = .load T X) (ad : Addr) (hx : a.eval X = .pointer (some ad)) (v : Value) (hc : w.cell? ad = some v) (hag : ∀ w, (isAgg T).run Tryz.prog w = .ok false w)
    (h : wpListIn F n Tryz.prog ops Q rest (a.put o.dst v) w) : wpListIn F n Tryz.prog ops Q (o :: rest) a w := by
  refine wpListIn_is hgd (by simp [noDefer, ho]) (fun w => by simp [Oper.about, ho]) _ _ ?_ h
  exact exec_load _ _ _ _ ho hx (run_loadCell w _ _ _ hc hag)
end
def DelPost (w : World) (t q p g m : Nat) (hs : List Hd) (F : List Nat) (K : Nat) (wh : Bool) (G : Idn → Option Nat) (x : Idn) (i : Nat) (s2 : DS) (e : Ending) (w' : World) : Prop :=
  ∃ F', Keeps (m :: g :: F) w w' ∧ Fresh w F F' ∧
    ((e = .returned (.int .i64 0) ∧ s2.dead = false ∧ StAt w' t q p g m (hs.set i hd0) s2 F' (K + 40) wh (setG G x none)) ∨
     (e = .returned (.int .i64 14) ∧ s2.dead = true ∧ StAt w' t q p g m hs s2 F' (K + 40) wh G))

set_option maxHeartbeats 12800000 in
theorem delete_in (n : Nat) (hn : 4 ≤ n) (w : World) (t q p g m : Nat) (hs : List Hd) (s : DS) (F : List Nat) (K : Nat) (wh : Bool) (G : Idn → Option Nat) (S : StAt w t q p g m hs s F K wh G) (hK : K ≤ 10000000) (x : Idn) (hm : mayI x = true) (i : Nat) (hg : G x = some i)
    (hinj : ∀ y, y.In → G y = some i → y = x) (hd : s.dead = false) :
    CallsIn Fence.wide n Tryz.prog 11 #[.pointer (some ⟨t, 0, none⟩), idV x] w (DelPost w t q p g m hs F K wh G x i (markS s (1 + i * 8) hd0)) := by
  have h1 : 1 ≤ n := by omega
  have hin := mayI_In hm
  have HS := hid S
  obtain ⟨hi, hu⟩ := S.at_ x i hin hg
  have HU := hid hu
  have HINJ := hid hinj
  obtain ⟨s2, hs2⟩ : ∃ z, z = markS s (1 + i * 8) hd0 := ⟨_, rfl⟩
  have hc2 : s2.cnt = s.cnt := by rw [hs2]; exact markS_cnt _ _ _
  rw [← hs2]
  have HS2 := hid hs2
  have HC2 := hid hc2
  obtain ⟨z, dm⟩ := S.sl.dk.dm
  have DM0 := hid dm
  obtain ⟨f, mf, hf⟩ := S.mp
  have MF0 := hid mf
  have HF0 := hid hf
  obtain ⟨b0, cap, cs, e2, e4, e5, e6⟩ : ∃ b0 cap cs, f x = .slice (some ⟨b0, 0, none⟩) 1 cap ∧ w.heap[b0]? = some (.cells cs 3 (0, 0)) ∧ cs[0]? = some (.int .i64 (i : Int)) ∧ Sfar t q g m F b0 := by
    rcases hf x hin with ⟨h, _⟩ | ⟨j, b0, cap, cs, e1, e2, _, e4, e5, e6⟩
    · rw [hg] at h; cases h
    · rw [hg] at e1
      injection e1 with e1
      subst e1
      exact ⟨b0, cap, cs, e2, e4, e5, e6⟩
  have E2 := hid e2
  have E45 := hid (And.intro e4 e5)
  have E6 := hid e6
  have HG := hid hg
  have HM := hid hm
  have HD := hid hd
  have lF := hid dm.lt
  obtain ⟨b1, b2, b3, ka⟩ := three_alloc w (.cells #[.pointer (some ⟨t, 0, none⟩)] 28) (.cells #[.int .i64 x.c, .int .i64 x.l, .int .i64 x.n, .int .i64 x.i] 36) (.cells #[.int .i64 0] 25)
  have SA := hid (S.keep ka)
  have KA := hid ka
  have A1 := hid b1
  have A2 := hid b2
  have A3 := hid b3
  clear S hg hm ka b1 b2 b3 hd hu hinj hs2 hc2 dm mf hf e2 e4 e5 e6
  refine callsIn_of_wp_marks Tryz.func11 rfl trivial ?_ rfl
  simp only [Tryz.ntmps11, List.size_toArray, List.length_cons, List.length_nil, Nat.reduceAdd, Nat.reduceSub, Array.replicate_succ, Array.replicate_zero, List.push_toArray, List.append_toArray, List.nil_append, List.cons_append]
  unfold idV
  gi_wp2
  generalize ((w.alloc (.cells #[.pointer (some ⟨t, 0, none⟩)] 28)).alloc (.cells #[.int .i64 x.c, .int .i64 x.l, .int .i64 x.n, .int .i64 x.i] 36)).alloc (.cells #[.int .i64 0] 25) = wA at SA KA A1 A2 A3 ⊢
  have ak := ask_any wA t p q m wh SA.out.blk x
  rw [HM.out] at ak
  simp only [if_true] at ak
  refine ⟨trivial, (callsIn_wide.2 ak).mono ?_⟩
  rintro e wB ⟨rfl, kk⟩
  have KB := hid (KA.out.trans kk)
  have SB := hid (SA.out.keep kk)
  have B1 := hid ((kk.block _ (lt_of_block A1.out) (by simp)).trans A1.out)
  have B2 := hid ((kk.block _ (lt_of_block A2.out) (by simp)).trans A2.out)
  have B3 := hid ((kk.block _ (lt_of_block A3.out) (by simp)).trans A3.out)
  clear kk ak A1 A2 A3 SA KA
  have c1 : wB.cell? ⟨w.heap.size, 0, none⟩ = some (.pointer (some ⟨t, 0, none⟩)) := by simp [World.cell?, B1.out]
  gi_wp2_with (first | (refine wpListIn_loadIdA rfl _ rfl _ rfl x B2.out ?_) | fail)
  have hh := has_any6 wB t p q m wh SB.out.blk _ _ _ _ SB.out.mp x hin
  rw [HG.out] at hh
  refine ⟨trivial, (callsIn_wide.2 hh).mono ?_⟩
  rintro e wC ⟨rfl, kk⟩
  have KC := hid (KB.out.trans kk)
  have SC := hid (SB.out.keep kk)
  have C1 := hid ((kk.block _ (lt_of_block B1.out) (by simp)).trans B1.out)
  have C2 := hid ((kk.block _ (lt_of_block B2.out) (by simp)).trans B2.out)
  have C3 := hid ((kk.block _ (lt_of_block B3.out) (by simp)).trans B3.out)
  clear kk hh c1 B1 B2 B3 SB KB
  have c1 : wC.cell? ⟨w.heap.size, 0, none⟩ = some (.pointer (some ⟨t, 0, none⟩)) := by simp [World.cell?, C1.out]
  have c0 := SC.out.blk.c0
  have DC := hid (DM0.out.keep KC.out (by simp))
  gi_wp2
  have DE : Calls Tryz.prog 31 #[.pointer (some ⟨p, 0, none⟩)] wC fun e w' => e = .returned (.bool false) ∧ wC = w' := by
    obtain ⟨ok, lv, nn, hin2, _⟩ := DC.out
    have := dead_any wC p z nn lv s hin2 ok.lo
    rw [HD.out] at this
    exact this
  refine ⟨trivial, (callsIn_wide.2 DE).mono ?_⟩
  rintro e _ ⟨rfl, rfl⟩
  clear DE c0
  gi_wp2
  rename_i KK hKK
  have MF := hid (MF0.out.keep KC.out (by simp))
  refine wpIn_wide.2 (wp_region_noPanic (wp_region_any (by kernel_rfl) (wpAny_of_held (S := KpS [] wC.heap.size wC.drew) _ _ _ _ ?_)))
  change wpAnyH _ _ _ _ _ _ _ _ wC.drew
  have hk : ∀ W1, KpS [] wC.heap.size wC.drew W1 → Keeps [] wC W1 := fun W1 h => ⟨h.os, h.tape, h.output, h.size, fun j hj hm => h.block j hj hm⟩
  have cb : ∀ W1, KpS [] wC.heap.size wC.drew W1 → W1.cell? ⟨w.heap.size, 0, none⟩ = some (.pointer (some ⟨t, 0, none⟩)) := fun W1 h => (hk W1 h).cell c1 (by simp)
  refine held_take (i := 0) (v := .pointer (some ⟨t, 0, none⟩)) rfl (by kernel_rfl) (by kernel_rfl) (by kernel_rfl) (fun _ _ _ h => h) rfl (fun W1 hW1 => exec_load _ _ _ _ rfl rfl (run_loadCell W1 _ _ _ (cb W1 hW1) (agg_no _ (by kernel_rfl)))) (KpS.refl _ _ _) ?_
  simp only [Act.put, List.setIfInBounds_toArray, List.set_cons_zero, List.set_cons_succ]
  refine held_take (i := 1) (v := .pointer (some ⟨t, 0, none⟩)) rfl (by kernel_rfl) (by kernel_rfl) (by kernel_rfl) (fun _ _ _ h => h) rfl (fun W1 hW1 => by go_simp) (KpS.refl _ _ _) ?_
  simp only [Act.put, List.setIfInBounds_toArray, List.set_cons_zero, List.set_cons_succ]
  refine held_take (i := 2) (v := .pointer (some ⟨t, 2, none⟩)) rfl (by kernel_rfl) (by kernel_rfl) (by kernel_rfl) (fun _ _ _ h => h) rfl (fun W1 hW1 => by go_simp) (KpS.refl _ _ _) ?_
  simp only [Act.put, List.setIfInBounds_toArray, List.set_cons_zero, List.set_cons_succ]
  refine held_take (i := 3) (v := .map (some m)) rfl (by kernel_rfl) (by kernel_rfl) (by kernel_rfl) (fun _ _ _ h => h) rfl (fun W1 hW1 => exec_load _ _ _ _ rfl rfl (run_loadCell W1 _ _ _ ((SC.out.blk.keep (hk W1 hW1) (by simp)).c2) (agg_no _ (by kernel_rfl)))) (KpS.refl _ _ _) ?_
  simp only [Act.put, List.setIfInBounds_toArray, List.set_cons_zero, List.set_cons_succ]
  refine held_take (i := 4) (v := idV x) rfl (by kernel_rfl) (by kernel_rfl) (by kernel_rfl) (fun _ _ _ h => h) rfl (fun W1 hW1 => exec_load _ _ _ _ rfl rfl (loadId_run (((hk W1 hW1).block _ (lt_of_block C2.out) (by simp)).trans C2.out))) (KpS.refl _ _ _) ?_
  simp only [Act.put, List.setIfInBounds_toArray, List.set_cons_zero, List.set_cons_succ]
  refine held_take (i := 5) (v := f x) rfl (by kernel_rfl) (by kernel_rfl) (by kernel_rfl) (fun _ _ _ h => h) rfl (fun W1 hW1 => exec_lookup _ _ rfl m K _ f (MF.out.keep (hk W1 hW1) (by simp)) rfl x hin rfl) (KpS.refl _ _ _) ?_
  simp only [Act.put, List.setIfInBounds_toArray, List.set_cons_zero, List.set_cons_succ]
  rw [E2.out]
  refine held_do (i := 6) (by kernel_rfl) rfl rfl (wp_enter (f := 32) (args := #[.slice (some ⟨b0, 0, none⟩) 1 cap]) (by go_simp) (backI_any wC.drew _ _ _) ?_)
  rintro e wD ⟨rfl, hwD⟩
  have sD : KpS [] wC.heap.size wC.drew wD := by rw [← hwD]; exact KpS.alloc (B := wC.drew) (KpS.refl [] wC.heap.size wC.drew) (Nat.le_refl wC.heap.size) _
  refine ⟨_, rfl, sD, ?_⟩
  simp only [Act.put, List.setIfInBounds_toArray, List.set_cons_zero, List.set_cons_succ]
  refine wpAnyH_done (by kernel_rfl) (NoPanic.normal ?_) _
  have hbs : wD.heap[wC.heap.size]? = some (.cells #[.slice (some ⟨b0, 0, none⟩) 1 cap] 58 (0, 0)) := by rw [← hwD]; exact heap_alloc_new wC.drew _
  have kCD := hk _ sD
  clear hwD sD cb hk c1 MF
  refine hKK _ _ ?_
  clear hKK
  have e0 : wC.drew.heap.size = wC.heap.size := rfl
  rw [e0]
  clear e0
  have kD := KC.out.trans kCD
  have zCD := lt_of_block hbs
  have zwC := lt_of_block C3.out
  have D1 := (kCD.block _ (lt_of_block C1.out) (by simp)).trans C1.out
  have D2 := (kCD.block _ (lt_of_block C2.out) (by simp)).trans C2.out
  have D3 := (kCD.block _ (lt_of_block C3.out) (by simp)).trans C3.out
  have SD := SC.out.keep kCD
  have DD := DC.out.keep kCD (by simp)
  have hb0 := (kD.block _ (lt_of_block E45.out.1) (by simp)).trans E45.out.1
  have hzw := kD.size
  have lg := HS.out.sl.sl.ltg
  have lq := HS.out.sl.sl.ltq
  have lm := MF0.out.lt
  have lt0 := lt_of_block HS.out.blk
  have hfit := HS.out.sl.fit
  have hcnt := HS.out.sl.cnt
  have nF : ∀ j, w.heap.size ≤ j → j ∉ g :: F := fun j hj hmm => by
    rcases List.mem_cons.1 hmm with h | h
    · omega
    · have := lF.out j h; omega
  have pz : p < wD.heap.size ∧ z < wD.heap.size := by
    obtain ⟨_, lv, nn, hin2, _⟩ := DD
    exact ⟨hin2.lt, hin2.map.lt⟩
  have SEQ := hid (backI_stops (n - 1) (by omega) wC.heap.size wD.heap.size b0 cap (g :: F) [(i : Int)] (by simp) ⟨lt_of_block hb0, fun hmm => by
      rcases List.mem_cons.1 hmm with h | h
      · exact E6.out.2.2.1 h
      · exact E6.out.1 h⟩ ⟨zCD, nF _ (by omega)⟩ wD (Nat.le_refl _) (cell_of_row _ _ 0 _ _ (0, 0) hbs) (fun j hj => by
    obtain rfl : j = 0 := by simpa using hj
    rw [cell_of_row _ _ 0 _ _ (0, 0) hb0]; exact E45.out.2))
  have KD := hid kD
  have SDH := hid SD
  have DDH := hid DD
  have N := hid nF
  clear C1 C2 C3 hbs hb0 kCD SC DC KC SD DD kD nF
  gi_wp2
  refine wpIn_rangeFunc_ownH rfl h1 (gf := 60) (lb := #[.pointer (some ⟨wC.heap.size, 0, none⟩)]) rfl trivial (fun _ _ => rfl) SEQ.out KpS.trans (KpS.putObj (Nat.le_refl _)) (Below.refl _ _) (fun _ => rfl)
    (fun pre W => KpS (g :: F) wD.heap.size wD W ∧ ((pre = [] ∧ DM W p z s F K ∧ SlotsAt W q p g 1 hs) ∨ (pre ≠ [] ∧ s2.dead = false ∧ ∃ F', DM W p z s2 F' (K + 20) ∧ SlotsAt W q p g 1 (hs.set i hd0) ∧ Fresh wD F F')))
    (fun c _ W => c = .ret ∧ s2.dead = true ∧ W.heap[w.heap.size + 1 + 1]? = some (.cells #[.int .i64 14] 25 (0, 0)) ∧ KpS ((w.heap.size + 1 + 1) :: g :: F) wD.heap.size wD W ∧ ∃ F', DM W p z s2 F' (K + 20) ∧ SlotsAt W q p g 1 hs ∧ Fresh wD F F')
    ?own ?ownx ⟨KpS.refl _ _ _, .inl ⟨rfl, DDH.out, SDH.out.sl.sl⟩⟩
    (fun y a' _ => a' = { tmps := #[.pointer (some ⟨t, 0, none⟩), .agg #[.int .i64 x.c, .int .i64 x.l, .int .i64 x.n, .int .i64 x.i], .pointer (some ⟨w.heap.size, 0, none⟩), .pointer (some ⟨w.heap.size + 1, 0, none⟩), .pointer (some ⟨w.heap.size + 1 + 1, 0, none⟩), .int .i64 0, undef, .int .i64 y.1.2, undef, .pointer (some ⟨t, 0, none⟩), .agg #[.int .i64 x.c, .int .i64 x.l, .int .i64 x.n, .int .i64 x.i], .int .i64 0, .int .i64 0, .bool false, undef, .pointer (some ⟨t, 0, none⟩), idV x, .bool true, .bool false, .pointer (some ⟨t, 0, none⟩), .pointer (some ⟨t, 0, none⟩), .pointer (some ⟨t, 0, none⟩), .pointer (some ⟨p, 0, none⟩), .bool false, .pointer (some ⟨t, 0, none⟩), .pointer (some ⟨t, 0, none⟩), .pointer (some ⟨t, 2, none⟩), .map (some m), idV x, .slice (some ⟨b0, 0, none⟩) 1 cap, .func (.func 60) #[] #[.pointer (some ⟨wC.heap.size, 0, none⟩)], .int .i64 y.1.1, .int .i64 y.1.2, undef, undef, undef, undef, undef, undef, undef, undef, undef, undef, undef, undef, undef, undef], defers := [] })
    (fun _ _ => fun _ _ _ _ hs _ _ => hs) ?assign ?body ?done ?stop
  case own =>
    rintro pre A B' row ⟨k1, h⟩ hg hr
    have hlow : ∀ k, k < wD.heap.size → B'.heap[k]? = A.heap[k]? := fun k hk => hg.block k (by have := k1.size; omega) (fun e => by have := (hr k e.symm).1; omega)
    have pp := pz.1
    have zz := pz.2
    refine ⟨k1.trans ⟨hg.os, hg.tape, hg.output, hg.size, fun k hk _ => hlow k hk⟩, ?_⟩
    rcases h with ⟨e, d, sl⟩ | ⟨e, e1, F', d, sl, fr⟩
    · exact .inl ⟨e, d.grown hg hr pp zz, sl.grown hg hr (by omega) (by omega)⟩
    · exact .inr ⟨e, e1, F', d.grown hg hr pp zz, sl.grown hg hr (by omega) (by omega), fr⟩
  case ownx =>
    rintro c pre A B' row ⟨e, e1, g1, k1, F', d, sl, fr⟩ hg hr
    have hlow : ∀ k, k < wD.heap.size → B'.heap[k]? = A.heap[k]? := fun k hk => hg.block k (by have := k1.size; omega) (fun e => by have := (hr k e.symm).1; omega)
    have pp := pz.1
    have zz := pz.2
    exact ⟨e, e1, (hlow _ (by omega)).trans g1, k1.trans ⟨hg.os, hg.tape, hg.output, hg.size, fun k hk _ => hlow k hk⟩, F', d.grown hg hr pp zz, sl.grown hg hr (by omega) (by omega), fr⟩
  case assign =>
    rintro l pre y W K' hI hC
    refine round_plain (by kernel_rfl) noOut_then ?_
    simp only [List.zip_toArray, List.zip_cons_cons, List.zip_nil_right, List.foldl_toArray, List.foldl_cons, List.foldl_nil, List.setIfInBounds_toArray, List.set_cons_zero, List.set_cons_succ]
    refine wpList_is rfl (.int .i64 y.1.2) W rfl ?_
    simp only [Act.put, List.setIfInBounds_toArray, List.set_cons_zero, List.set_cons_succ]
    refine wpList_nil ?_
    exact hC _ _ ⟨Nat.le_refl _, fun k o _ hk _ => hk⟩ (KpS.refl _ _ _) hI rfl
  case body =>
    rintro l pre ⟨⟨iv, yv⟩, hyv⟩ a' W hl2 _ ⟨hKp, hI⟩ rfl hlen
    obtain rfl : yv = (i : Int) := by simpa using hyv
    obtain rfl : pre = [] := by
      match pre, hlen with
      | [], _ => rfl
    obtain ⟨-, d1, sl1⟩ := hI.resolve_right (fun h => h.1 rfl)
    have hsz := hKp.size
    have kW := hKp.toKeeps
    have a1 := (hKp.block (w.heap.size) (by omega) (N.out _ (by omega))).trans D1
    have a3 := (hKp.block (w.heap.size + 1 + 1) (by omega) (N.out _ (by omega))).trans D3
    have c1 : W.cell? ⟨w.heap.size, 0, none⟩ = some (.pointer (some ⟨t, 0, none⟩)) := cell_of_row _ _ 0 _ _ (0, 0) a1
    have bl := SDH.out.blk.keep kW (by
      intro hmm
      rcases List.mem_cons.1 hmm with h | h
      · exact HS.out.ft.2.2.1 h
      · exact HS.out.ft.1 h)
    have c5 := bl.c1
    have CL := lClear_anyM W q p z g 1 hs s F K sl1 d1 HS.out.sl.hq HS.out.sl.hg hfit hcnt (by omega) i hi HU.out
    rw [← HS2.out] at CL
    have CLH := hid CL
    have A1 := hid a1
    have A3 := hid a3
    have KW := hid hKp
    have D1H := hid d1
    clear CL a1 a3 bl kW hKp d1 sl1 hI hlen
    have nFd : ∀ b, wD.heap.size ≤ b → b ∉ g :: F := fun b hb => N.out b (by omega)
    have NFD := hid nFd
    clear nFd
    rcases deadE_cases s2 with ⟨hdd, he⟩ | ⟨hdd, he⟩
    · have CL := CLH.out
      unfold MarkPostM at CL
      rw [he, if_pos hdd] at CL
      have CL2 := hid CL
      have HDD := hid hdd
      clear CL CLH he hdd
      gi_wp2_with (first | (rw [Oper.semAt_eq _ _ _ (by intro c e; cases e)]; go_simp) | fail)
      refine ⟨trivial, fun h => by simp [Fence.wide] at h, (CallsIn.inRound l (callsIn_wide.2 CL2.out)).mono ?_⟩
      rintro e W2 ⟨rfl, F2, d2, sl2, k2, fr2⟩
      have b3 := (k2.block (w.heap.size + 1 + 1) (by omega) (N.out _ (by omega))).trans A3.out
      have hW2 : W.heap.size ≤ W2.heap.size := k2.size
      have c2 : W2.cell? ⟨w.heap.size + 1 + 1, 0, none⟩ = some (.int .i64 0) := cell_of_row _ _ 0 _ _ (0, 0) b3
      have f2 : W2.frozen? ⟨w.heap.size + 1 + 1, 0, none⟩ = false := by simp [World.frozen?, b3]
      have B3 := hid b3
      have D2 := hid d2
      have S2 := hid sl2
      have K2 := hid k2
      have FR2 := hid fr2
      clear b3 d2 sl2 k2 fr2
      gi_wp2_with (first | (rw [Oper.semAt_eq _ _ _ (by intro c e; cases e)]; go_simp) | fail)
      have hoth : ∀ k, k ≠ w.heap.size + 1 + 1 → (W2.setCell ⟨w.heap.size + 1 + 1, 0, none⟩ (.int .i64 14)).heap[k]? = W2.heap[k]? := fun k hk => Below.heap_setCell _ _ _ _ hk
      have ks : Keeps [w.heap.size + 1 + 1] W2 (W2.setCell ⟨w.heap.size + 1 + 1, 0, none⟩ (.int .i64 14)) := (Keeps.refl [w.heap.size + 1 + 1] W2).setCell (.inl (by simp)) _
      have n3 : w.heap.size + 1 + 1 ∉ F2 := fun hmm => by
        rcases FR2.out _ hmm with h | h
        · exact N.out (w.heap.size + 1 + 1) (by omega) (List.mem_cons_of_mem _ h)
        · omega
      refine ⟨⟨by simpa [World.setCell] using hW2, fun k o hB h0 ho => (hoth k (by omega)).trans ((K2.out.block k (lt_of_block h0) (NFD.out k hB)).trans h0)⟩, rfl, HDD.out, heap_setCell_same _ _ _ _ _ _ B3.out, ?_, F2,
        D2.out.keep ks (fun b hb hmm => by simp at hmm; subst hmm; exact n3 hb), S2.out.keep ks (by simp; omega) (by simp; omega), ?_⟩
      · exact (KpS.keeps ((show KpS ((w.heap.size + 1 + 1) :: g :: F) wD.heap.size wD W from ⟨KW.out.os, KW.out.tape, KW.out.output, KW.out.size, fun k hk hmm => KW.out.block k hk (fun h => hmm (List.mem_cons_of_mem _ h))⟩)) K2.out (by omega) (fun j hj _ => List.mem_cons_of_mem _ hj)).setCell _ _ _ (.inl (by simp))
      · intro b hb
        rcases FR2.out b hb with h | h
        · exact .inl h
        · exact .inr (by omega)
    · have CL := CLH.out
      unfold MarkPostM at CL
      rw [he, if_neg (by rw [hdd]; simp)] at CL
      have CL2 := hid CL
      have HDD := hid hdd
      clear CL CLH he hdd
      gi_wp2_with (first | (rw [Oper.semAt_eq _ _ _ (by intro c e; cases e)]; go_simp) | fail)
      refine ⟨trivial, fun h => by simp [Fence.wide] at h, (CallsIn.inRound l (callsIn_wide.2 CL2.out)).mono ?_⟩
      rintro e W2 ⟨rfl, F2, d2, sl2, k2, fr2⟩
      have D2 := hid d2
      have S2 := hid sl2
      have K2 := hid k2
      have FR2 := hid fr2
      clear d2 sl2 k2 fr2
      gi_wp2_with (first | (rw [Oper.semAt_eq _ _ _ (by intro c e; cases e)]; go_simp) | fail)
      refine ⟨⟨K2.out.size, fun k o hB h0 ho => (K2.out.block k (lt_of_block h0) (NFD.out k hB)).trans h0⟩, (KpS.refl _ _ _).keeps K2.out (by omega) (fun j hj _ => hj), KW.out.keeps K2.out (by omega) (fun j hj _ => hj), .inr ⟨by simp, HDD.out, F2, D2.out, S2.out, ?_⟩⟩
      intro b hb
      rcases FR2.out b hb with h | h
      · exact .inl h
      · exact .inr (by omega)
  case done =>
    rintro D ys W hD hys ⟨hKp, hI⟩ hDD
    obtain ⟨-, hdd, F', dW, slW, frW⟩ := hI.resolve_left (fun h => by have h := h.1; subst h; simp at hys)
    have hsz := hKp.size
    have a1 := (hKp.block (w.heap.size) (by omega) (N.out _ (by omega))).trans D1
    have a2 := (hKp.block (w.heap.size + 1) (by omega) (N.out _ (by omega))).trans D2
    have a3 := (hKp.block (w.heap.size + 1 + 1) (by omega) (N.out _ (by omega))).trans D3
    have yw : Keeps (g :: F) w W := (KD.out.mono (by simp)).trans' hKp.toKeeps (fun j _ hmm => hmm)
    have tn : t ∉ g :: F := fun hmm => by
      rcases List.mem_cons.1 hmm with h | h
      · exact HS.out.ft.2.2.1 h
      · exact HS.out.ft.1 h
    have mn : m ∉ g :: F := fun hmm => by
      rcases List.mem_cons.1 hmm with h | h
      · exact HS.out.fm.2.2 h
      · exact HS.out.fm.1 h
    have BL := hid (HS.out.blk.keep yw tn)
    have tm : t ≠ m := HS.out.ft.2.2.2
    have qm : q ≠ m := fun h => HS.out.fm.2.1 h.symm
    have gm : g ≠ m := fun h => HS.out.fm.2.2 h.symm
    have MW := MF0.out.keep yw mn
    obtain ⟨W5, c', hrun, M5, -, hc5, k5⟩ := (MW.keep (Keeps.refl [] W).drew (by simp)).drop hin (0 : TypeId)
    have hcu : c' = usedN (hs.set i hd0) := by
      have h1 := hc5 (by rw [E2.out]; simp [vnil])
      have h2 := usedN_clear hs i hi hd0 HU.out rfl
      omega
    have kW5 : Keeps [m] W W5 := ((Keeps.refl [m] W).drew).trans k5
    have b3 := (kW5.block _ (lt_of_block a3) (by simp; omega)).trans a3
    have bD := (kW5.block D (lt_of_block hDD) (by simp; omega)).trans hDD
    have ND : Hid (D ∉ F') := hid (fun hmm => dW.cellsOf hmm (by omega) (by omega) hDD rfl)
    have A1 := hid a1
    have A2 := hid a2
    have YW := hid yw
    have HCU := hid hcu
    have RUN := hid hrun
    have M5H := hid M5
    have KW5 := hid kW5
    have B3 := hid b3
    have BD := hid bD
    have DWH := hid dW
    have SWH := hid slW
    have FRH := hid frW
    have HDD := hid hdd
    have KP5 : Hid (KpS [m] W.heap.size W.drew W5) := hid ((KpS.refl _ _ _).keeps k5 (Nat.le_refl _) (fun j hj _ => hj))
    clear a1 a2 a3 yw hcu tn mn MW hrun M5 hc5 k5 kW5 b3 bD dW slW frW hdd hI hKp hDD
    gi_wp2
    rename_i KK2 hKK2
    refine wpIn_wide.2 (wp_region_noPanic (wp_region_any (by kernel_rfl) (wpAny_of_held (S := KpS [m] W.heap.size W.drew) _ _ _ _ ?_)))
    change wpAnyH _ _ _ _ _ _ _ _ W.drew
    have hk : ∀ W1, KpS [m] W.heap.size W.drew W1 → Keeps [m] W W1 := fun W1 h => ⟨h.os, h.tape, h.output, h.size, fun j hj hm => h.block j hj hm⟩
    have cb : ∀ W1, KpS [m] W.heap.size W.drew W1 → W1.cell? ⟨w.heap.size, 0, none⟩ = some (.pointer (some ⟨t, 0, none⟩)) := fun W1 h => (hk W1 h).cell (cell_of_row _ _ 0 _ _ (0, 0) A1.out) (by simp; omega)
    refine held_take (i := 0) (v := .pointer (some ⟨t, 0, none⟩)) rfl (by kernel_rfl) (by kernel_rfl) (by kernel_rfl) (fun _ _ _ h => h) rfl (fun W1 hW1 => exec_load _ _ _ _ rfl rfl (run_loadCell W1 _ _ _ (cb W1 hW1) (agg_no _ (by kernel_rfl)))) (KpS.refl _ _ _) ?_
    simp only [Act.put, List.setIfInBounds_toArray, List.set_cons_zero, List.set_cons_succ]
    refine held_take (i := 1) (v := .pointer (some ⟨t, 0, none⟩)) rfl (by kernel_rfl) (by kernel_rfl) (by kernel_rfl) (fun _ _ _ h => h) rfl (fun W1 hW1 => by go_simp) (KpS.refl _ _ _) ?_
    simp only [Act.put, List.setIfInBounds_toArray, List.set_cons_zero, List.set_cons_succ]
    refine held_take (i := 2) (v := .pointer (some ⟨t, 2, none⟩)) rfl (by kernel_rfl) (by kernel_rfl) (by kernel_rfl) (fun _ _ _ h => h) rfl (fun W1 hW1 => by go_simp) (KpS.refl _ _ _) ?_
    simp only [Act.put, List.setIfInBounds_toArray, List.set_cons_zero, List.set_cons_succ]
    refine held_take (i := 3) (v := .map (some m)) rfl (by kernel_rfl) (by kernel_rfl) (by kernel_rfl) (fun _ _ _ h => h) rfl (fun W1 hW1 => exec_load _ _ _ _ rfl rfl (run_loadCell W1 _ _ _ ((BL.out.keep (hk W1 hW1) (by simp; omega)).c2) (agg_no _ (by kernel_rfl)))) (KpS.refl _ _ _) ?_
    simp only [Act.put, List.setIfInBounds_toArray, List.set_cons_zero, List.set_cons_succ]
    refine held_take (i := 4) (v := idV x) rfl (by kernel_rfl) (by kernel_rfl) (by kernel_rfl) (fun _ _ _ h => h) rfl (fun W1 hW1 => exec_load _ _ _ _ rfl rfl (loadId_run (((hk W1 hW1).block _ (lt_of_block A2.out) (by simp; omega)).trans A2.out))) (KpS.refl _ _ _) ?_
    simp only [Act.put, List.setIfInBounds_toArray, List.set_cons_zero, List.set_cons_succ]
    refine held_do (i := 5) (by kernel_rfl) rfl rfl (wp_value (exec_delete _ _ rfl rfl rfl RUN.out) ?_)
    refine ⟨KP5.out, ?_⟩
    simp only [Act.put, List.setIfInBounds_toArray, List.set_cons_zero, List.set_cons_succ]
    refine wpAnyH_done (by kernel_rfl) (NoPanic.normal ?_) _
    refine hKK2 _ _ ?_
    clear hKK2 cb hk
    have c3 : W5.cell? ⟨w.heap.size + 1 + 1, 0, none⟩ = some (.int .i64 0) := cell_of_row _ _ 0 _ _ (0, 0) B3.out
    have f3 : W5.frozen? ⟨w.heap.size + 1 + 1, 0, none⟩ = false := by simp [World.frozen?, B3.out]
    gi_wp2
    have ks : Keeps [w.heap.size + 1 + 1] W5 (W5.setCell ⟨w.heap.size + 1 + 1, 0, none⟩ (.int .i64 0)) := (Keeps.refl [w.heap.size + 1 + 1] W5).setCell (.inl (by simp)) _
    have eD : (W5.setCell ⟨w.heap.size + 1 + 1, 0, none⟩ (.int .i64 0)).heap[D]? = some (.deferred (some [])) := (Below.heap_setCell _ _ _ _ (show D ≠ w.heap.size + 1 + 1 by omega)).trans BD.out
    have e3 : (W5.setCell ⟨w.heap.size + 1 + 1, 0, none⟩ (.int .i64 0)).heap[w.heap.size + 1 + 1]? = some (.cells #[.int .i64 0] 25 (0, 0)) := heap_setCell_same _ _ _ _ _ _ B3.out
    generalize W5.setCell ⟨w.heap.size + 1 + 1, 0, none⟩ (.int .i64 0) = W6 at ks eD e3 ⊢
    refine ⟨by simp, .inl ⟨_, _, rfl, run_takeDeferred eD, ?_⟩⟩
    refine ⟨_, results_cell1 rfl _ _ ⟨w.heap.size + 1 + 1, 0, none⟩ (.int .i64 0) rfl (loadErr_var (cell_of_row _ _ 0 _ _ (0, 0) ((World.putObj_heap_other (by omega)).trans e3))), ?_⟩
    have kp : ∀ o, Keeps [m, w.heap.size + 1 + 1, D] W (W6.putObj D o) := fun o => ((KW5.out.mono (by intro k _ hk; simp at hk ⊢; omega)).trans (ks.mono (by intro k _ hk; simp at hk ⊢; omega))).trans ⟨rfl, rfl, rfl, by simp [World.putObj], fun k hk hmm => World.putObj_heap_other (by simp at hmm; omega)⟩
    have n3 : w.heap.size + 1 + 1 ∉ F' := fun hmm => by
      rcases FRH.out _ hmm with h | h
      · exact N.out (w.heap.size + 1 + 1) (by omega) (List.mem_cons_of_mem _ h)
      · omega
    have nm : m ∉ F' := fun hmm => by
      rcases FRH.out _ hmm with h | h
      · exact HS.out.fm.1 h
      · omega
    have wf : ∀ o, Keeps (m :: g :: F) w (W6.putObj D o) := fun o => (YW.out.mono (by intro j _ hj; exact List.mem_cons_of_mem _ hj)).trans' (kp o) (fun j hj hmm => by
      simp only [List.mem_cons, List.not_mem_nil, or_false] at hmm ⊢
      rcases hmm with h | h | h
      · exact .inl h
      · omega
      · omega)
    have k6 : ∀ o, Keeps [w.heap.size + 1 + 1, D] W5 (W6.putObj D o) := fun o => (ks.mono (by intro k _ hk; simp at hk ⊢; omega)).trans ⟨rfl, rfl, rfl, by simp [World.putObj], fun k hk hmm => World.putObj_heap_other (by simp at hmm; omega)⟩
    have old : ∀ b, b < w.heap.size → b ∉ F → b ∉ F' := fun b hb hn hmm => by
      rcases FRH.out b hmm with h | h
      · exact hn h
      · omega
    refine ⟨F', wf _, fun b hb => (FRH.out b hb).imp id (fun h => by omega), .inl ⟨rfl, HDD.out, ⟨HS.out.blk.keep (wf _) ?_, ⟨SWH.out.keep (kp _) (by simp; omega) (by simp; omega), ((DWH.out.keep (kp _) ?_).mono (by omega)).at_, old q lq HS.out.sl.hq, old g lg HS.out.sl.hg, by rw [HC2.out, List.length_set]; exact hfit⟩,
      ⟨updI f x vnil, ?_, fun y hy => ?_⟩, ⟨old t lt0 HS.out.ft.1, HS.out.ft.2⟩, ⟨nm, HS.out.fm.2⟩, fun y j hy hgy => ?_⟩⟩⟩
    · intro hmm
      rcases List.mem_cons.1 hmm with h | hmm
      · exact tm h
      rcases List.mem_cons.1 hmm with h | h
      · exact HS.out.ft.2.2.1 h
      · exact HS.out.ft.1 h
    · intro b hb hmm
      simp only [List.mem_cons, List.not_mem_nil, or_false] at hmm
      rcases hmm with h | h | h
      · exact nm (h ▸ hb)
      · exact n3 (h ▸ hb)
      · exact ND.out (h ▸ hb)
    · rw [← HCU.out]
      exact (M5H.out.keep (k6 _) (by simp; omega)).mono (by omega)
    · by_cases e : y = x
      · exact .inl ⟨by simp [setG, e], by rw [e, updI_same]⟩
      · rcases HF0.out y hy with ⟨g1, g2⟩ | ⟨j, b, cap', cs', g1, g2, g3, g4, g5, g6⟩
        · exact .inl ⟨by simp [setG, e, g1], by rw [updI_ne _ _ e, g2]⟩
        · refine .inr ⟨j, b, cap', cs', by simp [setG, e, g1], by rw [updI_ne _ _ e]; exact g2, g3, ((wf _).block b (lt_of_block g4) (fun hmm => ?_)).trans g4, g5, old b (lt_of_block g4) g6.1, g6.2⟩
          rcases List.mem_cons.1 hmm with h | hmm
          · exact g6.2.2.2.2 h
          rcases List.mem_cons.1 hmm with h | h
          · exact g6.2.2.1 h
          · exact g6.1 h
    · by_cases e : y = x
      · simp [setG, e] at hgy
      · have hgy' : G y = some j := by simpa [setG, e] using hgy
        obtain ⟨hj, hju⟩ := HS.out.at_ y j hy hgy'
        have hij : i ≠ j := fun h => e (HINJ.out y hy (h ▸ hgy'))
        exact ⟨by rw [List.length_set]; exact hj, by rw [List.getElem_set_ne hij]; exact hju⟩
  case stop =>
    rintro D c pre W hD _ ⟨rfl, hdd, g1, hKp, F', dW, slW, frW⟩ hDD
    gi_wp2
    have hsz := hKp.size
    have nD : D ∉ F' := fun hmm => dW.cellsOf hmm (by omega) (by omega) hDD rfl
    refine ⟨by simp, .inl ⟨_, _, rfl, run_takeDeferred hDD, ?_⟩⟩
    refine ⟨_, results_cell1 rfl _ _ ⟨w.heap.size + 1 + 1, 0, none⟩ (.int .i64 14) rfl (loadErr_var (cell_of_row _ _ 0 _ _ (0, 0) ((World.putObj_heap_other (by omega)).trans g1))), ?_⟩
    have kp : ∀ o, Keeps [D] W (W.putObj D o) := fun o => ⟨rfl, rfl, rfl, by simp [World.putObj], fun k hk hmm => World.putObj_heap_other (by simpa using hmm)⟩
    have yw : ∀ o, Keeps (g :: F) w (W.putObj D o) := fun o => ((KD.out.mono (by simp)).trans' hKp.toKeeps (fun j hj hmm => by
      rcases List.mem_cons.1 hmm with h | h
      · omega
      · exact h)).trans' (kp o) (fun j hj hmm => by simp at hmm; omega)
    have old : ∀ b, b < w.heap.size → b ∉ F → b ∉ F' := fun b hb hn hmm => by
      rcases frW b hmm with h | h
      · exact hn h
      · omega
    refine ⟨F', (yw _).mono (by intro j _ hj; exact List.mem_cons_of_mem _ hj), fun b hb => (frW b hb).imp id (fun h => by omega), .inr ⟨rfl, hdd, ⟨HS.out.blk.keep (yw _) ?_, ⟨slW.keep (kp _) (by simp; omega) (by simp; omega), ((dW.keep (kp _) (fun b hb hmm => by simp at hmm; subst hmm; exact nD hb)).mono (by omega)).at_, old q lq HS.out.sl.hq, old g lg HS.out.sl.hg, by rw [HC2.out]; exact hfit⟩,
      ((HS.out.mp.keep (yw _) ?_ ?_).mono (by omega)), ⟨old t lt0 HS.out.ft.1, HS.out.ft.2⟩, ⟨old m lm HS.out.fm.1, HS.out.fm.2⟩, HS.out.at_⟩⟩⟩
    · intro hmm
      rcases List.mem_cons.1 hmm with h | h
      · exact HS.out.ft.2.2.1 h
      · exact HS.out.ft.1 h
    · intro hmm
      rcases List.mem_cons.1 hmm with h | h
      · exact HS.out.fm.2.2 h
      · exact HS.out.fm.1 h
    · intro b hb hl
      refine ⟨fun hmm => ?_, old b hl hb.1, hb.2⟩
      rcases List.mem_cons.1 hmm with h | h
      · exact hb.2.2.1 h
      · exact hb.1 h

theorem oDelete_yes (w : World) (t q p g m : Nat) (hs : List Hd) (s : DS) (F : List Nat) (K : Nat) (wh : Bool) (G : Idn → Option Nat) (S : StAt w t q p g m hs s F K wh G) (hK : K ≤ 10000000) (x : Idn) (hm : mayI x = true) (i : Nat) (hg : G x = some i)
    (hinj : ∀ y, y.In → G y = some i → y = x) (hd : s.dead = false) :
    Calls Tryz.prog 11 #[.pointer (some ⟨t, 0, none⟩), idV x] w (DelPost w t q p g m hs F K wh G x i (markS s (1 + i * 8) hd0)) :=
  callsIn_wide.1 (delete_in 4 (by omega) w t q p g m hs s F K wh G S hK x hm i hg hinj hd)
end Go.Proofs.YtnhcfkiejldicaaGreat


/- store: Put of too many bytes, and where there is no room. -/
namespace Go.Proofs.YtnhcfkiejldicaaGreat
open Go.RowKit Go.Shelf Go.Maps
set_option maxRecDepth 100000
set_option linter.unusedSimpArgs false

set_option maxHeartbeats 3200000 in
theorem oPut_long (w : World) (t q p m : Nat) (wh : Bool) (B : StBlk w t p q m wh) (x : Idn) (hm : mayI x = true) (a : Option Addr) (n c : Nat) (hl : 448 < n) :
    Calls Tryz.prog 9 #[.pointer (some ⟨t, 0, none⟩), idV x, .slice a n c] w fun e w' => e = .returned (.int .i64 3) ∧ Keeps [] w w' := by
  have KA := hid ((Keeps.refl [] w).alloc (.cells #[.int .i64 x.c, .int .i64 x.l, .int .i64 x.n, .int .i64 x.i] 36))
  have B1 := hid (heap_alloc_new w (.cells #[.int .i64 x.c, .int .i64 x.l, .int .i64 x.n, .int .i64 x.i] 36))
  have BA := hid (B.keep KA.out (by simp))
  have HM := hid hm
  have hl' : (448 : Int) < (n : Int) := by omega
  clear B hm
  unfold idV
  go_enter Tryz.func9, Tryz.ntmps9
  go_wp2_with fail
  generalize w.alloc (.cells #[.int .i64 x.c, .int .i64 x.l, .int .i64 x.n, .int .i64 x.i] 36) = wA at KA B1 BA ⊢
  refine (made6_any wA t p q m wh BA.out).mono ?_
  rintro e _ ⟨rfl, rfl⟩
  go_wp2_with (first | (refine wpList_loadId rfl _ rfl _ rfl x B1.out ?_) | fail)
  have ky := key_any wA x
  rw [HM.out] at ky
  simp only [if_true] at ky
  refine ky.mono ?_
  rintro e wB ⟨ka, kc, rfl, rk, nk, kk⟩
  have KB := hid (KA.out.trans kk)
  clear kk ky rk nk
  go_wp2_with fail
  go_ret
  exact ⟨rfl, KB.out⟩

set_option maxHeartbeats 3200000 in
theorem oPut_full (w : World) (t q p g m : Nat) (hs : List Hd) (s : DS) (F : List Nat) (K : Nat) (wh : Bool) (G : Idn → Option Nat) (S : StAt w t q p g m hs s F K wh G) (x : Idn) (hm : mayI x = true) (hg : G x = none) (hfull : usedN hs = hs.length) (a : Option Addr) (n c : Nat) (hl : n ≤ 448) :
    Calls Tryz.prog 9 #[.pointer (some ⟨t, 0, none⟩), idV x, .slice a n c] w fun e w' => e = .returned (.int .i64 5) ∧ Keeps [] w w' := by
  have hin := mayI_In hm
  have KA := hid ((Keeps.refl [] w).alloc (.cells #[.int .i64 x.c, .int .i64 x.l, .int .i64 x.n, .int .i64 x.i] 36))
  have B1 := hid (heap_alloc_new w (.cells #[.int .i64 x.c, .int .i64 x.l, .int .i64 x.n, .int .i64 x.i] 36))
  have SA := hid (S.keep KA.out)
  have hl' : ¬ (448 : Int) < (n : Int) := by omega
  have HG := hid hg
  have HM := hid hm
  have hun := usedN_le hs
  have hne : ((hs.length : Int) - (usedN hs : Int) == 0) = true := by simp; omega
  clear S hg hm
  have hidv : idV x = .agg #[.int .i64 x.c, .int .i64 x.l, .int .i64 x.n, .int .i64 x.i] := rfl
  rw [hidv]
  have HIDV := hid hidv
  clear hidv
  go_enter Tryz.func9, Tryz.ntmps9
  go_wp2_with fail
  have LTI := hid (lt_of_block B1.out)
  obtain ⟨ib, hib⟩ : ∃ z, z = w.heap.size := ⟨_, rfl⟩
  rw [← hib] at B1 LTI ⊢
  clear hib
  generalize w.alloc (.cells #[.int .i64 x.c, .int .i64 x.l, .int .i64 x.n, .int .i64 x.i] 36) = wA at KA B1 SA LTI ⊢
  refine (made6_any wA t p q m wh SA.out.blk).mono ?_
  rintro e _ ⟨rfl, rfl⟩
  go_wp2_with (first | (refine wpList_loadId rfl _ rfl _ rfl x B1.out ?_) | fail)
  have ky := key_any wA x
  rw [HM.out] at ky
  simp only [if_true] at ky
  refine ky.mono ?_
  rintro e wB ⟨ka, kc, rfl, kr, kn, kk⟩
  have KB := hid (KA.out.trans kk)
  have SB := hid (SA.out.keep kk)
  have BB := hid ((kk.block _ LTI.out (by simp)).trans B1.out)
  clear kr kn kk ky
  go_wp2_with (first | (refine wpList_loadId rfl _ rfl _ rfl x BB.out ?_) | fail)
  have hh := has_any6 wB t p q m wh SB.out.blk _ _ _ _ SB.out.mp x hin
  rw [HG.out] at hh
  refine hh.mono ?_
  rintro e wC ⟨rfl, kk⟩
  have KC := hid (KB.out.trans kk)
  have SC := hid (SB.out.keep kk)
  clear kk hh
  go_wp2_with fail
  obtain ⟨f, mf, hf⟩ := SC.out.mp
  have hv : ∀ y, y.In → f y ≠ vnil → ∃ a cap, f y = .slice a 1 cap := fun y hy hn => by
    rcases hf y hy with ⟨_, h⟩ | ⟨_, _, cap, _, _, h, _⟩
    · exact absurd h hn
    · exact ⟨_, cap, h⟩
  refine (room_any6 wC t p q m g wh SC.out.blk hs SC.out.sl.sl K _ f mf hv hun).mono ?_
  clear mf hf hv
  rintro e wD ⟨rfl, kk⟩
  have KD := hid (KC.out.trans kk)
  clear kk
  go_wp2_with fail
  go_ret
  exact ⟨rfl, KD.out⟩
end Go.Proofs.YtnhcfkiejldicaaGreat


/- store: a store on a living disk: whatever is put, the store is one again. -/
namespace Go.Proofs.YtnhcfkiejldicaaGreat
open Go.RowKit Go.Shelf Go.Maps
set_option maxRecDepth 100000
set_option linter.unusedSimpArgs false

theorem keyI_byte (x : Idn) : ∀ z ∈ keyI x, 0 ≤ z ∧ z ≤ 255 := fun z hz => by
  simp only [keyI, List.mem_append] at hz
  rcases hz with ((h | h) | h) | h <;> exact be_byte _ _ z h
set_option maxHeartbeats 3200000 in
theorem oDelete_arg (w : World) (t q p m : Nat) (wh : Bool) (B : StBlk w t p q m wh) (x : Idn) (hm : mayI x = false) :
    Calls Tryz.prog 11 #[.pointer (some ⟨t, 0, none⟩), idV x] w fun e w' => e = .returned (.int .i64 1) ∧ Keeps [] w w' := by
  have HM := hid hm
  obtain ⟨b1, b2, b3, ka⟩ := three_alloc w (.cells #[.pointer (some ⟨t, 0, none⟩)] 28) (.cells #[.int .i64 x.c, .int .i64 x.l, .int .i64 x.n, .int .i64 x.i] 36) (.cells #[.int .i64 0] 25)
  have SA := hid (B.keep ka (by simp))
  have KA := hid ka
  have A1 := hid b1
  have A2 := hid b2
  have A3 := hid b3
  clear B hm ka b1 b2 b3
  unfold idV
  go_enter Tryz.func11, Tryz.ntmps11
  go_wp2_with fail
  generalize ((w.alloc (.cells #[.pointer (some ⟨t, 0, none⟩)] 28)).alloc (.cells #[.int .i64 x.c, .int .i64 x.l, .int .i64 x.n, .int .i64 x.i] 36)).alloc (.cells #[.int .i64 0] 25) = wA at SA KA A1 A2 A3 ⊢
  have ak := ask_any wA t p q m wh SA.out x
  rw [HM.out] at ak
  simp only [Bool.false_eq_true, if_false] at ak
  refine ak.mono ?_
  rintro e wB ⟨rfl, kk⟩
  have KB := hid (KA.out.trans kk)
  have B3 := hid ((kk.block _ (lt_of_block A3.out) (by simp)).trans A3.out)
  clear kk ak A1 A2 A3 SA KA
  have c3 : wB.cell? ⟨w.heap.size + 1 + 1, 0, none⟩ = some (.int .i64 0) := by simp [World.cell?, B3.out]
  have f3 : wB.frozen? ⟨w.heap.size + 1 + 1, 0, none⟩ = false := by simp [World.frozen?, B3.out]
  go_wp2_with fail
  refine bodyPost_ret (results_cell1 rfl _ _ ⟨w.heap.size + 1 + 1, 0, none⟩ (.int .i64 1) rfl (loadErr_var (cell_of_one (heap_setCell_same _ _ _ _ _ _ B3.out)))) rfl ?_
  exact ⟨rfl, KB.out.trans' ((Keeps.refl [w.heap.size + 1 + 1] wB).setCell (Or.inl (by simp)) _) (fun i hi hmm => by simp at hmm; omega)⟩
/-- A store on a living disk, made since w0. -/
structure LiveSt (w0 W : World) (t q p g m K : Nat) (hs : List Hd) (s : DS) (G : Idn → Option Nat) : Prop where
  st : ∃ F wh, StAt W t q p g m hs s F K wh G ∧ ∀ b ∈ F, w0.heap.size ≤ b
  gm : w0.heap.size ≤ g ∧ w0.heap.size ≤ m
  al : Alive s
  fit : 1 + hs.length * 8 ≤ s.cnt
  inj : ∀ x y i, x.In → y.In → G x = some i → G y = some i → x = y
  kp : Keeps [] w0 W
theorem LiveSt.keep {w0 W W' : World} {t q p g m K : Nat} {hs : List Hd} {s : DS} {G : Idn → Option Nat} (h : LiveSt w0 W t q p g m K hs s G) (k : Keeps [] W W') : LiveSt w0 W' t q p g m K hs s G := by
  obtain ⟨⟨F, wh, S, hF⟩, h2, h3, h4, h5, h6⟩ := h
  exact ⟨⟨F, wh, S.keep k, hF⟩, h2, h3, h4, h5, h6.trans k⟩
theorem LiveSt.mono {w0 W : World} {t q p g m K K' : Nat} {hs : List Hd} {s : DS} {G : Idn → Option Nat} (h : LiveSt w0 W t q p g m K hs s G) (hk : K ≤ K') : LiveSt w0 W t q p g m K' hs s G := by
  obtain ⟨⟨F, wh, S, hF⟩, h2, h3, h4, h5, h6⟩ := h
  exact ⟨⟨F, wh, ⟨S.blk, S.sl.mono hk, S.mp.mono hk, S.ft, S.fm, S.at_⟩, hF⟩, h2, h3, h4, h5, h6⟩
/-- What a Put leaves: where it says OK, the bytes are there. -/
def PutLive (w0 : World) (t q p g m K n : Nat) (x : Idn) (b : List Int) (e : Ending) (W' : World) : Prop :=
  ∃ (r : Int) (hs' : List Hd) (s' : DS) (G' : Idn → Option Nat), e = .returned (.int .i64 r) ∧ LiveSt w0 W' t q p g m K hs' s' G' ∧ hs'.length = n ∧ (r = 0 → mayI x = true ∧ b.length ≤ 448 ∧ ∃ i, ∃ hi : i < hs'.length, G' x = some i ∧ getB s' (1 + i * 8) hs'[i].held = b)
theorem put_live (w0 W : World) (t q p g m K : Nat) (hs : List Hd) (s : DS) (G : Idn → Option Nat) (L : LiveSt w0 W t q p g m K hs s G) (hK : K ≤ 1000000) (x : Idn) (bv : Value) (b : List Int) (hb : RowAt W bv b)
    (hlo : ∀ ad n c, bv = .slice (some ad) n c → b ≠ [] → ad.block < w0.heap.size) :
    Calls Tryz.prog 9 #[.pointer (some ⟨t, 0, none⟩), idV x, bv] W (PutLive w0 t q p g m (K + 40) hs.length x b) := by
  obtain ⟨F, wh, S, hF⟩ := L.st
  obtain ⟨ba, bc, rfl, -⟩ := id hb
  have stay : ∀ r : Int, r ≠ 0 → ∀ e W', e = .returned (.int .i64 r) ∧ Keeps [] W W' → PutLive w0 t q p g m (K + 40) hs.length x b e W' := fun r hr e W' h => ⟨r, hs, s, G, h.1, (L.keep h.2).mono (by omega), rfl, fun h => absurd h hr⟩
  cases hm : mayI x with
  | false => exact (oPut_arg W t q p m wh S.blk x hm _).mono (stay 1 (by omega))
  | true =>
    by_cases hl : b.length ≤ 448
    · cases hg : G x with
      | some i =>
        obtain ⟨hi, hu⟩ := S.at_ x i (mayI_In hm) hg
        refine (oPut_there W t q p g m hs s F K wh G S x hm i hg L.al.1 hi _ rfl ?_ _ b hb hl).mono ?_
        · rw [getB, List.length_take]
          have h2 := (S.sl.sl.ok _ (List.getElem_mem hi)).held
          omega
        · rintro e W' ⟨rfl, k⟩
          refine ⟨_, hs, s, G, rfl, (L.keep k).mono (by omega), rfl, fun h => ⟨hm, hl, i, hi, hg, ?_⟩⟩
          by_cases e : getB s (1 + i * 8) hs[i].held = b
          · exact e
          · rw [if_neg e] at h; omega
      | none =>
        by_cases hf : usedN hs < hs.length
        · obtain ⟨i, hi, hu, hput⟩ := oPut_new W t q p g m hs s F K wh G S (by omega) x hm hg hf _ b hb (fun ad n c e hlen hmm => by
            have := hlo ad n c e hlen
            have := hF _ hmm
            omega) hl
          have ok : Hd.Ok ⟨true, b.length, keyI x⟩ := ⟨by rw [keyI_len]; omega, keyI_byte x, hl, fun h => by cases h⟩
          have hpa := putS_alive L.al hs i hi hu L.fit (keyI x) b ok hb.bytes
          refine hput.mono ?_
          rintro e W' ⟨F', k, fr, ⟨rfl, hd, S'⟩ | ⟨_, hd, _⟩⟩
          · refine ⟨0, _, _, _, rfl, ⟨⟨F', wh, S', fun j hj => ?_⟩, L.gm, hpa.1, ?_, ?_, L.kp.trans' k (fun j hj hmm => ?_)⟩, by rw [List.length_set], fun _ => ⟨hm, hl, i, by rw [List.length_set]; exact hi, by simp [setG], by simp only [List.getElem_set_self]; exact hpa.2⟩⟩
            · rcases fr j hj with h | h
              · exact hF j h
              · have := L.kp.size; omega
            · rw [List.length_set]
              rw [putS_cnt]; exact L.fit
            · intro y z j hy hz h1 h2
              by_cases ey : y = x
              · by_cases ez : z = x
                · rw [ey, ez]
                · simp only [setG, ey, if_true, if_neg ez] at h1 h2
                  injection h1 with h1
                  subst h1
                  obtain ⟨hj, hju⟩ := S.at_ z i hz h2
                  rw [hju] at hu; cases hu
              · by_cases ez : z = x
                · simp only [setG, ez, if_true, if_neg ey] at h1 h2
                  injection h2 with h2
                  subst h2
                  obtain ⟨hj, hju⟩ := S.at_ y i hy h1
                  rw [hju] at hu; cases hu
                · simp only [setG, if_neg ey, if_neg ez] at h1 h2
                  exact L.inj y z j hy hz h1 h2
            · rcases List.mem_cons.1 hmm with h | hmm
              · have := L.gm; omega
              rcases List.mem_cons.1 hmm with h | hmm
              · have := L.gm; omega
              · have := hF j hmm; omega
          · rw [hpa.1.1] at hd; cases hd
        · exact (oPut_full W t q p g m hs s F K wh G S x hm hg (by have := usedN_le hs; omega) ba b.length bc hl).mono (stay 5 (by omega))
    · exact (oPut_long W t q p m wh S.blk x hm ba b.length bc (by omega)).mono (stay 3 (by omega))

/-- What a Delete leaves: where it says OK, there is none. -/
def DelLive (w0 : World) (t q p g m K n : Nat) (x : Idn) (e : Ending) (W' : World) : Prop :=
  ∃ (r : Int) (hs' : List Hd) (s' : DS) (G' : Idn → Option Nat), e = .returned (.int .i64 r) ∧ LiveSt w0 W' t q p g m K hs' s' G' ∧ hs'.length = n ∧ (r = 0 → mayI x = true ∧ G' x = none)
theorem del_live (w0 W : World) (t q p g m K : Nat) (hs : List Hd) (s : DS) (G : Idn → Option Nat) (L : LiveSt w0 W t q p g m K hs s G) (hK : K ≤ 1000000) (x : Idn) :
    Calls Tryz.prog 11 #[.pointer (some ⟨t, 0, none⟩), idV x] W (DelLive w0 t q p g m (K + 40) hs.length x) := by
  obtain ⟨F, wh, S, hF⟩ := L.st
  cases hm : mayI x with
  | false => exact (oDelete_arg W t q p m wh S.blk x hm).mono fun e W' h => ⟨1, hs, s, G, h.1, (L.keep h.2).mono (by omega), rfl, fun h => by omega⟩
  | true =>
    cases hg : G x with
    | none => exact (oDelete_none W t q p g m hs s F K wh G S x hm hg).mono fun e W' h => ⟨0, hs, s, G, h.1, (L.keep h.2).mono (by omega), rfl, fun _ => ⟨hm, hg⟩⟩
    | some i =>
      obtain ⟨hi, hu⟩ := S.at_ x i (mayI_In hm) hg
      have hal := (L.al.mark (1 + i * 8) hd0 ⟨by simp [hd0], by simp [hd0], by simp [hd0], fun _ => rfl⟩ (by have := L.fit; omega)).1
      refine (oDelete_yes W t q p g m hs s F K wh G S (by omega) x hm i hg (fun y hy hgy => L.inj y x i hy (mayI_In hm) hgy hg) L.al.1).mono ?_
      rintro e W' ⟨F', k, fr, ⟨rfl, hd, S'⟩ | ⟨_, hd, _⟩⟩
      · refine ⟨0, _, _, _, rfl, ⟨⟨F', wh, S', fun j hj => ?_⟩, L.gm, hal, ?_, ?_, L.kp.trans' k (fun j hj hmm => ?_)⟩, by rw [List.length_set], fun _ => ⟨hm, by simp [setG]⟩⟩
        · rcases fr j hj with h | h
          · exact hF j h
          · have := L.kp.size; omega
        · rw [List.length_set, markS_cnt]; exact L.fit
        · intro y z j hy hz h1 h2
          by_cases ey : y = x
          · simp [setG, ey] at h1
          · by_cases ez : z = x
            · simp [setG, ez] at h2
            · simp only [setG, if_neg ey, if_neg ez] at h1 h2
              exact L.inj y z j hy hz h1 h2
        · rcases List.mem_cons.1 hmm with h | hmm
          · have := L.gm; omega
          rcases List.mem_cons.1 hmm with h | hmm
          · have := L.gm; omega
          · have := hF j hmm; omega
      · rw [hal.1] at hd; cases hd
end Go.Proofs.YtnhcfkiejldicaaGreat


/- store: List's order: cmp.Compare, cmp.Or, the closure. -/
namespace Go.Proofs.YtnhcfkiejldicaaGreat
open Go.RowKit Go.Shelf Go.Sort
set_option maxRecDepth 100000
set_option linter.unusedSimpArgs false

def cmpZ (a b : Int) : Int := if a < b then -1 else if b < a then 1 else 0
def orZ : List Int → Int
  | [] => 0
  | a :: l => if a = 0 then orZ l else a
def cmpI (x y : Idn) : Int := orZ [cmpZ x.c y.c, cmpZ x.l y.l, cmpZ x.n y.n, cmpZ x.i y.i]

theorem isNaN_any (w : World) (a : Int) : Calls Tryz.prog 65 #[.int .i64 a] w fun e w' => e = .returned (.bool false) ∧ w = w' := by
  go_enter Tryz.func65, Tryz.ntmps65
  go_wp2_with fail
  go_ret
  exact ⟨by simp, rfl⟩
theorem cmp_any (w : World) (a b : Int) : Calls Tryz.prog 38 #[.int .i64 a, .int .i64 b] w fun e w' => e = .returned (.int .i64 (cmpZ a b)) ∧ w = w' := by
  have NA := hid (isNaN_any w a)
  have NB := hid (isNaN_any w b)
  go_enter Tryz.func38, Tryz.ntmps38
  go_wp2_with fail
  refine NA.out.mono ?_
  rintro e _ ⟨rfl, rfl⟩
  go_wp2_with fail
  refine NB.out.mono ?_
  rintro e _ ⟨rfl, rfl⟩
  rcases Int.lt_trichotomy a b with h1 | h1 | h1
  · go_wp2_with fail
    go_ret
    exact ⟨by simp [cmpZ, h1], rfl⟩
  · subst h1
    have h2 : ¬ a < a := by omega
    go_wp2_with fail
    go_ret
    exact ⟨by simp [cmpZ], rfl⟩
  · have h2 : ¬ a < b := by omega
    go_wp2_with fail
    go_ret
    exact ⟨by simp [cmpZ, h1, h2], rfl⟩
theorem orZ_drop (xs : List Int) : ∀ k, k ≤ xs.length → (∀ j, j < k → xs.getD j 0 = 0) → orZ xs = orZ (xs.drop k)
  | 0, _, _ => by simp
  | k + 1, hk, h => by
    rw [orZ_drop xs k (by omega) (fun j hj => h j (by omega)), List.drop_eq_getElem_cons (by omega : k < xs.length)]
    have := h k (by omega)
    rw [List.getD_eq_getElem?_getD, List.getElem?_eq_getElem (by omega)] at this
    simp only [Option.getD_some] at this
    simp [orZ, this]
theorem or_any (w : World) (g : Nat) (xs : List Int) (cap : Nat) (hl : xs.length ≤ 1000) (hc : ∀ j, j < xs.length → w.cell? ⟨g, j, none⟩ = some (.int .i64 (xs.getD j 0))) :
    Calls Tryz.prog 37 #[.slice (some ⟨g, 0, none⟩) xs.length cap] w fun e w' => e = .returned (.int .i64 (orZ xs)) ∧ w = w' := by
  have HC := hid hc
  clear hc
  go_enter Tryz.func37, Tryz.ntmps37
  go_wp2_with fail
  go_loopw [8] (fun i wr => ∃ k : Nat, k ≤ xs.length ∧ i = .int .i64 k ∧ wr = w ∧ ∀ j, j < k → xs.getD j 0 = 0) (fun i _ => xs.length - (intOf i).toNat)
  case atStart => exact ⟨0, by simp⟩
  case round =>
    obtain ⟨k, hk, rfl, rfl, ht⟩ := hrel
    have HT := hid ht
    clear ht
    by_cases hlt : k < xs.length
    · have d1 := HC.out k hlt
      obtain ⟨z, hz⟩ : ∃ z, z = xs.getD k 0 := ⟨_, rfl⟩
      rw [← hz] at d1
      have HZ := hid hz
      clear hz
      by_cases hb : z = 0
      · have hb' : (z != 0) = false := by simp [hb]
        have HB := hid hb
        clear hb
        go_wp2_with fail
        go_roundw
        case rel => exact ⟨k + 1, by omega, by go_num, trivial, fun j hj => by
          rcases Nat.lt_or_ge j k with h | h
          · exact HT.out j h
          · obtain rfl : j = k := by omega
            rw [← HZ.out]; exact HB.out⟩
        case measure => simp [intOf]; omega
      · have hb' : (z != 0) = true := by simpa using hb
        have HB := hid hb
        clear hb
        go_wp2_with fail
        go_ret
        refine ⟨?_, rfl⟩
        have e : orZ xs = z := by
          rw [orZ_drop xs k (by omega) HT.out, List.drop_eq_getElem_cons hlt]
          have hz : xs[k] = z := by rw [HZ.out, List.getD_eq_getElem?_getD, List.getElem?_eq_getElem hlt]; rfl
          rw [hz]
          simp [orZ, HB.out]
        rw [e]
        rfl
    · obtain rfl : k = xs.length := by omega
      go_wp2_with fail
      go_ret
      refine ⟨?_, rfl⟩
      rw [orZ_drop xs _ (Nat.le_refl _) HT.out, List.drop_length]
      rfl

theorem two_alloc (w : World) (X1 X2 : Obj) : ((w.alloc X1).alloc X2).heap[w.heap.size]? = some X1 ∧ ((w.alloc X1).alloc X2).heap[w.heap.size + 1]? = some X2 ∧ Keeps [] w ((w.alloc X1).alloc X2) ∧ ((w.alloc X1).alloc X2).heap.size = w.heap.size + 2 := by
  have b1 := heap_alloc_new w X1
  have b2 := heap_alloc_new (w.alloc X1) X2
  have z1 : (w.alloc X1).heap.size = w.heap.size + 1 := by simp
  rw [z1] at b2
  exact ⟨(Below.heap_alloc _ _ _ (by simp)).trans b1, b2, ((Keeps.refl [] w).alloc _).alloc _, by simp⟩
theorem alloc3_grow (u : World) (X1 X2 X3 : Obj) : (((u.alloc X1).alloc X2).drew).alloc X3 = grow (u.drewN 1) #[X1, X2, X3] := by
  have e : ((u.alloc X1).alloc X2).drew = (u.drewN 1 |>.alloc X1).alloc X2 := rfl
  rw [e, alloc_eq_grow, alloc_eq_grow, alloc_eq_grow, grow_grow, grow_grow]
  rfl
set_option maxHeartbeats 6400000 in
theorem listF_any (w : World) (x y : Idn) : Calls Tryz.prog 36 #[idV x, idV y] w fun e w' => e = .returned (.int .i64 (cmpI x y)) ∧ Keeps [] w w' ∧ ∃ q os', w' = grow (w.drewN q) os' := by
  obtain ⟨b1, b2, ka, za⟩ := two_alloc w (.cells #[.int .i64 x.c, .int .i64 x.l, .int .i64 x.n, .int .i64 x.i] 36) (.cells #[.int .i64 y.c, .int .i64 y.l, .int .i64 y.n, .int .i64 y.i] 36)
  have KA := hid ka
  have A1 := hid b1
  have A2 := hid b2
  have ZA := hid za
  clear b1 b2 ka za
  unfold idV
  go_enter Tryz.func36, Tryz.ntmps36
  go_wp2_with fail
  obtain ⟨wA, hwA⟩ : ∃ z, z = (w.alloc (.cells #[.int .i64 x.c, .int .i64 x.l, .int .i64 x.n, .int .i64 x.i] 36)).alloc (.cells #[.int .i64 y.c, .int .i64 y.l, .int .i64 y.n, .int .i64 y.i] 36) := ⟨_, rfl⟩
  rw [← hwA] at KA A1 A2 ZA ⊢
  have HWA := hid hwA
  clear hwA
  have z0 : w.heap.size < wA.heap.size := lt_of_block A1.out
  have z1 : w.heap.size + 1 < wA.heap.size := lt_of_block A2.out
  refine wp_region_any (by kernel_rfl) (wpAny_of_held (S := KpS [] wA.heap.size wA.drew) _ _ _ _ ?_)
  change wpAnyH _ _ _ _ _ _ _ _ wA.drew
  have X : ∀ (W1 : World) (j : Nat) (v : Value), KpS [] wA.heap.size wA.drew W1 → (#[Value.int .i64 x.c, .int .i64 x.l, .int .i64 x.n, .int .i64 x.i] : Array Value)[j]? = some v → W1.cell? ⟨w.heap.size, j, none⟩ = some v := fun W1 j v h hv => h.cell (by rw [World.cell?_drew, cell_of_row wA _ j _ _ (0, 0) A1.out]; exact hv) z0 (by simp)
  have Y : ∀ (W1 : World) (j : Nat) (v : Value), KpS [] wA.heap.size wA.drew W1 → (#[Value.int .i64 y.c, .int .i64 y.l, .int .i64 y.n, .int .i64 y.i] : Array Value)[j]? = some v → W1.cell? ⟨w.heap.size + 1, j, none⟩ = some v := fun W1 j v h hv => h.cell (by rw [World.cell?_drew, cell_of_row wA _ j _ _ (0, 0) A2.out]; exact hv) z1 (by simp)
  refine held_take (i := 0) (v := .pointer (some ⟨w.heap.size, 0, none⟩)) rfl (by kernel_rfl) (by kernel_rfl) (by kernel_rfl) (fun _ _ _ h => h) rfl (fun W1 hW1 => by go_simp) (KpS.refl _ _ _) ?_
  simp only [Act.put, List.setIfInBounds_toArray, List.set_cons_zero, List.set_cons_succ]
  refine held_take (i := 1) (v := .pointer (some ⟨w.heap.size, 0, none⟩)) rfl (by kernel_rfl) (by kernel_rfl) (by kernel_rfl) (fun _ _ _ h => h) rfl (fun W1 hW1 => by go_simp) (KpS.refl _ _ _) ?_
  simp only [Act.put, List.setIfInBounds_toArray, List.set_cons_zero, List.set_cons_succ]
  refine held_take (i := 2) (v := .int .i64 x.c) rfl (by kernel_rfl) (by kernel_rfl) (by kernel_rfl) (fun _ _ _ h => h) rfl (fun W1 hW1 => exec_load _ _ _ _ rfl rfl (run_loadCell W1 _ _ _ (X W1 0 _ hW1 rfl) (agg_no _ (by kernel_rfl)))) (KpS.refl _ _ _) ?_
  simp only [Act.put, List.setIfInBounds_toArray, List.set_cons_zero, List.set_cons_succ]
  refine held_take (i := 3) (v := .pointer (some ⟨w.heap.size + 1, 0, none⟩)) rfl (by kernel_rfl) (by kernel_rfl) (by kernel_rfl) (fun _ _ _ h => h) rfl (fun W1 hW1 => by go_simp) (KpS.refl _ _ _) ?_
  simp only [Act.put, List.setIfInBounds_toArray, List.set_cons_zero, List.set_cons_succ]
  refine held_take (i := 4) (v := .pointer (some ⟨w.heap.size + 1, 0, none⟩)) rfl (by kernel_rfl) (by kernel_rfl) (by kernel_rfl) (fun _ _ _ h => h) rfl (fun W1 hW1 => by go_simp) (KpS.refl _ _ _) ?_
  simp only [Act.put, List.setIfInBounds_toArray, List.set_cons_zero, List.set_cons_succ]
  refine held_take (i := 5) (v := .int .i64 y.c) rfl (by kernel_rfl) (by kernel_rfl) (by kernel_rfl) (fun _ _ _ h => h) rfl (fun W1 hW1 => exec_load _ _ _ _ rfl rfl (run_loadCell W1 _ _ _ (Y W1 0 _ hW1 rfl) (agg_no _ (by kernel_rfl)))) (KpS.refl _ _ _) ?_
  simp only [Act.put, List.setIfInBounds_toArray, List.set_cons_zero, List.set_cons_succ]
  refine held_take (i := 7) (v := .pointer (some ⟨w.heap.size, 0, none⟩)) rfl (by kernel_rfl) (by kernel_rfl) (by kernel_rfl) (fun _ _ _ h => h) rfl (fun W1 hW1 => by go_simp) (KpS.refl _ _ _) ?_
  simp only [Act.put, List.setIfInBounds_toArray, List.set_cons_zero, List.set_cons_succ]
  refine held_take (i := 8) (v := .pointer (some ⟨w.heap.size, 1, none⟩)) rfl (by kernel_rfl) (by kernel_rfl) (by kernel_rfl) (fun _ _ _ h => h) rfl (fun W1 hW1 => by go_simp) (KpS.refl _ _ _) ?_
  simp only [Act.put, List.setIfInBounds_toArray, List.set_cons_zero, List.set_cons_succ]
  refine held_take (i := 9) (v := .int .i64 x.l) rfl (by kernel_rfl) (by kernel_rfl) (by kernel_rfl) (fun _ _ _ h => h) rfl (fun W1 hW1 => exec_load _ _ _ _ rfl rfl (run_loadCell W1 _ _ _ (X W1 1 _ hW1 rfl) (agg_no _ (by kernel_rfl)))) (KpS.refl _ _ _) ?_
  simp only [Act.put, List.setIfInBounds_toArray, List.set_cons_zero, List.set_cons_succ]
  refine held_take (i := 10) (v := .pointer (some ⟨w.heap.size + 1, 0, none⟩)) rfl (by kernel_rfl) (by kernel_rfl) (by kernel_rfl) (fun _ _ _ h => h) rfl (fun W1 hW1 => by go_simp) (KpS.refl _ _ _) ?_
  simp only [Act.put, List.setIfInBounds_toArray, List.set_cons_zero, List.set_cons_succ]
  refine held_take (i := 11) (v := .pointer (some ⟨w.heap.size + 1, 1, none⟩)) rfl (by kernel_rfl) (by kernel_rfl) (by kernel_rfl) (fun _ _ _ h => h) rfl (fun W1 hW1 => by go_simp) (KpS.refl _ _ _) ?_
  simp only [Act.put, List.setIfInBounds_toArray, List.set_cons_zero, List.set_cons_succ]
  refine held_take (i := 12) (v := .int .i64 y.l) rfl (by kernel_rfl) (by kernel_rfl) (by kernel_rfl) (fun _ _ _ h => h) rfl (fun W1 hW1 => exec_load _ _ _ _ rfl rfl (run_loadCell W1 _ _ _ (Y W1 1 _ hW1 rfl) (agg_no _ (by kernel_rfl)))) (KpS.refl _ _ _) ?_
  simp only [Act.put, List.setIfInBounds_toArray, List.set_cons_zero, List.set_cons_succ]
  refine held_take (i := 14) (v := .pointer (some ⟨w.heap.size, 0, none⟩)) rfl (by kernel_rfl) (by kernel_rfl) (by kernel_rfl) (fun _ _ _ h => h) rfl (fun W1 hW1 => by go_simp) (KpS.refl _ _ _) ?_
  simp only [Act.put, List.setIfInBounds_toArray, List.set_cons_zero, List.set_cons_succ]
  refine held_take (i := 15) (v := .pointer (some ⟨w.heap.size, 2, none⟩)) rfl (by kernel_rfl) (by kernel_rfl) (by kernel_rfl) (fun _ _ _ h => h) rfl (fun W1 hW1 => by go_simp) (KpS.refl _ _ _) ?_
  simp only [Act.put, List.setIfInBounds_toArray, List.set_cons_zero, List.set_cons_succ]
  refine held_take (i := 16) (v := .int .i64 x.n) rfl (by kernel_rfl) (by kernel_rfl) (by kernel_rfl) (fun _ _ _ h => h) rfl (fun W1 hW1 => exec_load _ _ _ _ rfl rfl (run_loadCell W1 _ _ _ (X W1 2 _ hW1 rfl) (agg_no _ (by kernel_rfl)))) (KpS.refl _ _ _) ?_
  simp only [Act.put, List.setIfInBounds_toArray, List.set_cons_zero, List.set_cons_succ]
  refine held_take (i := 17) (v := .pointer (some ⟨w.heap.size + 1, 0, none⟩)) rfl (by kernel_rfl) (by kernel_rfl) (by kernel_rfl) (fun _ _ _ h => h) rfl (fun W1 hW1 => by go_simp) (KpS.refl _ _ _) ?_
  simp only [Act.put, List.setIfInBounds_toArray, List.set_cons_zero, List.set_cons_succ]
  refine held_take (i := 18) (v := .pointer (some ⟨w.heap.size + 1, 2, none⟩)) rfl (by kernel_rfl) (by kernel_rfl) (by kernel_rfl) (fun _ _ _ h => h) rfl (fun W1 hW1 => by go_simp) (KpS.refl _ _ _) ?_
  simp only [Act.put, List.setIfInBounds_toArray, List.set_cons_zero, List.set_cons_succ]
  refine held_take (i := 19) (v := .int .i64 y.n) rfl (by kernel_rfl) (by kernel_rfl) (by kernel_rfl) (fun _ _ _ h => h) rfl (fun W1 hW1 => exec_load _ _ _ _ rfl rfl (run_loadCell W1 _ _ _ (Y W1 2 _ hW1 rfl) (agg_no _ (by kernel_rfl)))) (KpS.refl _ _ _) ?_
  simp only [Act.put, List.setIfInBounds_toArray, List.set_cons_zero, List.set_cons_succ]
  refine held_take (i := 21) (v := .pointer (some ⟨w.heap.size, 3, none⟩)) rfl (by kernel_rfl) (by kernel_rfl) (by kernel_rfl) (fun _ _ _ h => h) rfl (fun W1 hW1 => by go_simp) (KpS.refl _ _ _) ?_
  simp only [Act.put, List.setIfInBounds_toArray, List.set_cons_zero, List.set_cons_succ]
  refine held_take (i := 22) (v := .int .i64 x.i) rfl (by kernel_rfl) (by kernel_rfl) (by kernel_rfl) (fun _ _ _ h => h) rfl (fun W1 hW1 => exec_load _ _ _ _ rfl rfl (run_loadCell W1 _ _ _ (X W1 3 _ hW1 rfl) (agg_no _ (by kernel_rfl)))) (KpS.refl _ _ _) ?_
  simp only [Act.put, List.setIfInBounds_toArray, List.set_cons_zero, List.set_cons_succ]
  refine held_take (i := 23) (v := .pointer (some ⟨w.heap.size + 1, 3, none⟩)) rfl (by kernel_rfl) (by kernel_rfl) (by kernel_rfl) (fun _ _ _ h => h) rfl (fun W1 hW1 => by go_simp) (KpS.refl _ _ _) ?_
  simp only [Act.put, List.setIfInBounds_toArray, List.set_cons_zero, List.set_cons_succ]
  refine held_take (i := 24) (v := .int .i64 y.i) rfl (by kernel_rfl) (by kernel_rfl) (by kernel_rfl) (fun _ _ _ h => h) rfl (fun W1 hW1 => exec_load _ _ _ _ rfl rfl (run_loadCell W1 _ _ _ (Y W1 3 _ hW1 rfl) (agg_no _ (by kernel_rfl)))) (KpS.refl _ _ _) ?_
  simp only [Act.put, List.setIfInBounds_toArray, List.set_cons_zero, List.set_cons_succ]
  refine held_do (i := 6) (by kernel_rfl) rfl rfl (wp_enter (f := 38) (args := #[.int .i64 x.c, .int .i64 y.c]) (by go_simp) (cmp_any wA.drew x.c y.c) ?_)
  rintro e _ ⟨rfl, rfl⟩
  refine ⟨_, rfl, KpS.refl _ _ _, ?_⟩
  simp only [Act.put, List.setIfInBounds_toArray, List.set_cons_zero, List.set_cons_succ]
  refine held_do (i := 13) (by kernel_rfl) rfl rfl (wp_enter (f := 38) (args := #[.int .i64 x.l, .int .i64 y.l]) (by go_simp) (cmp_any wA.drew x.l y.l) ?_)
  rintro e _ ⟨rfl, rfl⟩
  refine ⟨_, rfl, KpS.refl _ _ _, ?_⟩
  simp only [Act.put, List.setIfInBounds_toArray, List.set_cons_zero, List.set_cons_succ]
  refine held_do (i := 20) (by kernel_rfl) rfl rfl (wp_enter (f := 38) (args := #[.int .i64 x.n, .int .i64 y.n]) (by go_simp) (cmp_any wA.drew x.n y.n) ?_)
  rintro e _ ⟨rfl, rfl⟩
  refine ⟨_, rfl, KpS.refl _ _ _, ?_⟩
  simp only [Act.put, List.setIfInBounds_toArray, List.set_cons_zero, List.set_cons_succ]
  refine held_do (i := 25) (by kernel_rfl) rfl rfl (wp_enter (f := 38) (args := #[.int .i64 x.i, .int .i64 y.i]) (by go_simp) (cmp_any wA.drew x.i y.i) ?_)
  rintro e _ ⟨rfl, rfl⟩
  refine ⟨_, rfl, KpS.refl _ _ _, ?_⟩
  simp only [Act.put, List.setIfInBounds_toArray, List.set_cons_zero, List.set_cons_succ]
  have OR := or_any (wA.drew.alloc (.cells #[.int .i64 (cmpZ x.c y.c), .int .i64 (cmpZ x.l y.l), .int .i64 (cmpZ x.n y.n), .int .i64 (cmpZ x.i y.i)] 3)) wA.heap.size [cmpZ x.c y.c, cmpZ x.l y.l, cmpZ x.n y.n, cmpZ x.i y.i] 4 (by simp) (fun j hj => by
    have hn : (wA.drew.alloc (.cells #[.int .i64 (cmpZ x.c y.c), .int .i64 (cmpZ x.l y.l), .int .i64 (cmpZ x.n y.n), .int .i64 (cmpZ x.i y.i)] 3)).heap[wA.heap.size]? = some (.cells #[.int .i64 (cmpZ x.c y.c), .int .i64 (cmpZ x.l y.l), .int .i64 (cmpZ x.n y.n), .int .i64 (cmpZ x.i y.i)] 3 (0, 0)) := heap_alloc_new wA.drew _
    rw [cell_of_row _ _ j _ _ (0, 0) hn]
    match j, hj with
    | 0, _ => rfl
    | 1, _ => rfl
    | 2, _ => rfl
    | 3, _ => rfl)
  have ORH := hid OR
  clear OR
  have kB : KpS [] wA.heap.size wA.drew (wA.drew.alloc (.cells #[.int .i64 (cmpZ x.c y.c), .int .i64 (cmpZ x.l y.l), .int .i64 (cmpZ x.n y.n), .int .i64 (cmpZ x.i y.i)] 3)) := KpS.alloc (B := wA.drew) (KpS.refl [] wA.heap.size wA.drew) (Nat.le_refl wA.heap.size) _
  have KB := hid kB
  clear kB
  refine held_do (i := 26) (by kernel_rfl) rfl rfl (wp_value (v := .slice (some ⟨wA.heap.size, 0, none⟩) 4 4) (w' := wA.drew.alloc (.cells #[.int .i64 (cmpZ x.c y.c), .int .i64 (cmpZ x.l y.l), .int .i64 (cmpZ x.n y.n), .int .i64 (cmpZ x.i y.i)] 3)) (by go_simp) ⟨KB.out, ?_⟩)
  simp only [Act.put, List.setIfInBounds_toArray, List.set_cons_zero, List.set_cons_succ]
  obtain ⟨wB, hwB⟩ : ∃ z, z = wA.drew.alloc (.cells #[.int .i64 (cmpZ x.c y.c), .int .i64 (cmpZ x.l y.l), .int .i64 (cmpZ x.n y.n), .int .i64 (cmpZ x.i y.i)] 3) := ⟨_, rfl⟩
  rw [← hwB] at ORH KB ⊢
  have HWB := hid hwB
  clear hwB
  refine held_do (i := 27) (by kernel_rfl) rfl rfl (wp_enter (f := 37) (args := #[.slice (some ⟨wA.heap.size, 0, none⟩) 4 4]) (by go_simp) (ORH.out) ?_)
  rintro e _ ⟨rfl, rfl⟩
  refine ⟨_, rfl, KB.out, ?_⟩
  simp only [Act.put, List.setIfInBounds_toArray, List.set_cons_zero, List.set_cons_succ]
  refine held_take (i := 28) (v := .int .i64 (cmpI x y)) rfl (by kernel_rfl) (by kernel_rfl) (by kernel_rfl) (fun _ _ _ h => h) rfl (fun W1 hW1 => rfl) (KB.out) ?_
  simp only [Act.put, List.setIfInBounds_toArray, List.set_cons_zero, List.set_cons_succ]
  refine wpAnyH_done (by kernel_rfl) ?_ _
  have KZ : Hid (Keeps [] w wB) := hid (KA.out.trans ((Keeps.refl [] wA).drew.trans (show Keeps [] wA.drew wB from ⟨KB.out.os, KB.out.tape, KB.out.output, KB.out.size, fun j hj hm => KB.out.block j hj hm⟩)))
  clear X Y
  go_wp2_with fail
  go_ret
  refine ⟨rfl, KZ.out, 1, #[.cells #[.int .i64 x.c, .int .i64 x.l, .int .i64 x.n, .int .i64 x.i] 36, .cells #[.int .i64 y.c, .int .i64 y.l, .int .i64 y.n, .int .i64 y.i] 36, .cells #[.int .i64 (cmpZ x.c y.c), .int .i64 (cmpZ x.l y.l), .int .i64 (cmpZ x.n y.n), .int .i64 (cmpZ x.i y.i)] 3], ?_⟩
  rw [HWB.out, HWA.out]
  exact alloc3_grow _ _ _ _
theorem cmpZ_self (a : Int) : cmpZ a a = 0 := by simp [cmpZ]
theorem cmpZ_flip (a b : Int) : cmpZ b a = - cmpZ a b := by
  unfold cmpZ
  rcases Int.lt_trichotomy a b with h | h | h
  · rw [if_neg (by omega), if_pos h, if_pos h]; rfl
  · subst h; simp
  · rw [if_pos h, if_neg (by omega), if_pos h]
/-- The numbers of an id, in the order that counts. -/
def idL (x : Idn) : List Int := [x.c, x.l, x.n, x.i]
theorem cmpI_zero {x y : Idn} (h : cmpI x y = 0) : x = y := by
  have z : ∀ a b : Int, cmpZ a b = 0 → a = b := fun a b h => by
    unfold cmpZ at h
    rcases Int.lt_trichotomy a b with k | k | k
    · rw [if_pos k] at h; omega
    · exact k
    · rw [if_neg (by omega), if_pos k] at h; omega
  cases x; cases y
  simp only [cmpI, orZ] at h
  split at h
  · rename_i e1
    split at h
    · rename_i e2
      split at h
      · rename_i e3
        split at h
        · rename_i e4
          rw [z _ _ e1, z _ _ e2, z _ _ e3, z _ _ e4]
        · rename_i e; exact absurd h e
      · rename_i e; exact absurd h e
    · rename_i e; exact absurd h e
  · rename_i e; exact absurd h e
theorem cmpI_self (x : Idn) : cmpI x x = 0 := by simp [cmpI, orZ, cmpZ_self]
theorem cmpI_flip (x y : Idn) : cmpI y x = - cmpI x y := by
  have f : ∀ (a b : Int) (r s : Int), s = -r → (if cmpZ b a = 0 then s else cmpZ b a) = - (if cmpZ a b = 0 then r else cmpZ a b) := fun a b r s h => by
    rw [cmpZ_flip a b]
    by_cases e : cmpZ a b = 0
    · simp [e, h]
    · rw [if_neg (by omega), if_neg e]
  simp only [cmpI, orZ]
  exact f _ _ _ _ (f _ _ _ _ (f _ _ _ _ (f _ _ _ _ (by simp))))
theorem cmpI_lt (x y : Idn) : cmpI x y < 0 ↔ x.c < y.c ∨ (x.c = y.c ∧ (x.l < y.l ∨ (x.l = y.l ∧ (x.n < y.n ∨ (x.n = y.n ∧ x.i < y.i))))) := by
  have f : ∀ (a b r : Int) (P : Prop), (r < 0 ↔ P) → ((if cmpZ a b = 0 then r else cmpZ a b) < 0 ↔ a < b ∨ (a = b ∧ P)) := fun a b r P h => by
    unfold cmpZ
    rcases Int.lt_trichotomy a b with k | k | k
    · simp [k]
    · subst k; simp [h]
    · rw [if_neg (by omega : ¬ a < b), if_pos k]
      simp
      omega
  simp only [cmpI, orZ]
  refine f _ _ _ _ (f _ _ _ _ (f _ _ _ _ ?_))
  have := f x.i y.i 0 False (by simp)
  simpa using this
theorem cmpI_trans {x y z : Idn} (h1 : cmpI x y < 0) (h2 : cmpI y z < 0) : cmpI x z < 0 := by
  rw [cmpI_lt] at h1 h2 ⊢
  omega
theorem swoI : SWO (ltOf cmpI) where
  irrefl x := by simp [ltOf, cmpI_self]
  trans _ _ _ h1 h2 := decide_eq_true (cmpI_trans (of_decide_eq_true h1) (of_decide_eq_true h2))
  ntrans x y z h1 h2 := decide_eq_false fun h3 => by
    have h1' := of_decide_eq_false h1
    have h2' := of_decide_eq_false h2
    by_cases e : cmpI x y = 0
    · rw [cmpI_zero e] at h3; exact h2' h3
    · have f := cmpI_flip x y
      exact h2' (cmpI_trans (show cmpI y x < 0 by omega) h3)
end Go.Proofs.YtnhcfkiejldicaaGreat


/- store: the sort of ids. -/
namespace Go.Proofs.YtnhcfkiejldicaaGreat
open Go.RowKit Go.Maps Go.Sort Go.Shelf
set_option maxRecDepth 100000
set_option linter.unusedSimpArgs false

instance : Inhabited Idn := ⟨⟨0, 0, 0, 0⟩⟩
theorem idC_one (x : Idn) : x.cells.toArray.all (·.oneCell') = true := by simp [Idn.cells, Value.oneCell']
theorem idsC_len (es : List Idn) : (idsC es).length = es.length * 4 := by
  induction es with
  | nil => rfl
  | cons x l ih =>
    have hx : x.cells.length = 4 := rfl
    unfold idsC at ih ⊢
    rw [List.flatMap_cons, List.length_append, ih, hx, List.length_cons]
    omega
theorem cmpLays_I (blk off size : Nat) (w : World) : CmpLays Tryz.prog 36 #[] Idn.cells 4 cmpI blk off size w :=
  fun _ _ _ _ x y => (listF_any _ x y).mono fun _ _ h => ⟨h.1, h.2.2⟩
/-- A slice of ids. -/
def IdsAt (w : World) (v : Value) (es : List Idn) : Prop :=
  ∃ (a : Option Addr) (cap : Nat), v = .slice a es.length cap ∧ es.length ≤ cap ∧ cap ≤ maxLen ∧ (a = none → cap = 0) ∧ ∀ ad, a = some ad → ad.spot = none ∧ w.rangeAt ad.block ad.off (idsC es)
theorem keeps_sort (w : World) (blk off n : Nat) (d : Array Idn) (os : Array Obj) : Keeps [blk] w (sortWorldK Idn.cells 4 w blk off n d os) := by
  unfold sortWorldK putRowK putRow mapBlock grow Sort.ahead
  refine ⟨rfl, rfl, rfl, by simp, fun k hk hm => ?_⟩
  have hne : k ≠ blk := by simpa using hm
  show (_ ++ os)[k]? = _
  rw [Array.getElem?_append_left (by simpa using hk)]
  rw [Array.getElem?_modify]
  simp [Ne.symm hne]

theorem ownsRow_keepI {w w' : World} {B k : Nat} {e : TypeId} {v : Value} {n : Nat} {xs : List Value} {S : List Nat} (h : w.ownsRow B e k v n xs) (kp : Keeps S w w') (ho : ∀ g, v.ownBlock = some g → g ∉ S) : w'.ownsRow B e k v n xs := by
  refine ⟨h.1, ?_⟩
  rcases h.2 with hn | ⟨g, cap, cur, hv, hb, rest⟩
  · exact Or.inl hn
  · refine Or.inr ⟨g, cap, cur, hv, hb, ?_, rest.2⟩
    rw [kp.block g (lt_of_block rest.1) (ho g (by rw [hv]; rfl))]
    exact rest.1
theorem own_geI {w : World} {B k : Nat} {e : TypeId} {v : Value} {n : Nat} {xs : List Value} (h : w.ownsRow B e k v n xs) {g : Nat} (hg : v.ownBlock = some g) : B ≤ g := by
  rcases h.2 with ⟨rfl, _⟩ | ⟨g', cap, cur, rfl, hB, _⟩
  · cases hg
  · have : g' = g := by simpa [Value.ownBlock] using hg
    rw [← this]
    exact hB

theorem flat4_at : ∀ (l : List Idn) (i : Nat) (h : i < l.length) (j : Nat), j < 4 → (idsC l)[i * 4 + j]? = (Idn.cells l[i])[j]?
  | x :: l, 0, _, j, hj => by
    unfold idsC
    rw [List.flatMap_cons, List.getElem?_append_left (by show 0 * 4 + j < 4; omega)]
    simp
  | x :: l, i + 1, h, j, hj => by
    have hx : (Idn.cells x).length = 4 := rfl
    have ih := flat4_at l i (by simpa using h) j hj
    unfold idsC at ih ⊢
    rw [List.flatMap_cons, List.getElem?_append_right (by rw [hx]; omega), hx, show (i + 1) * 4 + j - 4 = i * 4 + j by omega, ih]
    simp
theorem flatK_at (d : Array Idn) (t : Nat) (h : t < d.size * 4) : (idsC d.toList)[t]? = some (flatK Idn.cells 4 d)[t]! := by
  have hi : t / 4 < d.toList.length := by rw [Array.length_toList]; omega
  have hj : t % 4 < 4 := Nat.mod_lt _ (by omega)
  have := flat4_at d.toList (t / 4) hi (t % 4) hj
  rw [show t / 4 * 4 + t % 4 = t by omega] at this
  rw [this, get_flatK _ _ _ _ h]
  have e1 : d[t / 4]! = d.toList[t / 4] := by
    rw [getElem!_pos d (t / 4) (by rw [← Array.length_toList]; exact hi)]
    simp
  rw [e1]
  have hl : (Idn.cells d.toList[t / 4]).length = 4 := rfl
  rw [List.getElem?_eq_getElem (by omega), getElem!_pos (Idn.cells d.toList[t / 4]) (t % 4) (by omega)]
theorem holds_ids {w : World} {B g n c : Nat} {d : Array Idn} (hown : w.ownsRow B 36 4 (.slice (some ⟨g, 0, none⟩) n c) n (idsC d.toList)) (hn : n = d.size) : HoldsK Idn.cells 4 w g 0 d ∧ g < w.heap.size ∧ n ≤ c ∧ c ≤ maxLen := by
  rcases hown.2 with ⟨h, _⟩ | ⟨g', cap, cur, hv, hB, hblk, h1, h2, h3, h4⟩
  · cases h
  · injection hv with e1 _ e3
    injection e1 with e1
    injection e1 with e1
    subst e1; subst e3
    refine ⟨fun j hj => ?_, lt_of_block hblk, h1, h2⟩
    have hj' : j < d.size * 4 := by simpa using hj
    have hf := flatK_at d j hj'
    rw [← h4, List.getElem?_take, if_pos (by rw [hn]; exact hj')] at hf
    refine ⟨?_, by simp [World.frozen?, hblk]⟩
    rw [Nat.zero_add, cell_of_row _ _ j _ _ (0, 0) hblk]
    rw [Array.getElem?_toList] at hf
    exact hf
theorem ids_holds {w : World} {g c : Nat} {d : Array Idn} (h : HoldsK Idn.cells 4 w g 0 d) (h1 : d.size ≤ c) (h2 : c ≤ maxLen) : IdsAt w (.slice (some ⟨g, 0, none⟩) d.toList.length c) d.toList := by
  refine ⟨_, c, rfl, by rw [Array.length_toList]; exact h1, h2, by simp, fun ad had => ?_⟩
  obtain rfl := Option.some.inj had
  refine ⟨rfl, fun j v hv => ?_⟩
  have hj : j < d.size * 4 := by
    have := (List.getElem?_eq_some_iff.1 hv).1
    rw [idsC_len, Array.length_toList] at this
    exact this
  have hf := flatK_at d j hj
  rw [hf] at hv
  obtain rfl := Option.some.inj hv
  exact (h j (by simpa using hj)).1

theorem isAggId : ∀ w, (isAgg 36).run Tryz.prog w = .ok true w := fun w => by unfold isAgg; rw [Sem.run_bind, run_underlying (Tryz.underlying36)]; rfl
theorem sizeIdn : ∀ w, (Go.sizeOf 36).run Tryz.prog w = .ok 4 w := fun w => by
  have hs := sId
  cases hq : Tryz.prog.info? 36 with
  | none => rw [hq] at hs; cases hs
  | some i0 =>
    rw [hq] at hs
    have hz1 : i0.size = 4 := by simpa using hs
    simp [Go.sizeOf, typeInfo, hq, hz1]
/-- The order's sort over a row of the call's own. -/
theorem sort_ids (w : World) (B : Nat) (a : Option Addr) (es : List Idn) (cc : Nat) (hown : w.ownsRow B 36 4 (.slice a es.length cc) es.length (idsC es)) (few : es.length ≤ 100000) (hnd : es.Nodup) :
    Calls Tryz.prog 63 #[.slice a es.length cc, .func (.func 36) #[] #[]] w fun e w' => (∃ r, e = .returned r) ∧ ∃ fs, fs.Perm es ∧ fs.Pairwise (fun x y => cmpI x y < 0) ∧ IdsAt w' (.slice a es.length cc) fs ∧ Keeps (Value.slice a es.length cc).ownBlock.toList w w' := by
  by_cases h0 : es.length = 0
  · have e0 : es = [] := List.eq_nil_of_length_eq_zero h0
    subst e0
    have h := AnyF.slices_SortFunc_none Tryz.sortI a cc (.func (.func 36) #[] #[]) w
    change Calls Tryz.prog 63 #[.slice a 0 cc, _] w _ at h
    refine h.mono ?_
    rintro e w' ⟨rfl, rfl⟩
    refine ⟨⟨_, rfl⟩, [], List.Perm.refl _, List.Pairwise.nil, ?_, Keeps.refl _ _⟩
    rcases hown.2 with ⟨hv, _⟩ | ⟨g', cap, cur, hv, hB, hblk, h1, h2, h3, h4⟩
    · injection hv with e1 _ e3
      subst e1; subst e3
      exact ⟨none, 0, rfl, by simp, by simp, by simp, by simp⟩
    · injection hv with e1 _ e3
      subst e1; subst e3
      refine ⟨_, cc, rfl, by simp, h2, by simp, fun ad had => ?_⟩
      obtain rfl := Option.some.inj had
      exact ⟨rfl, fun j v hv => by simp [idsC] at hv⟩
  · obtain ⟨d, rfl⟩ : ∃ d : Array Idn, es = d.toList := ⟨es.toArray, by simp⟩
    rcases hown.2 with ⟨_, hz⟩ | ⟨g, cap, cur, hv, hB, hblk, h1, h2, h3, h4⟩
    · exact absurd hz h0
    · injection hv with e1 _ e3
      subst e1; subst e3
      have hlen : d.toList.length = d.size := Array.length_toList
      obtain ⟨hH, hg, hc1, hc2⟩ := holds_ids hown hlen
      have eg : ∀ args w, (callFunc 36 args).run Tryz.prog w = .ok (.enter 36 args) w := enters_of Tryz.func36 (by kernel_rfl) rfl
      have h := AnyQ.slices_SortFunc Tryz.sortI 4 isAggId sizeIdn Idn.cells (fun _ => rfl) (fun x v hv => by
        have := idC_one x
        rw [Array.all_eq_true_iff_forall_mem] at this
        exact this v (by simpa using hv)) cmpI swoI 36 #[] g 0 cc d w eg (cmpLays_I g 0 d.size w) hH hg (by rw [← hlen]; omega)
      rw [← hlen] at h
      change Calls Tryz.prog 63 #[.slice _ _ cc, _] w _ at h
      refine h.mono ?_
      rintro e w' ⟨rfl, d', n, os, hp, hs, rfl⟩
      rw [hlen] at hp hs ⊢
      have hsz := hp.1
      have hperm : d'.toList.Perm d.toList := by
        have := hp.2.2
        have e1 : d'.extract 0 d.size = d' := by rw [← hsz]; simp
        rw [e1] at this
        simpa using this
      refine ⟨⟨_, rfl⟩, d'.toList, hperm, ?_, ?_, keeps_sort w g 0 n d' os⟩
      · have hnd' : d'.toList.Nodup := hperm.nodup_iff.2 hnd
        rw [List.pairwise_iff_getElem]
        intro i j hi hj hij
        have hi' : i < d'.size := by rw [← Array.length_toList]; exact hi
        have hj' : j < d'.size := by rw [← Array.length_toList]; exact hj
        have h := hs i j (Nat.zero_le _) hij (by rw [← hsz]; exact hj')
        rw [getElem!_pos d' i hi', getElem!_pos d' j hj'] at h
        have h2 := of_decide_eq_false h
        have hne : d'[i] ≠ d'[j] := fun e => by
          have := List.pairwise_iff_getElem.1 hnd' i j hi hj hij
          simp at this
          exact this e
        have f := cmpI_flip d'[i] d'[j]
        have h3 : cmpI d'[i] d'[j] ≠ 0 := fun e => hne (cmpI_zero e)
        show cmpI d'.toList[i] d'.toList[j] < 0
        simp only [Array.getElem_toList]
        omega
      · have hh := holdsK_sortWorldK Idn.cells 4 w g 0 n d d' os hg hH hsz
        have := ids_holds hh (show d'.size ≤ cc by omega) hc2
        rw [Array.length_toList, hsz] at this
        exact this
end Go.Proofs.YtnhcfkiejldicaaGreat


/- store: List of however many fragments: all of them, rising. -/
namespace Go.Proofs.YtnhcfkiejldicaaGreat
open Go.RowKit Go.Shelf Go.Maps
set_option maxRecDepth 100000
set_option linter.unusedSimpArgs false

/-- What List answers: the ids that have a value, each once, rising. -/
def ListedI (f : Idn → Value) (xs : List Idn) : Prop := CameI f xs ∧ xs.Pairwise (fun x y => cmpI x y < 0)
theorem CameI.perm {f : Idn → Value} {xs ys : List Idn} (h : CameI f xs) (p : ys.Perm xs) : CameI f ys :=
  ⟨p.pairwise_iff (fun h e => h e.symm) |>.2 h.1, fun x hx => h.2.1 x (p.mem_iff.1 hx), fun x hx => p.mem_iff.trans (h.2.2 x hx)⟩

set_option maxHeartbeats 3200000 in
theorem sortedN_any (w : World) (b nn c : Nat) (f : Idn → Value) (M : MapW w b nn c f) (hc : c ≤ 100000) :
    Calls Tryz.prog 34 #[.func (.func 64) #[] #[.pointer (some ⟨w.heap.size, 0, none⟩)], .func (.func 36) #[] #[]] (w.alloc (.cells #[.map (some b)] 55)) fun e w' =>
      ∃ (v : Value) (xs : List Idn), e = .returned v ∧ ListedI f xs ∧ xs.length = c ∧ IdsAt w' v xs ∧ (∀ g, v.ownBlock = some g → w.heap.size ≤ g) ∧ Keeps [] w w' := by
  have hb : Below w.heap.size w (w.alloc (.cells #[.map (some b)] 55)) := (Below.refl _ w).alloc (Nat.le_refl _) _
  have M1 : MapW (w.alloc (.cells #[.map (some b)] 55)) b nn c f := M.keep ((Keeps.refl [] w).alloc _) (by simp)
  have cm : (w.alloc (.cells #[.map (some b)] 55)).cell? ⟨w.heap.size, 0, none⟩ = some (.map (some b)) := by rw [cell_of_row _ _ 0 _ _ (0, 0) (heap_alloc_new w _)]; rfl
  have CO := hid (callsIn_wide.1 (collectI_in 9 (by omega) 64 #[.pointer (some ⟨w.heap.size, 0, none⟩)] f c (by omega) (w.alloc (.cells #[.map (some b)] 55)) enters_keys
    (keysI_stops 7 (by omega) w.heap.size b nn c f _ (by simp) cm M1)))
  have HB := hid hb
  have HM := hid M
  clear hb M M1 cm
  have hsz : w.heap.size ≤ (w.alloc (.cells #[.map (some b)] 55)).heap.size := by simp
  have HSZ := hid hsz
  clear hsz
  obtain ⟨W1, hW1⟩ : ∃ x, x = w.alloc (.cells #[.map (some b)] 55) := ⟨_, rfl⟩
  rw [← hW1] at CO HB HSZ ⊢
  clear hW1
  go_enter Tryz.func34, Tryz.ntmps34
  go_wp2_with fail
  refine CO.out.mono ?_
  rintro e w2 ⟨v, xs, rfl, h1, h2, h3⟩
  have hlen := came_le h1 HM.out
  obtain ⟨va, vc, rfl⟩ : ∃ a c', v = .slice a xs.length c' := by
    rcases h2.2 with ⟨rfl, h0⟩ | ⟨g, cap, cur, rfl, _⟩
    · exact ⟨none, 0, by rw [h0]⟩
    · exact ⟨_, cap, rfl⟩
  have SI := hid (sort_ids w2 W1.heap.size va xs vc h2 (by omega) h1.1)
  have R := hid (And.intro h1 (And.intro h2 h3))
  clear h1 h2 h3
  have HL := hid hlen
  clear hlen
  go_wp2_with fail
  refine SI.out.mono ?_
  rintro e w3 ⟨⟨r, rfl⟩, fs, hp, hs, hi, hk⟩
  have P := hid (And.intro hp (And.intro hs (And.intro hi hk)))
  clear hp hs hi hk
  go_wp2_with fail
  go_ret
  have hge : ∀ g, (Value.slice va xs.length vc).ownBlock = some g → w.heap.size ≤ g := fun g hg => Nat.le_trans HSZ.out (own_geI R.out.2.1 hg)
  have k1 : Keeps [] w W1 := keeps_below HB.out
  have k2 : Keeps [] W1 w2 := keeps_below R.out.2.2
  have hpl := P.out.1.length_eq
  refine ⟨_, fs, rfl, ⟨R.out.1.perm P.out.1, P.out.2.1⟩, by rw [hpl]; exact HL.out, P.out.2.2.1, hge, (k1.trans k2).trans' P.out.2.2.2 (fun j hj hm => ?_)⟩
  have := hge j (by simpa using hm)
  omega

theorem listN_any (w : World) (t p q m : Nat) (wh : Bool) (B : StBlk w t p q m wh) (nn c : Nat) (f : Idn → Value) (M : MapW w m nn c f) (hc : c ≤ 100000) :
    Calls Tryz.prog 12 #[.pointer (some ⟨t, 0, none⟩)] w fun e w' => ∃ (v : Value) (xs : List Idn), e = .returned v ∧ ListedI f xs ∧ xs.length = c ∧ IdsAt w' v xs ∧ (∀ g, v.ownBlock = some g → w.heap.size ≤ g) ∧ Keeps [] w w' := by
  have c2 := B.c2
  have SO := hid (sortedN_any w m nn c f M hc)
  have HB := hid B
  clear M B
  go_enter Tryz.func12, Tryz.ntmps12
  go_wp2_with fail
  refine (made6_any w t p q m wh HB.out).mono ?_
  rintro e _ ⟨rfl, rfl⟩
  go_wp2_with fail
  refine (keys_any w m).mono ?_
  rintro e _ ⟨rfl, rfl⟩
  go_wp2_with fail
  refine SO.out.mono ?_
  rintro e w2 ⟨v, xs, rfl, h1, h2, h3, h4, h5⟩
  have R := hid (And.intro h1 (And.intro h2 (And.intro h3 (And.intro h4 h5))))
  clear h1 h2 h3 h4 h5
  go_wp2_with fail
  go_ret
  exact ⟨v, xs, rfl, R.out⟩
end Go.Proofs.YtnhcfkiejldicaaGreat


/- store: slices.Backward of ids, wherever they lie; Latest. -/
namespace Go.Proofs.YtnhcfkiejldicaaGreat
open Go.RowKit Go.Shelf Go.Maps
set_option maxRecDepth 100000
set_option linter.unusedSimpArgs false

set_option maxHeartbeats 2000000 in
theorem backN_in (n : Nat) (hn : 1 ≤ n) (l Bs n₀ b off cap : Nat) (ad : Option Addr) (xs : List Idn) (hreach : xs.length ≤ 1099511627776) (hab : 0 < xs.length → ad = some ⟨b, off, none⟩) (hb : 0 < xs.length → b < n₀) (hbs : Bs < n₀) (J Jx : List Idn → World → Prop)
    (hY : ∀ pre x (i : Int) W, x ∈ xs → J pre W → pre.length < xs.length → YieldAt Fence.wide (n - 1) Tryz.prog l #[.int .i64 i, idV x] W fun e W' =>
      (e = .returned (.bool true) ∧ J (pre ++ [x]) W' ∧ Below n₀ W W') ∨ (e = .returned (.bool false) ∧ Jx (pre ++ [x]) W'))
    (W : World) (hBs : W.cell? ⟨Bs, 0, none⟩ = some (.slice ad xs.length cap))
    (hc : ∀ j (hj : j < xs.length), W.cell? ⟨b, off + j * 4, none⟩ = some (.int .i64 xs[j].c) ∧ W.cell? ⟨b, off + j * 4 + 1, none⟩ = some (.int .i64 xs[j].l) ∧ W.cell? ⟨b, off + j * 4 + 2, none⟩ = some (.int .i64 xs[j].n) ∧ W.cell? ⟨b, off + j * 4 + 3, none⟩ = some (.int .i64 xs[j].i)) (h0 : J [] W) :
    CallsIn Fence.wide n Tryz.prog 66 #[.func (.yield l) #[] #[], .pointer (some ⟨Bs, 0, none⟩)] W fun e W' => (∃ v, e = .returned v) ∧
      (J xs.reverse W' ∨ (∃ j, j < xs.length ∧ Jx (xs.drop j).reverse W')) := by
  refine callsIn_of_wp Tryz.func66 rfl trivial ?_ rfl
  simp only [Tryz.ntmps66, List.size_toArray, List.length_cons, List.length_nil, Nat.reduceAdd, Nat.reduceSub, Array.replicate_succ, Array.replicate_zero, List.push_toArray, List.append_toArray, List.nil_append, List.cons_append]
  have HC := hid hc
  have HY := hid hY
  have HB := hid hBs
  clear hc hY
  gi_wp2
  gi_loopw [3] (fun i wr => ∃ k : Nat, k ≤ xs.length ∧ i = .int .i64 ((k : Int) - 1) ∧ J (xs.drop k).reverse wr ∧ Below n₀ W wr)
    (fun i _ => (intOf i + 1).toNat)
  case atStart => exact ⟨xs.length, Nat.le_refl _, by go_num, by simpa using h0, Below.refl _ _⟩
  case round =>
    obtain ⟨k, hk, rfl, hJs, hnx⟩ := hrel
    have HJ := hid hJs
    have HN := hid hnx
    clear hJs hnx
    have cB : wr.cell? ⟨Bs, 0, none⟩ = some (.slice ad xs.length cap) := (HN.out.cell (p := ⟨Bs, 0, none⟩) hbs).trans HB.out
    cases k with
    | zero =>
      gi_wp2
      go_end0
      exact ⟨⟨_, rfl⟩, .inl (by simpa using HJ.out)⟩
    | succ j =>
      have hlt : j < xs.length := by omega
      have ej : ((j + 1 : Nat) : Int) - 1 = (j : Int) := by omega
      rw [ej]
      have EJ := hid ej
      clear ej
      obtain rfl := hab (by omega)
      obtain ⟨d0, d1, d2, d3⟩ := HC.out j hlt
      have hb := hb (by omega)
      have c0 := (HN.out.cell (p := ⟨b, off + j * 4, none⟩) hb).trans d0
      have c1 := (HN.out.cell (p := ⟨b, off + j * 4 + 1, none⟩) hb).trans d1
      have c2 := (HN.out.cell (p := ⟨b, off + j * 4 + 2, none⟩) hb).trans d2
      have c3 := (HN.out.cell (p := ⟨b, off + j * 4 + 3, none⟩) hb).trans d3
      clear d0 d1 d2 d3
      obtain ⟨fn, tmps, assign, body, hy, hR⟩ := HY.out _ xs[j] j wr (List.getElem_mem hlt) HJ.out (by rw [List.length_reverse, List.length_drop]; omega)
      have HT : Hid ((xs.drop (j + 1)).reverse ++ [xs[j]] = (xs.drop j).reverse) := hid (by rw [← List.getElem_cons_drop (h := hlt), List.reverse_cons])
      generalize xs[j] = x at *
      have HR := hid hR
      clear hR
      unfold idV at hy
      gi_wp2
      refine HR.out.mono ?_
      rintro e W3 (⟨rfl, hJ3, hk3⟩ | ⟨rfl, hJx3⟩)
      · have HJ3 := hid hJ3
        have HK3 := hid hk3
        clear hJ3 hk3
        gi_wp2
        go_roundw
        case rel => exact ⟨j, by omega, by go_num, by rw [← HT.out]; exact HJ3.out, HN.out.trans HK3.out⟩
        case measure => simp [intOf]
      · have HJ3 := hid hJx3
        clear hJx3
        gi_wp2
        refine bodyPost_ret (results_none rfl _ _ _) rfl ?_
        exact ⟨⟨_, rfl⟩, .inr ⟨j, hlt, by rw [← HT.out]; exact HJ3.out⟩⟩

theorem backN_stops (n : Nat) (hn : 1 ≤ n) (Bs n₀ b off cap : Nat) (ad : Option Addr) (xs : List Idn) (hreach : xs.length ≤ 1099511627776) (hab : 0 < xs.length → ad = some ⟨b, off, none⟩) (hb : 0 < xs.length → b < n₀) (hbs : Bs < n₀) (w : World) (hn0 : n₀ ≤ w.heap.size)
    (hBs : w.cell? ⟨Bs, 0, none⟩ = some (.slice ad xs.length cap))
    (hc : ∀ j (hj : j < xs.length), w.cell? ⟨b, off + j * 4, none⟩ = some (.int .i64 xs[j].c) ∧ w.cell? ⟨b, off + j * 4 + 1, none⟩ = some (.int .i64 xs[j].l) ∧ w.cell? ⟨b, off + j * 4 + 2, none⟩ = some (.int .i64 xs[j].n) ∧ w.cell? ⟨b, off + j * 4 + 3, none⟩ = some (.int .i64 xs[j].i)) :
    SeqStopsK Fence.wide n Tryz.prog 66 #[.pointer (some ⟨Bs, 0, none⟩)] (fun x : {x : Int × Idn // x.2 ∈ xs} => #[.int .i64 x.1.1, idV x.1.2]) (KpS [] n₀) (fun ys => ys.map (·.1.2) = xs.reverse) (fun ys => ∃ j, j < xs.length ∧ ys.map (·.1.2) = (xs.drop j).reverse) xs.length w := fun l J Jx W hW hA _ hY h0 => by
  have K0 : KpS [] w.heap.size w W := KpS.below hW (Nat.le_refl _)
  refine (backN_in n hn l Bs n₀ b off cap ad xs hreach hab hb hbs (fun pre W => ∃ ps, ps.map (·.1.2) = pre ∧ J ps W) (fun pre W => ∃ ps, ps.map (·.1.2) = pre ∧ Jx ps W) ?_ W
    (K0.cell hBs (World.block_lt_of_cell? w _ hBs) (by simp)) (fun j hj => ?_) ⟨[], rfl, h0⟩).mono ?_
  · rintro pre x i W1 hx ⟨ps, rfl, hs⟩ hl
    obtain ⟨fn, tmps, assign, body, hy, hR⟩ := hY ps ⟨(i, x), hx⟩ W1 hs (by simpa using hl)
    refine ⟨fn, tmps, assign, body, hy, hR.mono ?_⟩
    rintro e W2 (⟨rfl, h1, h2⟩ | ⟨rfl, h1⟩)
    · exact .inl ⟨rfl, ⟨_, by simp, h1⟩, ⟨h2.os, h2.tape, h2.output, h2.size, fun k hk => h2.block k hk (by simp)⟩⟩
    · exact .inr ⟨rfl, _, by simp, h1⟩
  · obtain ⟨d0, d1, d2, d3⟩ := hc j hj
    have hbw : b < w.heap.size := by have := hb (by omega); omega
    exact ⟨K0.cell d0 hbw (by simp), K0.cell d1 hbw (by simp), K0.cell d2 hbw (by simp), K0.cell d3 hbw (by simp)⟩
  · rintro e W' ⟨h1, (⟨ps, hps, hs⟩ | ⟨j, hj, ps, hps, hs⟩)⟩
    · exact ⟨h1, .inl ⟨ps, hps, hs⟩⟩
    · exact ⟨h1, .inr ⟨ps, ⟨j, hj, hps⟩, hs⟩⟩

end Go.Proofs.YtnhcfkiejldicaaGreat


/- store: Latest. -/
namespace Go.Proofs.YtnhcfkiejldicaaGreat
open Go.RowKit Go.Shelf Go.Maps
set_option maxRecDepth 100000
set_option linter.unusedSimpArgs false

/-- The last of a client's. -/
def latO (xs : List Idn) (cl : Int) : Option Idn := xs.reverse.find? fun x => decide (x.c = cl)
theorem latO_none {xs : List Idn} {cl : Int} (h : ∀ y ∈ xs.reverse, y.c ≠ cl) : latO xs cl = none := by
  unfold latO
  rw [List.find?_eq_none]
  intro x hx
  simpa using h x hx
theorem latO_some {xs qs : List Idn} {cl : Int} {x : Idn} {j : Nat} (e : (xs.drop j).reverse = qs ++ [x]) (h : ∀ y ∈ qs, y.c ≠ cl) (hx : x.c = cl) : latO xs cl = some x := by
  unfold latO
  have e2 : xs.reverse = qs ++ [x] ++ (xs.take j).reverse := by rw [← e, ← List.reverse_append, List.take_append_drop]
  have h0 : qs.find? (fun x => decide (x.c = cl)) = none := by
    rw [List.find?_eq_none]
    intro y hy
    simpa using h y hy
  rw [e2, List.append_assoc, List.find?_append, h0]
  simp [hx]
theorem idsAt_open {w : World} {ad : Option Addr} {cap : Nat} {xs : List Idn} (h : IdsAt w (.slice ad xs.length cap) xs) : ∃ b off, (0 < xs.length → ad = some ⟨b, off, none⟩) ∧ ∀ j (hj : j < xs.length),
    w.cell? ⟨b, off + j * 4, none⟩ = some (.int .i64 xs[j].c) ∧ w.cell? ⟨b, off + j * 4 + 1, none⟩ = some (.int .i64 xs[j].l) ∧ w.cell? ⟨b, off + j * 4 + 2, none⟩ = some (.int .i64 xs[j].n) ∧ w.cell? ⟨b, off + j * 4 + 3, none⟩ = some (.int .i64 xs[j].i) := by
  obtain ⟨a, c, e, h1, h2, h3, h4⟩ := h
  injection e with e1 _ e3
  subst e1; subst e3
  cases ad with
  | none => exact ⟨0, 0, fun h => by have := h3 rfl; omega, fun j hj => by have := h3 rfl; omega⟩
  | some a =>
    obtain ⟨hs, hr⟩ := h4 a rfl
    refine ⟨a.block, a.off, fun _ => by rw [← hs], fun j hj => ?_⟩
    have g : ∀ r v, r < 4 → xs[j].cells[r]? = some v → w.cell? ⟨a.block, a.off + j * 4 + r, none⟩ = some v := fun r v hr4 hv => by
      rw [Nat.add_assoc]
      exact hr (j * 4 + r) v (by rw [flat4_at xs j hj r hr4]; exact hv)
    exact ⟨g 0 _ (by omega) rfl, g 1 _ (by omega) rfl, g 2 _ (by omega) rfl, g 3 _ (by omega) rfl⟩
theorem wpListIn_buildId0 {F : Fence} {n : Nat} {ops : Array Oper} {rest : List Oper} {o : Oper} {a : Act} {w : World} {Q : Exit → Act → World → Prop} (hgd : o.guard = none) (ho : o.op = .build 36 #[])
    (h : wpListIn F n Tryz.prog ops Q rest (a.put o.dst (idV ⟨0, 0, 0, 0⟩)) w) : wpListIn F n Tryz.prog ops Q (o :: rest) a w := by
  refine wpListIn_is hgd (by simp [noDefer, ho]) (fun w => by simp [Oper.about, ho]) _ _ ?_ h
  have e : (Instr.build 36 #[]).run Tryz.prog w = .ok (idV ⟨0, 0, 0, 0⟩) w := by kernel_rfl
  simp only [execOp, ho, List.map_toArray, List.map_nil, Sem.run_bind, e, Result.andThen_ok, Sem.run_pure]

set_option maxHeartbeats 12800000 in
theorem latestN_in (n : Nat) (hn : 4 ≤ n) (w : World) (t : Nat) (cl : Int) (P : List Idn → Prop)
    (HL : ∀ W, Keeps [] w W → Calls Tryz.prog 12 #[.pointer (some ⟨t, 0, none⟩)] W fun e W' => ∃ (v : Value) (xs : List Idn), e = .returned v ∧ P xs ∧ xs.length ≤ 100000 ∧ IdsAt W' v xs ∧ Keeps [] W W') :
    CallsIn Fence.wide n Tryz.prog 14 #[.pointer (some ⟨t, 0, none⟩), .int .i64 cl] w fun e w' => ∃ xs, P xs ∧ e = .returned (.tuple #[idV ((latO xs cl).getD ⟨0, 0, 0, 0⟩), .bool (latO xs cl).isSome]) ∧ Keeps [] w w' := by
  have h1 : 1 ≤ n := by omega
  have HLL := hid HL
  clear HL
  refine callsIn_of_wp_marks Tryz.func14 rfl trivial ?_ rfl
  simp only [Tryz.ntmps14, List.size_toArray, List.length_cons, List.length_nil, Nat.reduceAdd, Nat.reduceSub, Array.replicate_succ, Array.replicate_zero, List.push_toArray, List.append_toArray, List.nil_append, List.cons_append]
  gi_wp2_with (first | (refine wpListIn_allocId rfl rfl ?_) | fail)
  have kA : Keeps [] w (((w.alloc (.cells #[.int .i64 cl] 3)).alloc (.cells (idA ⟨0, 0, 0, 0⟩) 36)).alloc (.cells #[.bool false] 4)) := (((Keeps.refl [] w).alloc _).alloc _).alloc _
  have zA : (((w.alloc (.cells #[.int .i64 cl] 3)).alloc (.cells (idA ⟨0, 0, 0, 0⟩) 36)).alloc (.cells #[.bool false] 4)).heap.size = w.heap.size + 3 := by simp
  have b0 : (((w.alloc (.cells #[.int .i64 cl] 3)).alloc (.cells (idA ⟨0, 0, 0, 0⟩) 36)).alloc (.cells #[.bool false] 4)).heap[w.heap.size]? = some (.cells #[.int .i64 cl] 3 (0, 0)) := (Below.heap_alloc _ _ _ (by simp; omega)).trans ((Below.heap_alloc _ _ _ (by simp)).trans (heap_alloc_new w _))
  have b1 : (((w.alloc (.cells #[.int .i64 cl] 3)).alloc (.cells (idA ⟨0, 0, 0, 0⟩) 36)).alloc (.cells #[.bool false] 4)).heap[w.heap.size + 1]? = some (.cells (idA ⟨0, 0, 0, 0⟩) 36 (0, 0)) := by
    refine (Below.heap_alloc _ _ _ (by simp)).trans ?_
    have := heap_alloc_new (w.alloc (.cells #[.int .i64 cl] 3)) (.cells (idA ⟨0, 0, 0, 0⟩) 36)
    simpa using this
  have b2 : (((w.alloc (.cells #[.int .i64 cl] 3)).alloc (.cells (idA ⟨0, 0, 0, 0⟩) 36)).alloc (.cells #[.bool false] 4)).heap[w.heap.size + 2]? = some (.cells #[.bool false] 4 (0, 0)) := by
    have := heap_alloc_new ((w.alloc (.cells #[.int .i64 cl] 3)).alloc (.cells (idA ⟨0, 0, 0, 0⟩) 36)) (.cells #[.bool false] 4)
    simpa using this
  generalize ((w.alloc (.cells #[.int .i64 cl] 3)).alloc (.cells (idA ⟨0, 0, 0, 0⟩) 36)).alloc (.cells #[.bool false] 4) = wA at kA zA b0 b1 b2 ⊢
  refine ⟨trivial, (callsIn_wide.2 (HLL.out wA kA)).mono ?_⟩
  rintro e w1 ⟨_, xs, rfl, hP, hlen, ⟨ad, cp, rfl, i1, i2, i3, i4⟩, k1⟩
  have hia : IdsAt w1 (.slice ad xs.length cp) xs := ⟨ad, cp, rfl, i1, i2, i3, i4⟩
  have HP := hid hP
  have HLEN := hid hlen
  have HIA := hid hia
  clear hP hlen hia i1 i2 i3 i4
  gi_wp2
  refine ⟨trivial, (callsIn_wide.2 (backD_any w1 ad xs.length cp)).mono ?_⟩
  rintro e w2 ⟨rfl, hw2⟩
  have k2 : Keeps [] w1 w2 := by rw [← hw2]; exact (Keeps.refl [] w1).alloc _
  have hbs : w2.heap[w1.heap.size]? = some (.cells #[.slice ad xs.length cp] 39 (0, 0)) := by rw [← hw2]; exact heap_alloc_new w1 _
  have k12 := k1.trans k2
  have b0' := (k12.block _ (lt_of_block b0) (by simp)).trans b0
  have b1' := (k12.block _ (lt_of_block b1) (by simp)).trans b1
  have b2' := (k12.block _ (lt_of_block b2) (by simp)).trans b2
  obtain ⟨gb, off, hab, hcl⟩ := idsAt_open HIA.out
  have hgl : 0 < xs.length → gb < w2.heap.size := fun h => by
    have h5 : gb < w1.heap.size := World.block_lt_of_cell? _ _ (hcl 0 h).1
    have := k2.size
    omega
  have hc2 := fun j hj => (⟨k2.cell (hcl j hj).1 (by simp), k2.cell (hcl j hj).2.1 (by simp), k2.cell (hcl j hj).2.2.1 (by simp), k2.cell (hcl j hj).2.2.2 (by simp)⟩ : w2.cell? ⟨gb, off + j * 4, none⟩ = some (.int .i64 xs[j].c) ∧ w2.cell? ⟨gb, off + j * 4 + 1, none⟩ = some (.int .i64 xs[j].l) ∧ w2.cell? ⟨gb, off + j * 4 + 2, none⟩ = some (.int .i64 xs[j].n) ∧ w2.cell? ⟨gb, off + j * 4 + 3, none⟩ = some (.int .i64 xs[j].i))
  have KW := hid (kA.trans k12)
  have z2 : w.heap.size + 3 ≤ w2.heap.size := by have := k12.size; omega
  have hb1l := lt_of_block hbs
  have SEQ := hid (backN_stops (n - 1) (by omega) w1.heap.size w2.heap.size gb off cp ad xs (by have := HLEN.out; omega) hab hgl hb1l w2 (Nat.le_refl _) (cell_of_row _ _ 0 _ _ (0, 0) hbs) hc2)
  clear hw2 k1 k2 hbs k12 b0 b1 b2 hc2 hcl hab hgl kA zA
  gi_wp2
  refine wpIn_rangeFunc_ownH rfl h1 (gf := 66) (lb := #[.pointer (some ⟨w1.heap.size, 0, none⟩)]) rfl trivial (fun _ _ => rfl) SEQ.out KpS.trans (KpS.putObj (Nat.le_refl _)) (Below.refl _ _) (fun _ => rfl)
    (fun pre W => (∀ y ∈ pre, y.1.2.c ≠ cl) ∧ KpS [] w2.heap.size w2 W)
    (fun c pre W => c = .ret ∧ ∃ qs x, pre.map (·.1.2) = qs ++ [x] ∧ (∀ y ∈ qs, y.c ≠ cl) ∧ x.c = cl ∧ W.heap[w.heap.size + 1]? = some (.cells (idA x) 36 (0, 0)) ∧ W.heap[w.heap.size + 2]? = some (.cells #[.bool true] 4 (0, 0)) ∧ KpS [w.heap.size + 1, w.heap.size + 2] w2.heap.size w2 W)
    ?own ?ownx ⟨by simp, KpS.refl _ _ _⟩
    (fun y a' W => ∃ b, a' = { tmps := #[.pointer (some ⟨t, 0, none⟩), .int .i64 cl, undef, .pointer (some ⟨w.heap.size, 0, none⟩), .pointer (some ⟨w.heap.size + 1, 0, none⟩), .pointer (some ⟨w.heap.size + 1 + 1, 0, none⟩), undef, .pointer (some ⟨b, 0, none⟩), .pointer (some ⟨t, 0, none⟩), .slice ad xs.length cp, .func (.func 66) #[] #[.pointer (some ⟨w1.heap.size, 0, none⟩)], .int .i64 y.1.1, idV y.1.2, undef, undef, undef, undef, undef, undef, undef], defers := [] } ∧ IdVar w2.heap.size b y.1.2 W)
    (fun y a' => ownFrom_ex2 fun b => fun u A A' row hs hg hr => idvar_from w2.heap.size b y.1.2 _ u A A' row hs hg (fun r e => hr r e)) ?assign ?body ?done ?stop
  case own =>
    rintro pre A B' row ⟨hne, h⟩ hg hr
    exact ⟨hne, h.trans ⟨hg.os, hg.tape, hg.output, hg.size, fun k hk _ => hg.block k (by have := h.size; omega) (fun e => by have := (hr k e.symm).1; omega)⟩⟩
  case ownx =>
    rintro c pre A B' row ⟨hc, qs, x, e1, e2, e3, g1, g2, h⟩ hg hr
    have hlow : ∀ k, k < w2.heap.size → B'.heap[k]? = A.heap[k]? := fun k hk => hg.block k (by have := h.size; omega) (fun e => by have := (hr k e.symm).1; omega)
    exact ⟨hc, qs, x, e1, e2, e3, (hlow _ (by omega)).trans g1, (hlow _ (by omega)).trans g2, h.trans ⟨hg.os, hg.tape, hg.output, hg.size, fun k hk _ => hlow k hk⟩⟩
  case assign =>
    rintro l pre y W K hI hC
    refine round_plain (by kernel_rfl) noOut_then ?_
    simp only [List.zip_toArray, List.zip_cons_cons, List.zip_nil_right, List.foldl_toArray, List.foldl_cons, List.foldl_nil, List.setIfInBounds_toArray, List.set_cons_zero, List.set_cons_succ]
    refine wpList_allocId rfl rfl ?_
    refine wpList_storeIdNew rfl _ _ rfl W _ y.1.2 rfl _ rfl rfl rfl ?_
    refine wpList_nil ?_
    have hz := hI.2.size
    exact hC _ _ ⟨by simp, fun k o _ hk _ => (Below.heap_alloc _ _ _ (lt_of_block hk)).trans hk⟩ ((KpS.refl _ _ _).alloc hz _) ⟨hI.1, hI.2.alloc hz _⟩ ⟨W.heap.size, rfl, hz, heap_alloc_new W _⟩
  case body =>
    rintro l pre ⟨⟨iv, x⟩, hyv⟩ a' W hl2 _ ⟨hne, hK⟩ ⟨b, rfl, hv⟩ hlen
    have HNE := hid hne
    clear hne
    have hsz := hK.size
    have hvb := hv.2
    simp only at hvb
    have hbb := hv.1
    have a0 := (hK.block (w.heap.size) (by omega) (by simp)).trans b0'
    have a1 := (hK.block (w.heap.size + 1) (by omega) (by simp)).trans b1'
    have a2 := (hK.block (w.heap.size + 2) (by omega) (by simp)).trans b2'
    have cc : W.cell? ⟨b, 0, none⟩ = some (.int .i64 x.c) := cell_of_row _ _ 0 _ _ (0, 0) hvb
    have cq : W.cell? ⟨w.heap.size, 0, none⟩ = some (.int .i64 cl) := cell_of_row _ _ 0 _ _ (0, 0) a0
    obtain ⟨W3, hW3⟩ : ∃ W3, W3 = W.setRow (w.heap.size + 1) (idA x) := ⟨_, rfl⟩
    have d1 : W3.heap[w.heap.size + 1]? = some (.cells (idA x) 36 (0, 0)) := by rw [hW3]; exact setRow_heap _ _ _ _ _ _ a1
    have do3 : ∀ j, j ≠ w.heap.size + 1 → W3.heap[j]? = W.heap[j]? := fun j hj => by rw [hW3]; exact setRow_other _ _ _ _ hj
    have d2 : W3.heap[w.heap.size + 2]? = some (.cells #[.bool false] 4 (0, 0)) := (do3 _ (by omega)).trans a2
    have dz : W3.heap.size = W.heap.size := by rw [hW3]; simp [World.setRow]
    have de : W3.os = W.os ∧ W3.tape = W.tape ∧ W3.output = W.output := by rw [hW3]; exact ⟨rfl, rfl, rfl⟩
    have c2 : W3.cell? ⟨w.heap.size + 1 + 1, 0, none⟩ = some (.bool false) := cell_of_row _ _ 0 _ _ (0, 0) d2
    have f2 : W3.frozen? ⟨w.heap.size + 1 + 1, 0, none⟩ = false := by
      have d2' : W3.heap[w.heap.size + 1 + 1]? = some (.cells #[.bool false] 4 (0, 0)) := d2
      simp [World.frozen?, d2']
    have A1 := hid a1
    have VB := hid hvb
    have HW3 := hid hW3
    clear a0 a1 a2 hvb hW3
    by_cases hc : x.c = cl
    · have hb' : (x.c == cl) = true := by simpa using hc
      have HC := hid hc
      clear hc
      refine wpIn_block (wpIn_seq (round_plain (by kernel_rfl) (fun h => by obtain ⟨_, _, h⟩ := h; exact h) ?_))
      refine wpList_is rfl (.pointer (some ⟨b, 0, none⟩)) W (by go_simp) ?_
      refine wpList_is rfl (.pointer (some ⟨b, 0, none⟩)) W (by go_simp) ?_
      refine wpList_is rfl (.int .i64 x.c) W (exec_load _ _ _ _ rfl rfl (run_loadCell W _ _ _ cc (agg_no _ (by kernel_rfl)))) ?_
      refine wpList_is rfl (.int .i64 cl) W (exec_load _ _ _ _ rfl rfl (run_loadCell W _ _ _ cq (agg_no _ (by kernel_rfl)))) ?_
      refine wpList_is rfl (.bool true) W (by go_simp) ?_
      refine wpList_nil ?_
      refine show Code.wpIn _ _ _ _ _ _ _ from ?_
      simp only [Act.put, List.setIfInBounds_toArray, List.set_cons_zero, List.set_cons_succ]
      gi_wp2_with (first | (refine wpListIn_loadIdA rfl _ rfl b rfl x VB.out ?_) | (refine wpListIn_storeIdAt rfl _ _ rfl (w.heap.size + 1) ⟨0, 0, 0, 0⟩ x A1.out rfl rfl ?_; rw [← HW3.out]) | (refine wpListIn_storeBoolAt rfl _ _ rfl (w.heap.size + 1 + 1) false true c2 f2 rfl rfl ?_) | fail)
      have e2 : ∀ j, j ≠ w.heap.size + 1 + 1 → (W3.setCell ⟨w.heap.size + 1 + 1, 0, none⟩ (.bool true)).heap[j]? = W3.heap[j]? := fun j hj => Below.heap_setCell _ _ _ _ hj
      have ez : (W3.setCell ⟨w.heap.size + 1 + 1, 0, none⟩ (.bool true)).heap.size = W3.heap.size := by simp [World.setCell]
      refine ⟨⟨by omega, fun j o hB hj _ => ?_⟩, rfl, pre.map (·.1.2), x, by simp, fun y hy => by
          obtain ⟨z, hz, rfl⟩ := List.mem_map.1 hy
          exact HNE.out z hz, HC.out, (e2 _ (by omega)).trans d1, heap_setCell_same _ _ _ _ _ _ d2, de.1.trans hK.os, de.2.1.trans hK.tape, de.2.2.trans hK.output, by omega, fun k hk hm => ?_⟩
      · exact (e2 _ (by omega)).trans ((do3 _ (by omega)).trans hj)
      · have hm' : k ≠ w.heap.size + 1 ∧ k ≠ w.heap.size + 2 := by simpa using hm
        exact (e2 _ hm'.2).trans ((do3 _ hm'.1).trans (hK.block k hk (by simp)))
    · have hb' : (x.c == cl) = false := by simpa using hc
      have HC := hid hc
      clear hc
      refine wpIn_block (wpIn_seq (round_plain (by kernel_rfl) (fun h => by obtain ⟨_, _, h⟩ := h; exact h) ?_))
      refine wpList_is rfl (.pointer (some ⟨b, 0, none⟩)) W (by go_simp) ?_
      refine wpList_is rfl (.pointer (some ⟨b, 0, none⟩)) W (by go_simp) ?_
      refine wpList_is rfl (.int .i64 x.c) W (exec_load _ _ _ _ rfl rfl (run_loadCell W _ _ _ cc (agg_no _ (by kernel_rfl)))) ?_
      refine wpList_is rfl (.int .i64 cl) W (exec_load _ _ _ _ rfl rfl (run_loadCell W _ _ _ cq (agg_no _ (by kernel_rfl)))) ?_
      refine wpList_is rfl (.bool false) W (by go_simp) ?_
      refine wpList_nil ?_
      refine show Code.wpIn _ _ _ _ _ _ _ from ?_
      simp only [Act.put, List.setIfInBounds_toArray, List.set_cons_zero, List.set_cons_succ]
      gi_wp2
      refine ⟨KeepsFrom.refl _ _, KpS.refl _ _ _, fun u y hu hy => ?_, hK⟩
      rcases List.mem_append.1 hy with h | h
      · exact HNE.out ⟨(u, y), hu⟩ h
      · have h := List.mem_singleton.1 h
        injection h with h
        injection h with _ h
        subst h
        exact HC.out
  case done =>
    rintro D ys W hD hys ⟨hne, hK⟩ hDD
    have e0 : latO xs cl = none := latO_none (fun y hy => by
      rw [← hys] at hy
      obtain ⟨z, hz, rfl⟩ := List.mem_map.1 hy
      exact hne z hz)
    have hsz := hK.size
    have a1 := (hK.block (w.heap.size + 1) (by omega) (by simp)).trans b1'
    have a2 := (hK.block (w.heap.size + 2) (by omega) (by simp)).trans b2'
    obtain ⟨W3, hW3⟩ : ∃ W3, W3 = W.setRow (w.heap.size + 1) (idA ⟨0, 0, 0, 0⟩) := ⟨_, rfl⟩
    have d1 : W3.heap[w.heap.size + 1]? = some (.cells (idA ⟨0, 0, 0, 0⟩) 36 (0, 0)) := by rw [hW3]; exact setRow_heap _ _ _ _ _ _ a1
    have do3 : ∀ j, j ≠ w.heap.size + 1 → W3.heap[j]? = W.heap[j]? := fun j hj => by rw [hW3]; exact setRow_other _ _ _ _ hj
    have d2 : W3.heap[w.heap.size + 2]? = some (.cells #[.bool false] 4 (0, 0)) := (do3 _ (by omega)).trans a2
    have dz : W3.heap.size = W.heap.size := by rw [hW3]; simp [World.setRow]
    have de : W3.os = W.os ∧ W3.tape = W.tape ∧ W3.output = W.output := by rw [hW3]; exact ⟨rfl, rfl, rfl⟩
    have c2 : W3.cell? ⟨w.heap.size + 1 + 1, 0, none⟩ = some (.bool false) := cell_of_row _ _ 0 _ _ (0, 0) d2
    have f2 : W3.frozen? ⟨w.heap.size + 1 + 1, 0, none⟩ = false := by
      have d2' : W3.heap[w.heap.size + 1 + 1]? = some (.cells #[.bool false] 4 (0, 0)) := d2
      simp [World.frozen?, d2']
    have A1 := hid a1
    have HW3 := hid hW3
    clear a1 a2 hW3
    gi_wp2_with (first | (refine wpListIn_buildId0 rfl rfl ?_) | (refine wpListIn_storeIdAt rfl _ _ rfl (w.heap.size + 1) ⟨0, 0, 0, 0⟩ ⟨0, 0, 0, 0⟩ A1.out rfl rfl ?_; rw [← HW3.out]) | (refine wpListIn_storeBoolAt rfl _ _ rfl (w.heap.size + 1 + 1) false false c2 f2 rfl rfl ?_) | fail)
    have k3 : Keeps [w.heap.size + 1] W W3 := ⟨de.1, de.2.1, de.2.2, by omega, fun k hk hm => do3 k (by simpa using hm)⟩
    have ks : Keeps [w.heap.size + 1 + 1] W3 (W3.setCell ⟨w.heap.size + 1 + 1, 0, none⟩ (.bool false)) := (Keeps.refl [w.heap.size + 1 + 1] W3).setCell (.inl (by simp)) _
    have yk : Keeps [] w (W3.setCell ⟨w.heap.size + 1 + 1, 0, none⟩ (.bool false)) := ((KW.out.trans' hK.toKeeps (fun j hj hm => by simp at hm)).trans' k3 (fun j hj hm => by simp at hm; omega)).trans' ks (fun j hj hm => by simp at hm; omega)
    have y1 : (W3.setCell ⟨w.heap.size + 1 + 1, 0, none⟩ (.bool false)).heap[w.heap.size + 1]? = some (.cells (idA ⟨0, 0, 0, 0⟩) 36 (0, 0)) := (Below.heap_setCell _ _ _ _ (show w.heap.size + 1 ≠ w.heap.size + 1 + 1 by omega)).trans d1
    have y2 : (W3.setCell ⟨w.heap.size + 1 + 1, 0, none⟩ (.bool false)).heap[w.heap.size + 1 + 1]? = some (.cells #[.bool false] 4 (0, 0)) := heap_setCell_same _ _ _ _ _ _ d2
    have yD : (W3.setCell ⟨w.heap.size + 1 + 1, 0, none⟩ (.bool false)).heap[D]? = some (.deferred (some [])) := (Below.heap_setCell _ _ _ _ (show D ≠ w.heap.size + 1 + 1 by omega)).trans ((do3 _ (by omega)).trans hDD)
    refine ⟨by simp, .inl ⟨_, _, rfl, run_takeDeferred yD, ?_⟩⟩
    refine ⟨_, results_cells2 rfl _ _ ⟨w.heap.size + 1, 0, none⟩ ⟨w.heap.size + 1 + 1, 0, none⟩ (idV ⟨0, 0, 0, 0⟩) (.bool false) rfl rfl
      (loadId_var ((World.putObj_heap_other (by omega)).trans y1)) (loadBool_var (cell_of_row _ _ 0 _ _ (0, 0) ((World.putObj_heap_other (by omega)).trans y2))), xs, HP.out, by rw [e0]; rfl, yk.putObj (by omega) _⟩
  case stop =>
    rintro D c pre W hD ⟨j, hj, hpre⟩ ⟨rfl, qs, x, e1, e2, e3, g1, g2, h⟩ hDD
    have e0 : latO xs cl = some x := latO_some (hpre.symm.trans e1) e2 e3
    have E0 := hid e0
    clear e0 e1 e2 e3 hpre
    gi_wp2
    have yk : Keeps [] w W := KW.out.trans' h.toKeeps (fun j hj hm => by simp at hm; omega)
    have hs := h.size
    refine ⟨by simp, .inl ⟨_, _, rfl, run_takeDeferred hDD, ?_⟩⟩
    refine ⟨_, results_cells2 rfl _ _ ⟨w.heap.size + 1, 0, none⟩ ⟨w.heap.size + 1 + 1, 0, none⟩ (idV x) (.bool true) rfl rfl
      (loadId_var ((World.putObj_heap_other (by omega)).trans g1)) (loadBool_var (cell_of_row _ _ 0 _ _ (0, 0) ((World.putObj_heap_other (by omega)).trans g2))), xs, HP.out, by rw [E0.out]; rfl, yk.putObj (by omega) _⟩

theorem latestN_any (w : World) (t : Nat) (cl : Int) (P : List Idn → Prop)
    (HL : ∀ W, Keeps [] w W → Calls Tryz.prog 12 #[.pointer (some ⟨t, 0, none⟩)] W fun e W' => ∃ (v : Value) (xs : List Idn), e = .returned v ∧ P xs ∧ xs.length ≤ 100000 ∧ IdsAt W' v xs ∧ Keeps [] W W') :
    Calls Tryz.prog 14 #[.pointer (some ⟨t, 0, none⟩), .int .i64 cl] w fun e w' => ∃ xs, P xs ∧ e = .returned (.tuple #[idV ((latO xs cl).getD ⟨0, 0, 0, 0⟩), .bool (latO xs cl).isSome]) ∧ Keeps [] w w' :=
  callsIn_wide.1 (latestN_in 4 (by omega) w t cl P HL)
end Go.Proofs.YtnhcfkiejldicaaGreat


/- store: on a living disk: Put and Delete again, Get, List and Latest change nothing. -/
namespace Go.Proofs.YtnhcfkiejldicaaGreat
open Go.RowKit Go.Shelf Go.Maps
set_option maxRecDepth 100000
set_option linter.unusedSimpArgs false

set_option maxHeartbeats 3200000 in
theorem oGet_arg (w : World) (t q p m : Nat) (wh : Bool) (B : StBlk w t p q m wh) (x : Idn) (hm : mayI x = false) :
    Calls Tryz.prog 15 #[.pointer (some ⟨t, 0, none⟩), idV x] w fun e w' => e = .returned (.tuple #[.slice none 0 0, .int .i64 1]) ∧ Keeps [] w w' := by
  have KA := hid ((Keeps.refl [] w).alloc (.cells #[.int .i64 x.c, .int .i64 x.l, .int .i64 x.n, .int .i64 x.i] 36))
  have B1 := hid (heap_alloc_new w (.cells #[.int .i64 x.c, .int .i64 x.l, .int .i64 x.n, .int .i64 x.i] 36))
  have BA := hid (B.keep KA.out (by simp))
  have HM := hid hm
  clear B hm
  unfold idV
  go_enter Tryz.func15, Tryz.ntmps15
  go_wp2_with (first | (refine wpList_loadId rfl _ rfl _ rfl x B1.out ?_) | fail)
  generalize w.alloc (.cells #[.int .i64 x.c, .int .i64 x.l, .int .i64 x.n, .int .i64 x.i] 36) = wA at KA B1 BA ⊢
  have ak := ask_any wA t p q m wh BA.out x
  rw [HM.out] at ak
  simp only [Bool.false_eq_true, if_false] at ak
  refine ak.mono ?_
  rintro e wB ⟨rfl, kk⟩
  have KB := hid (KA.out.trans kk)
  clear kk ak
  go_wp2_with fail
  go_ret2
  exact ⟨rfl, KB.out⟩
theorem get_live {w0 W : World} {t q p g m K : Nat} {hs : List Hd} {s : DS} {G : Idn → Option Nat} (L : LiveSt w0 W t q p g m K hs s G) (x : Idn) :
    Calls Tryz.prog 15 #[.pointer (some ⟨t, 0, none⟩), idV x] W fun e W' => (∃ v er, e = .returned (.tuple #[v, er])) ∧ Keeps [] W W' := by
  obtain ⟨F, wh, S, hF⟩ := L.st
  cases hm : mayI x with
  | false => exact (oGet_arg W t q p m wh S.blk x hm).mono fun e W' h => ⟨⟨_, _, h.1⟩, h.2⟩
  | true =>
    cases hg : G x with
    | none => exact (oGet_none W t q p g m hs s F K wh G S x hm hg).mono fun e W' h => ⟨⟨_, _, h.1⟩, h.2⟩
    | some i =>
      obtain ⟨hi, hu⟩ := S.at_ x i (mayI_In hm) hg
      refine (oGet_yes W t q p g m hs s F K wh G S x hm i hg L.al.1 hi).mono ?_
      rintro e W' ⟨v, rfl, -, -, k⟩
      exact ⟨⟨_, _, rfl⟩, k⟩
theorem again_live {w0 W : World} {t q p g m K : Nat} {hs : List Hd} {s : DS} {G : Idn → Option Nat} (L : LiveSt w0 W t q p g m K hs s G) (x : Idn) (hm : mayI x = true) (bv : Value) (b : List Int) (hb : RowAt W bv b) (hl : b.length ≤ 448)
    (i : Nat) (hi : i < hs.length) (hg : G x = some i) (hbb : getB s (1 + i * 8) hs[i].held = b) :
    Calls Tryz.prog 9 #[.pointer (some ⟨t, 0, none⟩), idV x, bv] W fun e W' => e = .returned (.int .i64 0) ∧ Keeps [] W W' := by
  obtain ⟨F, wh, S, hF⟩ := L.st
  have h := oPut_there W t q p g m hs s F K wh G S x hm i hg L.al.1 hi b hbb (by omega) bv b hb hl
  rw [if_pos rfl] at h
  exact h
theorem gone_live {w0 W : World} {t q p g m K : Nat} {hs : List Hd} {s : DS} {G : Idn → Option Nat} (L : LiveSt w0 W t q p g m K hs s G) (x : Idn) (hm : mayI x = true) (hg : G x = none) :
    Calls Tryz.prog 11 #[.pointer (some ⟨t, 0, none⟩), idV x] W fun e W' => e = .returned (.int .i64 0) ∧ Keeps [] W W' := by
  obtain ⟨F, wh, S, hF⟩ := L.st
  exact oDelete_none W t q p g m hs s F K wh G S x hm hg
theorem list_live {w0 W : World} {t q p g m K : Nat} {hs : List Hd} {s : DS} {G : Idn → Option Nat} (L : LiveSt w0 W t q p g m K hs s G) (hn : hs.length ≤ 100000) :
    Calls Tryz.prog 12 #[.pointer (some ⟨t, 0, none⟩)] W fun e W' => ∃ (v : Value) (xs : List Idn), e = .returned v ∧ (xs.Pairwise (fun x y => cmpI x y < 0) ∧ (∀ x ∈ xs, x.In) ∧ (∀ x, x.In → (x ∈ xs ↔ (G x).isSome = true)) ∧ xs.length = usedN hs) ∧ xs.length ≤ 100000 ∧ IdsAt W' v xs ∧ Keeps [] W W' := by
  obtain ⟨F, wh, S, hF⟩ := L.st
  obtain ⟨f, mf, hf⟩ := S.mp
  have hu := usedN_le hs
  refine (listN_any W t p q m wh S.blk _ _ f mf (by omega)).mono ?_
  rintro e W' ⟨v, xs, rfl, ⟨⟨h1, h2, h3⟩, h4⟩, h5, h6, -, k⟩
  refine ⟨v, xs, rfl, ⟨h4, h2, fun x hx => (h3 x hx).trans ?_, h5⟩, by omega, h6, k⟩
  rcases hf x hx with ⟨e1, e2⟩ | ⟨j, b, cap, cs, e1, e2, _⟩
  · rw [e1, e2]; simp
  · rw [e1, e2]; simp [vnil]
theorem latest_live {w0 W : World} {t q p g m K : Nat} {hs : List Hd} {s : DS} {G : Idn → Option Nat} (L : LiveSt w0 W t q p g m K hs s G) (hn : hs.length ≤ 100000) (cl : Int) :
    Calls Tryz.prog 14 #[.pointer (some ⟨t, 0, none⟩), .int .i64 cl] W fun e W' => ∃ xs : List Idn, (xs.Pairwise (fun x y => cmpI x y < 0) ∧ (∀ x ∈ xs, x.In) ∧ (∀ x, x.In → (x ∈ xs ↔ (G x).isSome = true)) ∧ xs.length = usedN hs) ∧
      e = .returned (.tuple #[idV ((latO xs cl).getD ⟨0, 0, 0, 0⟩), .bool (latO xs cl).isSome]) ∧ Keeps [] W W' :=
  latestN_any W t cl _ fun _ k1 => list_live (L.keep k1) hn
end Go.Proofs.YtnhcfkiejldicaaGreat


/- store: an id as an argument of a law (StId over StAP). -/
namespace Go.Proofs.YtnhcfkiejldicaaGreat
open Go.Deep Go.ChangeShapes Go.WideShapes Go.ChangeAt Go.RowKit
set_option maxRecDepth 100000

section
variable {H : Type} {enc : TypeId × Value → H}
theorem id_of_trod {W : World} {base : Nat} {v : Value} {d : DataW H} {p : List MemPlace} (hv : Value.okWide Tryz.prog W .any base 36 v) (h : DataW.Trod enc Tryz.prog W 0 (fun _ => true) true 36 v d p) :
    ∃ x : Idn, v = idV x ∧ d = .agg [.agg [.lit (.int .i64 x.c), .lit (.int .i64 x.l), .lit (.int .i64 x.n)], .lit (.int .i64 x.i)] ∧ p = [] ∧
      ((Lit.int .i64 x.c).wf = true ∧ (Lit.int .i64 x.l).wf = true ∧ (Lit.int .i64 x.n).wf = true ∧ (Lit.int .i64 x.i).wf = true) := by
  obtain ⟨cs, rfl, hsz, _⟩ : ∃ cs, v = .agg cs ∧ cs.size = Tryz.prog.cellsOf 36 ∧ Row.okWide Tryz.prog W .any base 36 cs := by
    simpa [Value.okWide, Tryz.underlying36] using hv
  rw [cellsId] at hsz
  obtain ⟨l⟩ := cs
  obtain ⟨c0, c1, c2, c3, rfl⟩ : ∃ a b c d, l = [a, b, c, d] := by
    match l, hsz with
    | [a, b, c, d], _ => exact ⟨a, b, c, d, rfl⟩
  obtain ⟨fuel, hf⟩ := h
  obtain ⟨ye, yi, m, e, _, h0, h1⟩ := trod_struct2 Tryz.underlying36 hf
  simp only [cellsStripe, cellsInt1, Value.cells, List.drop_zero, List.drop_succ_cons, List.take_succ_cons, List.take_zero, List.take_nil] at h0 h1
  obtain ⟨y0, y1, y2, m2, rfl, _, g0, g1, g2⟩ := trod_struct3 Tryz.underlying34 h0
  simp only [cellsInt1, List.drop_zero, List.drop_succ_cons, List.take_succ_cons, List.take_zero, List.take_nil] at g0 g1 g2
  obtain ⟨z, e0, rfl, w0⟩ := DataW.trod_int Tryz.underlying3 g0
  obtain ⟨y, e1, rfl, w1⟩ := DataW.trod_int Tryz.underlying3 g1
  obtain ⟨x, e2, rfl, w2⟩ := DataW.trod_int Tryz.underlying3 g2
  obtain ⟨u, e3, rfl, w3⟩ := DataW.trod_int Tryz.underlying3 h1
  simp at e0 e1 e2 e3 e
  subst e0 e1 e2 e3
  exact ⟨⟨z, y, x, u⟩, rfl, e.1, e.2, w0, w1, w2, w3⟩
theorem id_shut {W : World} {sp : Nat → Bool} {held : Bool} {x : Idn} (h : (Lit.int .i64 x.c).wf = true ∧ (Lit.int .i64 x.l).wf = true ∧ (Lit.int .i64 x.n).wf = true ∧ (Lit.int .i64 x.i).wf = true) :
    DataW.Trod enc Tryz.prog W 0 sp held 36 (idV x) (.agg [.agg [.lit (.int .i64 x.c), .lit (.int .i64 x.l), .lit (.int .i64 x.n)], .lit (.int .i64 x.i)]) [] :=
  ⟨3, by simp [DataW.trod, Value.cells, idV, Tryz.underlying36, Tryz.underlying34, Tryz.underlying3, cellsId, cellsStripe, cellsInt1, h.1, h.2.1, h.2.2.1, h.2.2.2]⟩
end
end Go.Proofs.YtnhcfkiejldicaaGreat


/- store: the deeds of the laws, as they come in; their room. -/
namespace Go.Proofs.YtnhcfkiejldicaaGreat
open Go.Deep Go.ChangeShapes Go.WideShapes Go.ChangeAt Go.RowKit
set_option maxRecDepth 100000
set_option linter.unusedSimpArgs false

structure D6 where
  act : Int
  n : Int
  x : Idn
  bv : Value
  b : List Int
/-- Deed d lies in the seven cells from there on. -/
structure D6At (w : World) (g off : Nat) (d : D6) : Prop where
  c0 : w.cell? ⟨g, off, none⟩ = some (.int .i64 d.act)
  c1 : w.cell? ⟨g, off + 1, none⟩ = some (.int .i64 d.n)
  cx : w.rangeAt g (off + 2) d.x.cells
  c6 : w.cell? ⟨g, off + 6, none⟩ = some d.bv
  rb : RowAt w d.bv d.b
  b0 : i64 d.act
  b1 : i64 d.n
def D6sAt (w : World) (v : Value) (ds : List D6) : Prop :=
  ∃ (a : Option Addr) (cap : Nat), v = .slice a ds.length cap ∧ ds.length ≤ cap ∧ cap ≤ maxLen ∧ (a = none → cap = 0) ∧
    (ds ≠ [] → ∃ g off, a = some ⟨g, off, none⟩ ∧ ∀ i (h : i < ds.length), D6At w g (off + i * 7) ds[i])
theorem D6At.keep {w w' : World} {g off : Nat} {d : D6} (h : D6At w g off d) (k : Keeps [] w w') : D6At w' g off d :=
  ⟨k.cell h.c0 (by simp), k.cell h.c1 (by simp), fun j u hu => k.cell (h.cx j u hu) (by simp), k.cell h.c6 (by simp), h.rb.keep k (by intro _ _ _ _ _; simp), h.b0, h.b1⟩
theorem D6sAt.keep {w w' : World} {v : Value} {ds : List D6} (h : D6sAt w v ds) (k : Keeps [] w w') : D6sAt w' v ds := by
  obtain ⟨a, cap, rfl, h1, h2, h0, h3⟩ := h
  refine ⟨a, cap, rfl, h1, h2, h0, fun hne => ?_⟩
  obtain ⟨g, off, rfl, h4⟩ := h3 hne
  exact ⟨g, off, rfl, fun i hi => (h4 i hi).keep k⟩

section
variable {H : Type} {enc : TypeId × Value → H}
end

end Go.Proofs.YtnhcfkiejldicaaGreat


/- store: the laws' room; the ops of a store's disk. -/
namespace Go.Proofs.YtnhcfkiejldicaaGreat
open Go.ChangeShapes Go.WideShapes Go.ChangeAt Go.RowKit
set_option maxRecDepth 100000
set_option linter.unusedSimpArgs false

def Room6 (ds : List D6) (most : Nat) : Prop := ds.length ≤ most ∧ ∀ d ∈ ds, d.b.length ≤ 600

def RoomPost6 (w : World) (ds : List D6) (most : Nat) (e : Ending) (w' : World) : Prop := ∃ b, e = .returned (.bool b) ∧ w = w' ∧ (b = true → Room6 ds most)

end Go.Proofs.YtnhcfkiejldicaaGreat
