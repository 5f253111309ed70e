/- Load: the chunks of an image. -/
import Derived.Test.YtnhcfkiejldicaaGreatDkR
namespace Go.Proofs.YtnhcfkiejldicaaGreat
open Go.RowKit Go.Shelf
attribute [local go_sem] Oper.semAt_some

theorem chunk_any (w : World) (a : Option Addr) (len cap : Nat) :
    Calls Tryz.prog 69 #[.slice a len cap, .int .i64 64] w fun e w' => e = .returned (.func (.func 90) #[] #[.pointer (some ⟨w.heap.size, 0, none⟩), .pointer (some ⟨w.heap.size + 1, 0, none⟩)]) ∧
      (w.alloc (.cells #[.slice a len cap] 22)).alloc (.cells #[.int .i64 64] 3) = w' := by
  go_enter Tryz.func69, Tryz.ntmps69
  go_wp2_with fail
  go_ret
  exact ⟨rfl, rfl⟩

set_option maxRecDepth 100000 in
set_option maxHeartbeats 4000000 in
theorem chunk1_in (n : Nat) (hn : 1 ≤ n) (l Bs Bn g off cap n₀ cnt : Nat) (S : List Nat) (hcnt : cnt ≤ 4160) (hcap : cnt * 64 ≤ cap) (J Jx : List Nat → World → Prop) (W : World)
    (hY : ∀ pre x W, x < cnt → J pre W → pre.length < cnt → YieldAt Fence.wide (n - 1) Tryz.prog l #[.slice (some ⟨g, off + x * 64, none⟩) 64 64] W fun e W' =>
      (e = .returned (.bool true) ∧ J (pre ++ [x]) W' ∧ KpS S n₀ W W') ∨ (e = .returned (.bool false) ∧ Jx (pre ++ [x]) W'))
    (hJd : ∀ pre A, J pre A → J pre A.drew)
    (hBs : W.cell? ⟨Bs, 0, none⟩ = some (.slice (some ⟨g, off, none⟩) (cnt * 64) cap)) (hBn : W.cell? ⟨Bn, 0, none⟩ = some (.int .i64 64)) (bs : Bs < n₀ ∧ Bs ∉ S) (bn : Bn < n₀ ∧ Bn ∉ S) (h0 : J [] W) :
    CallsIn Fence.wide n Tryz.prog 90 #[.func (.yield l) #[] #[], .pointer (some ⟨Bs, 0, none⟩), .pointer (some ⟨Bn, 0, none⟩)] W fun e W' => (∃ v, e = .returned v) ∧
      ((∃ ys, ys = List.range cnt ∧ J ys W') ∨ (∃ pre, True ∧ Jx pre W')) := by
  refine callsIn_of_wp Tryz.func90 rfl trivial ?_ rfl
  simp only [Tryz.ntmps90, List.size_toArray, List.length_cons, List.length_nil, Nat.reduceAdd, Nat.reduceSub, Array.replicate_succ, Array.replicate_zero, List.push_toArray, List.append_toArray, List.nil_append, List.cons_append]
  have HY := hid hY
  have HD := hid hJd
  have H0 := hid h0
  clear hY hJd h0
  gi_wp2
  gi_loopw [4] (fun i wr => ∃ k : Nat, k ≤ cnt ∧ i = .int .i64 ((k * 64 : Nat) : Int) ∧ J (List.range k) wr ∧ KpS S n₀ W wr)
    (fun i _ => cnt * 64 - (intOf i).toNat)
  case atStart => exact ⟨0, Nat.zero_le _, rfl, H0.out, KpS.refl _ _ _⟩
  case round =>
    obtain ⟨k, hk, rfl, hJs, hnx⟩ := hrel
    have HJ := hid hJs
    have HN := hid hnx
    have cs := hnx.cell hBs bs.1 bs.2
    have cn := hnx.cell hBn bn.1 bn.2
    clear hJs hnx
    by_cases hlt : k < cnt
    · have t0 : ((k * 64 : Nat) : Int) < ((cnt * 64 : Nat) : Int) := by omega
      gi_wp2
      have csd : wr.drew.cell? ⟨Bs, 0, none⟩ = some (.slice (some ⟨g, off, none⟩) (cnt * 64) cap) := by rw [World.cell?_drew]; exact cs
      have cnd : wr.drew.cell? ⟨Bn, 0, none⟩ = some (.int .i64 64) := by rw [World.cell?_drew]; exact cn
      have HJd := hid (HD.out _ _ HJ.out)
      have HNd : Hid (KpS S n₀ W wr.drew) := hid ⟨HN.out.os, HN.out.tape, HN.out.output, HN.out.size, HN.out.block⟩
      refine wpIn_wide.2 (wp_region_noPanic (wp_region_any (by kernel_rfl) ?_))
      refine wpAny_of_held (S := fun W1 => W1 = wr.drew) _ _ _ _ ?_
      refine held_take (i := 0) (v := .int .i64 64) rfl (by kernel_rfl) (by kernel_rfl) (by kernel_rfl) (fun _ _ _ h => h) rfl (fun W1 hW1 => by subst hW1; exact exec_load _ _ _ _ rfl rfl (run_loadCell _ _ _ _ cnd (agg_no _ (by kernel_rfl)))) rfl ?_
      simp only [Act.put, List.setIfInBounds_toArray, List.set_cons_zero, List.set_cons_succ]
      refine held_take (i := 1) (v := .slice (some ⟨g, off, none⟩) (cnt * 64) cap) rfl (by kernel_rfl) (by kernel_rfl) (by kernel_rfl) (fun _ _ _ h => h) rfl (fun W1 hW1 => by subst hW1; exact exec_load _ _ _ _ rfl rfl (run_loadCell _ _ _ _ csd (agg_no _ (by kernel_rfl)))) rfl ?_
      simp only [Act.put, List.setIfInBounds_toArray, List.set_cons_zero, List.set_cons_succ]
      refine held_take (i := 2) (v := .int .i64 ((k * 64 : Nat) : Int)) rfl (by kernel_rfl) (by kernel_rfl) (by kernel_rfl) (fun _ _ _ h => h) rfl (fun W1 hW1 => rfl) rfl ?_
      simp only [Act.put, List.setIfInBounds_toArray, List.set_cons_zero, List.set_cons_succ]
      refine held_take (i := 3) (v := .slice (some ⟨g, off + k * 64, none⟩) (cnt * 64 - k * 64) (cap - k * 64)) rfl (by kernel_rfl) (by kernel_rfl) (by kernel_rfl) (fun _ _ _ h => h) rfl (fun W1 hW1 => by
        have e0 : ((k : Int) * 64).toNat = k * 64 := by omega
        have e1 : ¬ cap = k * 64 := by omega
        go_simp
        intro h
        omega) rfl ?_
      simp only [Act.put, List.setIfInBounds_toArray, List.set_cons_zero, List.set_cons_succ]
      refine held_take (i := 4) (v := .int .i64 ((cnt * 64 - k * 64 : Nat) : Int)) rfl (by kernel_rfl) (by kernel_rfl) (by kernel_rfl) (fun _ _ _ h => h) rfl (fun W1 hW1 => by go_simp) rfl ?_
      simp only [Act.put, List.setIfInBounds_toArray, List.set_cons_zero, List.set_cons_succ]
      refine held_take (i := 5) (v := .int .i64 64) rfl (by kernel_rfl) (by kernel_rfl) (by kernel_rfl) (fun _ _ _ h => h) rfl (fun W1 hW1 => by go_simp; omega) rfl ?_
      simp only [Act.put, List.setIfInBounds_toArray, List.set_cons_zero, List.set_cons_succ]
      refine held_take (i := 6) (v := .int .i64 64) rfl (by kernel_rfl) (by kernel_rfl) (by kernel_rfl) (fun _ _ _ h => h) rfl (fun W1 hW1 => rfl) rfl ?_
      simp only [Act.put, List.setIfInBounds_toArray, List.set_cons_zero, List.set_cons_succ]
      refine wpAnyH_done (by kernel_rfl) ?_ _
      refine NoPanic.normal ?_
      generalize hwd : World.mk wr.heap wr.tape (wr.drawn + 1) wr.os wr.output = wd
      obtain rfl : wr.drew = wd := hwd
      generalize wr.drew = wd at csd cnd HJd HNd ⊢
      obtain ⟨fn, tmps, assign, body, hy, hR⟩ := HY.out _ k wd hlt HJd.out (by simpa using hlt)
      have HR := hid hR
      clear hR
      gi_wp2
      refine HR.out.mono ?_
      rintro e W3 (⟨rfl, hJ3, hk3⟩ | ⟨rfl, hJx3⟩)
      · have HJ3 := hid hJ3
        have HK3 := hid hk3
        have cn3 := hk3.cell cnd bn.1 bn.2
        clear hJ3 hk3 cnd csd cs cn
        gi_wp2
        go_roundw
        case rel => exact ⟨k + 1, by omega, by congr 1; omega, by rw [List.range_succ]; exact HJ3.out, HNd.out.trans HK3.out⟩
        case measure => simp [intOf]; omega
      · have HJ3 := hid hJx3
        clear hJx3
        gi_wp2
        refine bodyPost_ret (results_none rfl _ _ _) rfl ?_
        exact ⟨⟨_, rfl⟩, .inr ⟨_, trivial, HJ3.out⟩⟩
    · have : k = cnt := by omega
      subst this
      gi_wp2
      go_end0
      exact ⟨⟨_, rfl⟩, .inl ⟨_, rfl, HJ.out⟩⟩

theorem chunk_stops (n : Nat) (hn : 1 ≤ n) (Bs Bn g off cap n₀ cnt : Nat) (S : List Nat) (hcnt : cnt ≤ 4160) (hcap : cnt * 64 ≤ cap) (w : World)
    (hBs : w.cell? ⟨Bs, 0, none⟩ = some (.slice (some ⟨g, off, none⟩) (cnt * 64) cap)) (hBn : w.cell? ⟨Bn, 0, none⟩ = some (.int .i64 64)) (bs : Bs < n₀ ∧ Bs ∉ S) (bn : Bn < n₀ ∧ Bn ∉ S) :
    SeqStopsK Fence.wide n Tryz.prog 90 #[.pointer (some ⟨Bs, 0, none⟩), .pointer (some ⟨Bn, 0, none⟩)] (fun x : {x : Nat // x < cnt} => #[.slice (some ⟨g, off + x.1 * 64, none⟩) 64 64]) (KpS S n₀) (fun ys => ys.map (·.1) = List.range cnt) (fun _ => True) cnt w := fun l J Jx W hW hA _ hY h0 => by
  have K0 : KpS [] w.heap.size w W := KpS.below hW (Nat.le_refl _)
  refine (chunk1_in n hn l Bs Bn g off cap n₀ cnt S hcnt hcap (fun pre W => ∃ ps, ps.map (·.1) = pre ∧ J ps W) (fun pre W => ∃ ps, ps.map (·.1) = pre ∧ Jx ps W) W ?_
    (fun pre A hs => by obtain ⟨ps, hps, hs⟩ := hs; exact ⟨ps, hps, hA ps A _ none hs ⟨rfl, rfl, rfl, Nat.le_refl _, fun _ _ _ => rfl⟩ (fun r e => by cases e)⟩)
    (K0.cell hBs (World.block_lt_of_cell? w _ hBs) (by simp)) (K0.cell hBn (World.block_lt_of_cell? w _ hBn) (by simp)) bs bn ⟨[], rfl, h0⟩).mono ?_
  · rintro pre x W1 hx ⟨ps, rfl, hs⟩ hl
    obtain ⟨fn, tmps, assign, body, hy, hR⟩ := hY ps ⟨x, hx⟩ W1 hs (by simpa using hl)
    refine ⟨fn, tmps, assign, body, hy, hR.mono ?_⟩
    rintro e W2 (⟨rfl, h1, h2⟩ | ⟨rfl, h1⟩)
    · exact .inl ⟨rfl, ⟨_, by simp, h1⟩, h2⟩
    · exact .inr ⟨rfl, _, by simp, h1⟩
  · rintro e W' ⟨h1, (⟨ys, rfl, ps, hps, hs⟩ | ⟨pre, _, ps, hps, hs⟩)⟩
    · exact ⟨h1, .inl ⟨ps, hps, hs⟩⟩
    · exact ⟨h1, .inr ⟨ps, trivial, hs⟩⟩

end Go.Proofs.YtnhcfkiejldicaaGreat
