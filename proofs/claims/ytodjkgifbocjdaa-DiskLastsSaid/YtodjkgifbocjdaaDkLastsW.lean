/- The walk of the law DiskLasts. -/
import Derived.Test.YtodjkgifbocjdaaDkZ
namespace Go.Proofs.Ytodjkgifbocjdaa
open Go.RowKit

theorem lasts_n (N : Int) : ∃ n : Nat, n < 8 ∧ (wrap64 (N.tmod 8 + 8)).tmod 8 = (n : Int) := by
  have h2 : -8 < N.tmod 8 ∧ N.tmod 8 < 8 := by
    rcases Int.le_total 0 N with h | h
    · rw [Int.tmod_eq_emod_of_nonneg h]; omega
    · have h3 := Int.neg_tmod (-N) 8
      rw [Int.neg_neg] at h3
      rw [h3, Int.tmod_eq_emod_of_nonneg (by omega)]; omega
  have h3 : 0 ≤ N.tmod 8 + 8 := by omega
  have h4 : wrap64 (N.tmod 8 + 8) = N.tmod 8 + 8 := by
    unfold wrap64
    omega
  rw [h4]
  refine ⟨((N.tmod 8 + 8).tmod 8).toNat, ?_, ?_⟩
  · rw [Int.tmod_eq_emod_of_nonneg h3]; omega
  · rw [Int.tmod_eq_emod_of_nonneg h3]; omega

set_option maxRecDepth 100000 in
set_option maxHeartbeats 8000000 in
theorem lasts_any (W : World) (u v : Value) (l : List D4) (ch : List Int) (hl : D4sAt W u l) (hch : RowAt W v ch) :
    Calls Try.prog 6 #[u, v] W fun e w' => e = .returned (.bool true) ∧ Keeps [] W w' := by
  have HL := hid hl
  have HC := hid hch
  obtain ⟨la, lcap, rfl, _⟩ := hl
  obtain ⟨ca, ccap, rfl, _⟩ := hch
  obtain ⟨i28, hi28, hz28, hs28, hb28⟩ : ∃ i, Try.prog.info? 28 = some i ∧ i.zero = some (.slice none 0 0) ∧ i.size = 1 ∧ i.bytes = 24 := info_parts (by kernel_rfl)
  obtain ⟨i5, hi5, hz5, hs5, hb5⟩ := info_parts info5
  have hmk1 : ∀ W : World, (Instr.makeSlice 46 (.int .i64 8) (.int .i64 8)).run Try.prog W = .ok (.slice (some ⟨W.heap.size, 0, none⟩) 8 8) (W.alloc (.cells (row8 fun _ => .slice none 0 0).toArray 28)) := fun W => by
    have := run_makeSlice (P := Try.prog) W 46 28 i28 _ Try.underlying46 hi28 hz28 .i64 .i64 8 8 (by omega) (by omega) (by rw [hs28]; omega) (by rw [hb28]; omega) (by omega)
    rw [this, hs28]
    rw [← made_rows]
    rfl
  have hmk2 : ∀ W : World, (Instr.makeSlice 28 (.int .i64 8) (.int .i64 8)).run Try.prog W = .ok (.slice (some ⟨W.heap.size, 0, none⟩) 8 8) (W.alloc (.cells (row8 fun _ => .int .u8 0).toArray 5)) := fun W => by
    have := run_makeSlice (P := Try.prog) W 28 5 i5 _ Try.underlying28 hi5 hz5 .i64 .i64 8 8 (by omega) (by omega) (by rw [hs5]; omega) (by rw [hb5]; omega) (by omega)
    rw [this, hs5]
    rw [← made_now]
    rfl
  clear hi28 hz28 hs28 hb28 hi5 hz5 hs5 hb5
  go_enter Try.func6, Try.ntmps6
  go_wp2_with fail
  refine (awake4_any W).mono ?_
  rintro e w0 ⟨rfl, k0⟩
  have K0 := hid k0
  clear k0
  go_wp2_with fail
  refine (room4_any w0 _ l (HL.out.keep K0.out) 150).mono ?_
  rintro e _ ⟨rfl, rfl⟩
  by_cases hl1 : l.length ≤ 150
  · have e1 : decide ((l.length : Int) ≤ 150) = true := by simp; omega
    rw [e1]
    by_cases hc1 : (ch.length : Int) > 200
    · go_wp2_with fail
      go_ret
      exact ⟨rfl, K0.out⟩
    · go_wp2_with fail
      refine (newAt_any 8 (by omega) (by omega) w0).mono ?_
      rintro e w1 ⟨p, F1, rfl, D1, l1, k1⟩
      have D1' := hid D1
      have L1 : Hid (∀ b ∈ F1, W.heap.size ≤ b) := fun b hb => by have := l1 b hb; have := K0.out.size; omega
      have K1 := hid (K0.out.trans k1)
      have s1 := k1.size
      have s0 := K0.out.size
      clear D1 l1 k1 K0
      go_wp2_with fail
      have M1 := hid (MayAt.start w1 W.heap.size (by omega))
      have kA := (Keeps.refl [] w1).alloc (.cells (row8 fun _ => .slice none 0 0).toArray 28)
      have zA : (w1.alloc (.cells (row8 fun _ => .slice none 0 0).toArray 28)).heap.size = w1.heap.size + 1 := by simp
      have D2 := hid (D1'.out.keep kA (by simp))
      have K2 := hid (K1.out.trans kA)
      have L2 : Hid (∀ b ∈ F1, ¬ MB w1.heap.size (fun _ => .slice none 0 0) b) := hid fun b hb h => by
        have := D1'.out.lt b hb
        rcases h with h | ⟨_, _, h⟩
        · omega
        · cases h
      generalize w1.alloc (.cells (row8 fun _ => .slice none 0 0).toArray 28) = w2 at M1 kA zA D2 K2 ⊢
      generalize w1.heap.size = g at M1 zA L2 ⊢
      clear kA D1' K1
      go_loopw [8] (fun v wr => ∃ (k : Nat) (vs : Nat → Value), k ≤ 8 ∧ v = .int .i64 k ∧ MayAt wr W.heap.size g vs (fun i => if i < k then [0] else []) ∧ DiskAt wr p (blankS 8) F1 0 ∧ (∀ b ∈ F1, ¬ MB g vs b) ∧ Keeps [] W wr)
        (fun v _ => 8 - (intOf v).toNat)
      case atStart => exact ⟨0, _, by omega, rfl, by simpa using M1.out, D2.out, L2.out, K2.out⟩
      case round =>
        obtain ⟨k, vs, hk, rfl, hM, hD, hF, hK⟩ := hrel
        have MM := hid hM
        have DD := hid hD
        have FF := hid hF
        have KK := hid hK
        clear hM hD hF hK
        by_cases hlt : k < 8
        · have hlt' : (k : Int) < 8 := by omega
          have hgl := lt_of_block MM.out.cells
          have bM : (wr.alloc (.cells #[.int .u8 0] 5)).heap[g]? = some (.cells (row8 vs).toArray 28 (0, 0)) := (Below.heap_alloc _ _ _ hgl).trans MM.out.cells
          have cM : (wr.alloc (.cells #[.int .u8 0] 5)).cell? ⟨g, k, none⟩ = some (vs k) := (cell_of_row _ g k _ _ (0, 0) bM).trans (row8_at vs k hlt)
          have fM : (wr.alloc (.cells #[.int .u8 0] 5)).frozen? ⟨g, k, none⟩ = false := by simp [World.frozen?, bM]
          clear bM hgl
          go_wp2_with (first | (refine wpList_one rfl _ rfl 0 rfl ?_) | fail)
          go_roundw
          case rel =>
            have kq : Keeps [g] wr ((wr.alloc (.cells #[.int .u8 0] 5)).setCell ⟨g, k, none⟩ (.slice (some ⟨wr.heap.size, 0, none⟩) 1 1)) := ((Keeps.refl [g] wr).alloc _).setCell (Or.inl (by simp)) _
            refine ⟨k + 1, upd vs k (.slice (some ⟨wr.heap.size, 0, none⟩) 1 1), by omega, by simp, ?_, DD.out.keep kq (fun b hb h => FF.out b hb (.inl (by simpa using h))), fun b hb h => ?_, KK.out.trans' kq (fun i hi h => by have := MM.out.low; simp at h; omega)⟩
            · have := MM.out.lit k hlt 0 (by omega)
              have e : upd (fun i => if i < k then [(0 : Int)] else []) k [0] = fun i => if i < k + 1 then [0] else [] := by
                funext i
                by_cases e : i = k
                · subst e; simp
                · rw [upd_ne _ _ e]
                  by_cases h1 : i < k
                  · rw [if_pos h1, if_pos (by omega)]
                  · rw [if_neg h1, if_neg (by omega)]
              rw [e] at this
              exact this
            · have hlt3 := DD.out.lt b hb
              rcases MB.put (n := wr.heap.size) hlt (fun b e => .inr (by simp [Value.ownBlock] at e; omega)) b h with h | h
              · exact FF.out b hb h
              · omega
          case measure => simp [intOf]; omega
        · have : k = 8 := by omega
          subst this
          have M3 : Hid (MayAt wr W.heap.size g vs (fun _ => [0])) := hid ⟨MM.out.cells, MM.out.low, fun i hi => by have := MM.out.own i hi; simpa [hi] using this, MM.out.apart, MM.out.no, fun i hi c hc => by simp at hc; omega⟩
          clear MM
          rw [show ((8 : Nat) : Int) = 8 from rfl]
          go_wp2_with fail
          have hgl := lt_of_block M3.out.cells
          have kA := (Keeps.refl [] wr).alloc (.cells (row8 fun _ => .int .u8 0).toArray 5)
          have LW := hid (show LastW W (wr.alloc (.cells (row8 fun _ => .int .u8 0).toArray 5)) p g wr.heap.size 0 1 (blankS 8) F1 vs (fun _ => [0]) (fun _ => 0) from
            ⟨DD.out.keep kA (by simp), M3.out.keep kA (by simp), heap_alloc_new wr _, fun _ _ => by simp, fun _ _ => by omega, fun b hb => ⟨FF.out b hb, fun e => by have := DD.out.lt b hb; omega⟩,
              fun hm => by have := (M3.out.lt _ hm).2; omega, KK.out.size, L1.out, KK.out.trans kA⟩)
          generalize wr.alloc (.cells (row8 fun _ => .int .u8 0).toArray 5) = wN at LW ⊢
          generalize wr.heap.size = gn at LW ⊢
          clear kA hgl M3 DD FF KK D2 K2 L2 M1
          go_loopw [10] (fun v wr => ∃ (j : Nat) (s : DS) (F : List Nat) (vs : Nat → Value) (xs : Nat → List Int) (now : Nat → Int), j ≤ l.length ∧ v = .int .i64 j ∧ LastW W wr p g gn (4 * j) (j + 1) s F vs xs now ∧ LastS s xs now)
            (fun v _ => l.length - (intOf v).toNat)
          case atStart => exact ⟨0, _, F1, vs, _, _, by omega, rfl, LW.out, LastS.start⟩
          case round =>
            clear LW
            obtain ⟨j, s, F, vs, xs, now, hj, rfl, hW, hS⟩ := hrel
            have LW := hid hW
            have LS := hid hS
            clear hW hS
            by_cases hlt : j < l.length
            · have hlt' : (j : Int) < (l.length : Int) := by omega
              go_wp2_with fail
              refine (deadAt_any wr p s F _ LW.out.disk).mono ?_
              rintro e _ ⟨rfl, rfl⟩
              cases hdead : s.dead with
              | true =>
                go_wp2_with fail
                refine (crash_any wr p s F _ LW.out.disk (by omega) _ ch (by omega) (HC.out.keep LW.out.kp (by intro _ _ _ _ _; simp))).mono ?_
                rintro e wc ⟨pc, Fc, rfl, Dc, _, kc⟩
                have LC := hid (LW.out.keep kc)
                have DC := hid Dc
                have CR := hid (LS.out.crash ch)
                have hcc := hid (show (s.crashed ch).cnt = 8 from LS.out.cnt)
                clear Dc kc LW LS
                go_wp2_with fail
                go_loopw [15] (fun v wr => ∃ n : Nat, n ≤ 8 ∧ v = .int .i64 n ∧ Keeps [] wc wr) (fun v _ => 8 - (intOf v).toNat)
                case atStart => exact ⟨0, by omega, rfl, Keeps.refl _ _⟩
                case round =>
                  obtain ⟨n, hn, rfl, hK⟩ := hrel
                  have KR := hid hK
                  clear hK
                  by_cases hlt4 : n < 8
                  · have hlt4' : (n : Int) < 8 := by omega
                    have DR := hid (DC.out.keep KR.out (by simp))
                    have LR := hid (LC.out.keep KR.out)
                    have hrE : readE (s.crashed ch) (n : Int) = 0 := by
                      unfold readE
                      rw [if_neg (by simp [DS.crashed]), if_pos ⟨by omega, by rw [hcc.out]; omega⟩]
                    have hrB : readB (s.crashed ch) (n : Int) = ((s.crashed ch).now n).1 := by
                      unfold readB
                      rw [if_pos ⟨rfl, by omega, by rw [hcc.out]; omega⟩, Int.toNat_natCast]
                    have HE := hid hrE
                    have HB := hid hrB
                    clear hrE hrB
                    go_wp2_with fail
                    refine (readAt_any wr pc _ Fc _ DR.out (n : Int)).mono ?_
                    rw [HE.out, HB.out]
                    rintro e wd ⟨bv, rfl, rb, _, kd⟩
                    obtain ⟨c, hcm, hce⟩ := CR.out n hlt4
                    rw [hce] at rb
                    have RB := hid rb
                    have LD := hid (LR.out.keep kd)
                    have KD := hid (KR.out.trans kd)
                    have HCM := hid hcm
                    clear rb kd hcm hce DR LR HE HB KR
                    go_wp2_with fail
                    go_loopw [18, 19] (fun o v wr => ∃ k : Nat, k ≤ (xs n).length ∧ v = .int .i64 k ∧ o = .bool (decide (c ∈ (xs n).take k)) ∧ Keeps [] wd wr) (fun _ v _ => (xs n).length - (intOf v).toNat)
                    case atStart => exact ⟨0, by omega, rfl, by simp, Keeps.refl _ _⟩
                    case round =>
                      obtain ⟨k, hk, rfl, rfl, hK⟩ := hrel
                      have LE := hid (LD.out.keep hK)
                      have KE := hid hK
                      clear hK
                      obtain ⟨a8, c8, hv8⟩ := ownsRow_slice (LE.out.may.own n hlt4)
                      have hxl := LE.out.len n hlt4
                      have m0 := LE.out.may.cell n hlt4
                      rw [hv8] at m0
                      by_cases hlt5 : k < (xs n).length
                      · have hlt5' : (k : Int) < ((xs n).length : Int) := by omega
                        obtain ⟨ad, rfl⟩ : ∃ ad, a8 = some ad := by
                          cases a8 with
                          | none =>
                            rcases (LE.out.may.own n hlt4).2 with ⟨_, h0⟩ | ⟨_, _, _, h0, _⟩
                            · omega
                            · rw [hv8] at h0; cases h0
                          | some ad => exact ⟨ad, rfl⟩
                        obtain ⟨g8, o8, sp8⟩ := ad
                        have hown := LE.out.may.own n hlt4
                        obtain ⟨rfl, rfl⟩ : o8 = 0 ∧ sp8 = none := by
                          rcases hown.2 with ⟨h0, _⟩ | ⟨_, _, _, h0, _⟩
                          · rw [hv8] at h0; cases h0
                          · rw [hv8] at h0
                            injection h0 with h0 _ _
                            injection h0 with h0
                            injection h0 with _ h1 h2
                            exact ⟨h1, h2⟩
                        have m1 : wr.cell? ⟨g8, k, none⟩ = some (.int .u8 ((xs n)[k])) := by
                          have := hown.cells (g := g8) (by rw [hv8]; rfl) k (.int .u8 ((xs n)[k])) (by simp [hlt5])
                          rwa [Addr.add_mid, Nat.zero_add] at this
                        have hb := LE.out.may.byte n hlt4 _ (List.getElem_mem hlt5)
                        have ht : (xs n).take (k + 1) = (xs n).take k ++ [(xs n)[k]] := by rw [List.take_succ_eq_append_getElem hlt5]
                        have HT := hid ht
                        have HBY := hid hb
                        obtain ⟨d, hd⟩ : ∃ d, (xs n)[k] = d := ⟨_, rfl⟩
                        rw [hd] at m1 HT HBY
                        clear ht hb hown hd
                        cases hq : decide (c ∈ (xs n).take k) with
                        | true =>
                          have HQ := hid hq
                          clear hq
                          go_wp2_with fail
                          go_roundw
                          case rel => exact ⟨k + 1, by omega, by simp, by rw [HT.out]; have := of_decide_eq_true HQ.out; simp [this], KE.out⟩
                          case measure => simp [intOf]; omega
                        | false =>
                          have HQ := hid hq
                          clear hq
                          go_wp2_with fail
                          refine (sector_any d HBY.out.1 HBY.out.2 wr).mono ?_
                          rintro e we ⟨sv, rfl, rs, _, ⟨_, _, _, rfl⟩, ke⟩
                          have RS := hid rs
                          have KF := hid (KE.out.trans ke)
                          clear rs ke
                          go_wp2_with fail
                          refine (same_rows we bv _ (secL c) (secL d) (RB.out.keep KF.out (by intro _ _ _ _ _; simp)) RS.out (secL_le c) (secL_le d)).mono ?_
                          rintro e wf ⟨rfl, kf⟩
                          have KG := hid (KF.out.trans kf)
                          clear kf
                          have hsec : (secL c = secL d) ↔ c = d := ⟨fun h => by have := congrArg List.head? h; simpa [secL] using this, fun h => by rw [h]⟩
                          have HS := hid hsec
                          clear hsec
                          go_wp2_with fail
                          go_roundw
                          case rel =>
                            refine ⟨k + 1, by omega, by simp, ?_, KG.out⟩
                            rw [HT.out]
                            have := of_decide_eq_false HQ.out
                            congr 1
                            rw [decide_eq_decide, HS.out, List.mem_append, List.mem_singleton]
                            exact ⟨.inr, fun h => h.resolve_left this⟩
                          case measure => simp [intOf]; omega
                      · have : k = (xs n).length := by omega
                        subst this
                        have hlt5' : ¬ ((xs n).length : Int) < ((xs n).length : Int) := by omega
                        have e0 : decide (c ∈ (xs n).take (xs n).length) = true := by rw [List.take_length]; simpa using HCM.out
                        rw [e0]
                        go_wp2_with fail
                        go_roundw
                        case rel => exact ⟨n + 1, by omega, by simp, KD.out.trans KE.out⟩
                        case measure => simp [intOf]; omega
                  · have : n = 8 := by omega
                    subst this
                    rw [show ((8 : Nat) : Int) = 8 from rfl]
                    go_wp2_with fail
                    go_ret
                    exact ⟨rfl, LC.out.kp.trans KR.out⟩
              | false =>
                obtain ⟨g0, off, cap2, hv, hcap, hcs⟩ := HL.out.open (by omega)
                injection hv with hv _ hvc
                subst hv
                subst hvc
                obtain ⟨hrg, hok⟩ := hcs j hlt
                clear hcs
                obtain ⟨⟨A, N, C, L⟩, hdj⟩ : ∃ d, d = l[j] := ⟨_, rfl⟩
                rw [← hdj] at hrg hok
                have HOK := hid hok
                have hgW : g0 < W.heap.size := World.block_lt_of_cell? _ _ (hrg 0 _ rfl)
                replace hrg : wr.rangeAt g0 (off + j * 4) (D4.cells ⟨A, N, C, L⟩) := fun q u hu => by
                  rw [World.cell?_of_block (w := W) (LW.out.kp.block _ hgW (by simp))]
                  exact hrg q u hu
                have HRG := hid hrg
                clear hrg hok hdj
                have qB := heap_alloc_new wr (.cells (D4.cells ⟨A, N, C, L⟩).toArray 52)
                have q0 : (wr.alloc (.cells (D4.cells ⟨A, N, C, L⟩).toArray 52)).cell? ⟨wr.heap.size, 0, none⟩ = some (.int .i64 A) := cell_of_row _ _ 0 _ _ (0, 0) qB
                have q1 : (wr.alloc (.cells (D4.cells ⟨A, N, C, L⟩).toArray 52)).cell? ⟨wr.heap.size, 1, none⟩ = some (.int .i64 N) := cell_of_row _ _ 1 _ _ (0, 0) qB
                have q2 : (wr.alloc (.cells (D4.cells ⟨A, N, C, L⟩).toArray 52)).cell? ⟨wr.heap.size, 2, none⟩ = some (.int .u8 C) := cell_of_row _ _ 2 _ _ (0, 0) qB
                have kA := (Keeps.refl [] wr).alloc (.cells (D4.cells ⟨A, N, C, L⟩).toArray 52)
                have QB := hid qB
                have KA := hid kA
                clear qB kA
                obtain ⟨n, hn, en⟩ := lasts_n N
                by_cases h5 : A ≤ 5
                · go_wp2_with (first | (refine wpList_loadD4 rfl _ rfl _ _ rfl ⟨A, N, C, L⟩ HRG.out ?_) | (refine wpList_allocD4 rfl rfl ?_) | (refine wpList_storeD4New rfl _ _ rfl wr _ ⟨A, N, C, L⟩ rfl _ rfl rfl rfl ?_) | fail)
                  refine (sector_any C HOK.out.b2.1 HOK.out.b2.2 _).mono ?_
                  rintro e wb ⟨bv, rfl, rb, _, ⟨_, _, _, rfl⟩, kb⟩
                  have LB := hid (LW.out.keep (KA.out.trans kb))
                  have qC := (kb.block wr.heap.size (by simp) (by simp)).trans QB.out
                  have QC := hid qC
                  have lb : wr.heap.size < wb.heap.size := by have := kb.size; simp at this; omega
                  have RB := hid rb
                  clear kb rb qC q0 q1 q2
                  go_wp2_with fail
                  refine (write_any wb p s F _ LB.out.disk (by omega) (n : Int) _ _ RB.out).mono ?_
                  rintro e wc ⟨rfl, F', D', kc, frc⟩
                  have LC := hid (LB.out.op D' kc frc)
                  have hbF : wr.heap.size ∉ F := fun hm => by have := LW.out.disk.lt _ hm; omega
                  have hbx : (vs n).ownBlock ≠ some wr.heap.size := fun e => by have := (LW.out.may.lt _ (.inr ⟨n, hn, e⟩)).2; omega
                  have hbg : wr.heap.size ≠ g := fun e => by have := (LW.out.may.lt _ (.inl rfl)).2; omega
                  have QC2 := hid ((kc.block _ lb hbF).trans QC.out)
                  have lc : wr.heap.size < wc.heap.size := Nat.lt_of_lt_of_le lb kc.size
                  obtain ⟨hl2, hwe⟩ := LS.out.write hdead n hn C HOK.out.b2
                  have LS2 := hid hl2
                  clear hl2 D' kc frc LB QC RB QB KA hbF HRG LW
                  rcases hwe with ⟨he, hd2⟩ | ⟨he, hd2⟩
                  · rw [he]
                    go_wp2_with fail
                    have LCd := hid (LC.out.keep (show Keeps [] wc wc.drew from ⟨rfl, rfl, rfl, Nat.le_refl _, fun _ _ _ => rfl⟩))
                    have QCd : Hid (wc.drew.heap[wr.heap.size]? = some (.cells (D4.cells ⟨A, N, C, L⟩).toArray 52 (0, 0))) := hid QC2.out
                    refine wp_region_noPanic (wp_region_any (by kernel_rfl) ?_)
                    have hszd : wr.heap.size < wc.drew.heap.size := lc
                    have hn8 : (n : Int) < 8 := by omega
                    refine any_take (i := 0) (v := .slice (some ⟨g, 0, none⟩) 8 8) rfl (by kernel_rfl) (by kernel_rfl) (by kernel_rfl) (fun _ _ _ h => h) rfl (fun W1 => rfl) ?_
                    simp only [Act.put, List.setIfInBounds_toArray, List.set_cons_zero, List.set_cons_succ]
                    refine any_take (i := 1) (v := .int .i64 n) rfl (by kernel_rfl) (by kernel_rfl) (by kernel_rfl) (fun _ _ _ h => h) rfl (fun W1 => rfl) ?_
                    simp only [Act.put, List.setIfInBounds_toArray, List.set_cons_zero, List.set_cons_succ]
                    refine any_take (i := 2) (v := .slice (some ⟨g, 0, none⟩) 8 8) rfl (by kernel_rfl) (by kernel_rfl) (by kernel_rfl) (fun _ _ _ h => h) rfl (fun W1 => rfl) ?_
                    simp only [Act.put, List.setIfInBounds_toArray, List.set_cons_zero, List.set_cons_succ]
                    refine any_take (i := 3) (v := .int .i64 n) rfl (by kernel_rfl) (by kernel_rfl) (by kernel_rfl) (fun _ _ _ h => h) rfl (fun W1 => rfl) ?_
                    simp only [Act.put, List.setIfInBounds_toArray, List.set_cons_zero, List.set_cons_succ]
                    refine any_take (i := 4) (v := .pointer (some ⟨g, n, none⟩)) rfl (by kernel_rfl) (by kernel_rfl) (by kernel_rfl) (fun _ _ _ h => h) rfl (fun W1 => by go_simp) ?_
                    simp only [Act.put, List.setIfInBounds_toArray, List.set_cons_zero, List.set_cons_succ]
                    refine any_take (i := 6) (v := .pointer (some ⟨wr.heap.size, 2, none⟩)) rfl (by kernel_rfl) (by kernel_rfl) (by kernel_rfl) (fun _ _ _ h => h) rfl (fun W1 => by go_simp) ?_
                    simp only [Act.put, List.setIfInBounds_toArray, List.set_cons_zero, List.set_cons_succ]
                    have m0 := LCd.out.may.cell n hn
                    have m1 := run_loadCell (P := Try.prog) wc.drew 28 ⟨g, n, none⟩ (vs n) m0 (agg_no _ (by kernel_rfl))
                    have m2 := run_loadCell (P := Try.prog) (wc.drew.alloc (.cells #[.int .u8 C] 5)) 28 ⟨g, n, none⟩ (vs n) (by rw [World.cell?_of_block (Below.heap_alloc _ _ _ (lt_of_block LCd.out.may.cells))]; exact m0) (agg_no _ (by kernel_rfl))
                    have m3 := run_loadCell (P := Try.prog) wc.drew 5 ⟨wr.heap.size, 2, none⟩ (.int .u8 C) (cell_of_row _ _ 2 _ _ (0, 0) QCd.out) (agg_no _ (by kernel_rfl))
                    refine any_three (i := 5) (j := 7) (k := 8) (vi := vs n) (vj := .int .u8 C) (vk := .slice (some ⟨wc.drew.heap.size, 0, none⟩) 1 1) (by kernel_rfl) (by kernel_rfl) (by kernel_rfl) (by kernel_rfl) (by kernel_rfl) (by decide) (by decide) rfl rfl rfl rfl rfl rfl (by simp) (by simp)
                      (exec_load _ _ _ _ rfl rfl m1) (exec_load _ _ _ _ rfl rfl m3) (exec_load _ _ _ _ rfl rfl m3) (exec_one _ C rfl rfl) (exec_one _ C rfl rfl) (exec_load _ _ _ _ rfl rfl m1) (exec_load _ _ _ _ rfl rfl m2) ?_
                    simp only [Act.put, List.setIfInBounds_toArray, List.set_cons_zero, List.set_cons_succ]
                    obtain ⟨va, vc, wf, hrun, kf, bf, LF⟩ := LCd.out.more n hn C HOK.out.b2 (by omega)
                    refine any_do (i := 9) (by kernel_rfl) rfl rfl (wp_value (exec_append _ _ rfl rfl rfl hrun) ?_)
                    simp only [Act.put, List.setIfInBounds_toArray, List.set_cons_zero, List.set_cons_succ]
                    have cf : wf.cell? ⟨g, n, none⟩ = some (vs n) := (cell_of_row _ g n _ _ (0, 0) bf).trans (row8_at vs n hn)
                    have ff : wf.frozen? ⟨g, n, none⟩ = false := by simp [World.frozen?, bf]
                    have QF := hid ((kf.block _ hszd (fun hm => hbx (by simpa using hm))).trans QCd.out)
                    have LF2 := hid LF
                    clear LF kf bf hrun m0 m1 m2 m3 LCd QCd
                    refine any_take (i := 10) (v := .pointer (some ⟨g, n, none⟩)) rfl (by kernel_rfl) (by kernel_rfl) (by kernel_rfl) (fun _ _ _ h => h) rfl (fun W1 => by go_simp) ?_
                    simp only [Act.put, List.setIfInBounds_toArray, List.set_cons_zero, List.set_cons_succ]
                    refine any_do (i := 11) (by kernel_rfl) rfl rfl ?_
                    go_simp
                    refine wpAny_done (by kernel_rfl) ?_ _
                    refine NoPanic.normal ?_
                    have hgb : wr.heap.size ≠ g := hbg
                    have qf : (wf.setCell ⟨g, n, none⟩ (.slice va ((xs n).length + 1) vc)).cell? ⟨wr.heap.size, 2, none⟩ = some (.int .u8 C) := by rw [World.cell?_of_block (Below.heap_setCell _ _ _ _ hgb)]; exact cell_of_row _ _ 2 _ _ (0, 0) QF.out
                    have nf := LF2.out.nw.cell n hn
                    have nff : (wf.setCell ⟨g, n, none⟩ (.slice va ((xs n).length + 1) vc)).frozen? ⟨gn, n, none⟩ = false := by
                      have := LF2.out.nw
                      simp [NowAt] at this
                      simp [World.frozen?, this]
                    generalize wf.setCell ⟨g, n, none⟩ (.slice va ((xs n).length + 1) vc) = wg at LF2 qf nf nff ⊢
                    clear cf ff QF
                    go_wp2_with fail
                    go_roundw
                    case rel => exact ⟨j + 1, _, F', _, _, _, by omega, by simp, (LF2.out.mono (by omega) (by omega)).num n C HOK.out.b2, LS2.out⟩
                    case measure => simp [intOf]; omega
                  · rw [he]
                    go_wp2_with fail
                    refine (deadAt_any wc p _ F' _ LC.out.disk).mono ?_
                    rw [hd2]
                    rintro e _ ⟨rfl, rfl⟩
                    go_wp2_with fail
                    have LCd := hid (LC.out.keep (show Keeps [] wc wc.drew from ⟨rfl, rfl, rfl, Nat.le_refl _, fun _ _ _ => rfl⟩))
                    have QCd : Hid (wc.drew.heap[wr.heap.size]? = some (.cells (D4.cells ⟨A, N, C, L⟩).toArray 52 (0, 0))) := hid QC2.out
                    refine wp_region_noPanic (wp_region_any (by kernel_rfl) ?_)
                    have hszd : wr.heap.size < wc.drew.heap.size := lc
                    have hn8 : (n : Int) < 8 := by omega
                    refine any_take (i := 0) (v := .slice (some ⟨g, 0, none⟩) 8 8) rfl (by kernel_rfl) (by kernel_rfl) (by kernel_rfl) (fun _ _ _ h => h) rfl (fun W1 => rfl) ?_
                    simp only [Act.put, List.setIfInBounds_toArray, List.set_cons_zero, List.set_cons_succ]
                    refine any_take (i := 1) (v := .int .i64 n) rfl (by kernel_rfl) (by kernel_rfl) (by kernel_rfl) (fun _ _ _ h => h) rfl (fun W1 => rfl) ?_
                    simp only [Act.put, List.setIfInBounds_toArray, List.set_cons_zero, List.set_cons_succ]
                    refine any_take (i := 2) (v := .slice (some ⟨g, 0, none⟩) 8 8) rfl (by kernel_rfl) (by kernel_rfl) (by kernel_rfl) (fun _ _ _ h => h) rfl (fun W1 => rfl) ?_
                    simp only [Act.put, List.setIfInBounds_toArray, List.set_cons_zero, List.set_cons_succ]
                    refine any_take (i := 3) (v := .int .i64 n) rfl (by kernel_rfl) (by kernel_rfl) (by kernel_rfl) (fun _ _ _ h => h) rfl (fun W1 => rfl) ?_
                    simp only [Act.put, List.setIfInBounds_toArray, List.set_cons_zero, List.set_cons_succ]
                    refine any_take (i := 4) (v := .pointer (some ⟨g, n, none⟩)) rfl (by kernel_rfl) (by kernel_rfl) (by kernel_rfl) (fun _ _ _ h => h) rfl (fun W1 => by go_simp) ?_
                    simp only [Act.put, List.setIfInBounds_toArray, List.set_cons_zero, List.set_cons_succ]
                    refine any_take (i := 6) (v := .pointer (some ⟨wr.heap.size, 2, none⟩)) rfl (by kernel_rfl) (by kernel_rfl) (by kernel_rfl) (fun _ _ _ h => h) rfl (fun W1 => by go_simp) ?_
                    simp only [Act.put, List.setIfInBounds_toArray, List.set_cons_zero, List.set_cons_succ]
                    have m0 := LCd.out.may.cell n hn
                    have m1 := run_loadCell (P := Try.prog) wc.drew 28 ⟨g, n, none⟩ (vs n) m0 (agg_no _ (by kernel_rfl))
                    have m2 := run_loadCell (P := Try.prog) (wc.drew.alloc (.cells #[.int .u8 C] 5)) 28 ⟨g, n, none⟩ (vs n) (by rw [World.cell?_of_block (Below.heap_alloc _ _ _ (lt_of_block LCd.out.may.cells))]; exact m0) (agg_no _ (by kernel_rfl))
                    have m3 := run_loadCell (P := Try.prog) wc.drew 5 ⟨wr.heap.size, 2, none⟩ (.int .u8 C) (cell_of_row _ _ 2 _ _ (0, 0) QCd.out) (agg_no _ (by kernel_rfl))
                    refine any_three (i := 5) (j := 7) (k := 8) (vi := vs n) (vj := .int .u8 C) (vk := .slice (some ⟨wc.drew.heap.size, 0, none⟩) 1 1) (by kernel_rfl) (by kernel_rfl) (by kernel_rfl) (by kernel_rfl) (by kernel_rfl) (by decide) (by decide) rfl rfl rfl rfl rfl rfl (by simp) (by simp)
                      (exec_load _ _ _ _ rfl rfl m1) (exec_load _ _ _ _ rfl rfl m3) (exec_load _ _ _ _ rfl rfl m3) (exec_one _ C rfl rfl) (exec_one _ C rfl rfl) (exec_load _ _ _ _ rfl rfl m1) (exec_load _ _ _ _ rfl rfl m2) ?_
                    simp only [Act.put, List.setIfInBounds_toArray, List.set_cons_zero, List.set_cons_succ]
                    obtain ⟨va, vc, wf, hrun, kf, bf, LF⟩ := LCd.out.more n hn C HOK.out.b2 (by omega)
                    refine any_do (i := 9) (by kernel_rfl) rfl rfl (wp_value (exec_append _ _ rfl rfl rfl hrun) ?_)
                    simp only [Act.put, List.setIfInBounds_toArray, List.set_cons_zero, List.set_cons_succ]
                    have cf : wf.cell? ⟨g, n, none⟩ = some (vs n) := (cell_of_row _ g n _ _ (0, 0) bf).trans (row8_at vs n hn)
                    have ff : wf.frozen? ⟨g, n, none⟩ = false := by simp [World.frozen?, bf]
                    have QF := hid ((kf.block _ hszd (fun hm => hbx (by simpa using hm))).trans QCd.out)
                    have LF2 := hid LF
                    clear LF kf bf hrun m0 m1 m2 m3 LCd QCd
                    refine any_take (i := 10) (v := .pointer (some ⟨g, n, none⟩)) rfl (by kernel_rfl) (by kernel_rfl) (by kernel_rfl) (fun _ _ _ h => h) rfl (fun W1 => by go_simp) ?_
                    simp only [Act.put, List.setIfInBounds_toArray, List.set_cons_zero, List.set_cons_succ]
                    refine any_do (i := 11) (by kernel_rfl) rfl rfl ?_
                    go_simp
                    refine wpAny_done (by kernel_rfl) ?_ _
                    refine NoPanic.normal ?_
                    have hgb : wr.heap.size ≠ g := hbg
                    have qf : (wf.setCell ⟨g, n, none⟩ (.slice va ((xs n).length + 1) vc)).cell? ⟨wr.heap.size, 2, none⟩ = some (.int .u8 C) := by rw [World.cell?_of_block (Below.heap_setCell _ _ _ _ hgb)]; exact cell_of_row _ _ 2 _ _ (0, 0) QF.out
                    have nf := LF2.out.nw.cell n hn
                    have nff : (wf.setCell ⟨g, n, none⟩ (.slice va ((xs n).length + 1) vc)).frozen? ⟨gn, n, none⟩ = false := by
                      have := LF2.out.nw
                      simp [NowAt] at this
                      simp [World.frozen?, this]
                    generalize wf.setCell ⟨g, n, none⟩ (.slice va ((xs n).length + 1) vc) = wg at LF2 qf nf nff ⊢
                    clear cf ff QF
                    go_wp2_with fail
                    go_roundw
                    case rel => exact ⟨j + 1, _, F', _, _, _, by omega, by simp, (LF2.out.mono (by omega) (by omega)).num n C HOK.out.b2, LS2.out⟩
                    case measure => simp [intOf]; omega
                · by_cases h7 : A ≤ 7
                  · go_wp2_with (first | (refine wpList_loadD4 rfl _ rfl _ _ rfl ⟨A, N, C, L⟩ HRG.out ?_) | (refine wpList_allocD4 rfl rfl ?_) | (refine wpList_storeD4New rfl _ _ rfl wr _ ⟨A, N, C, L⟩ rfl _ rfl rfl rfl ?_) | fail)
                    have LX := hid (LW.out.keep KA.out)
                    clear q0 q1 q2 QB KA HRG LW
                    refine (sync_any _ p s F _ LX.out.disk (by omega)).mono ?_
                    rintro e wc ⟨rfl, F', D', kc, frc⟩
                    have LC := hid (LX.out.op D' kc frc)
                    clear D' kc frc LX
                    by_cases hf : s.fuse = 0
                    · obtain ⟨he, hd2, hl2⟩ := LS.out.syncDies hdead hf
                      have LS2 := hid hl2
                      rw [he]
                      clear hl2
                      go_wp2_with fail
                      go_roundw
                      case rel => exact ⟨j + 1, _, F', vs, xs, now, by omega, by simp, LC.out.mono (by omega) (by omega), LS2.out⟩
                      case measure => simp [intOf]; omega
                    · obtain ⟨he, hd2, hl2⟩ := LS.out.sync hdead hf
                      have LS2 := hid hl2
                      rw [he]
                      clear hl2
                      go_wp2_with fail
                      go_loopw [13] (fun v wr => ∃ (k : Nat) (vs : Nat → Value) (xs : Nat → List Int), k ≤ 8 ∧ v = .int .i64 k ∧ LastW W wr p g gn (4 * j + 2) (j + 1) (syncS s) F' vs xs now ∧ ∀ i, i < k → xs i = [now i])
                        (fun v _ => 8 - (intOf v).toNat)
                      case atStart => exact ⟨0, vs, xs, by omega, rfl, LC.out, fun i hi => by omega⟩
                      case round =>
                        obtain ⟨k, vs3, xs3, hk, rfl, hW3, hx3⟩ := hrel
                        have L3 := hid hW3
                        have X3 := hid hx3
                        clear hW3 hx3 LC
                        by_cases hlt3 : k < 8
                        · have hlt3' : (k : Int) < 8 := by omega
                          have hgl := lt_of_block L3.out.may.cells
                          have nC := L3.out.nw.cell k hlt3
                          have bM : (wr.alloc (.cells #[.int .u8 (now k)] 5)).heap[g]? = some (.cells (row8 vs3).toArray 28 (0, 0)) := (Below.heap_alloc _ _ _ hgl).trans L3.out.may.cells
                          have cM : (wr.alloc (.cells #[.int .u8 (now k)] 5)).cell? ⟨g, k, none⟩ = some (vs3 k) := (cell_of_row _ g k _ _ (0, 0) bM).trans (row8_at vs3 k hlt3)
                          have fM : (wr.alloc (.cells #[.int .u8 (now k)] 5)).frozen? ⟨g, k, none⟩ = false := by simp [World.frozen?, bM]
                          clear bM hgl
                          go_wp2_with (first | (refine wpList_one rfl _ rfl (now k) rfl ?_) | fail)
                          go_roundw
                          case rel =>
                            refine ⟨k + 1, upd vs3 k (.slice (some ⟨wr.heap.size, 0, none⟩) 1 1), upd xs3 k [now k], by omega, by simp, L3.out.lit k hlt3 (now k) (L3.out.byte k hlt3) (by omega), fun i hi => ?_⟩
                            by_cases e : i = k
                            · subst e; rw [upd_same]
                            · rw [upd_ne _ _ e]; exact X3.out i (by omega)
                          case measure => simp [intOf]; omega
                        · have : k = 8 := by omega
                          subst this
                          have LS3 := hid (LS2.out xs3 X3.out)
                          rw [show ((8 : Nat) : Int) = 8 from rfl]
                          go_wp2_with fail
                          go_roundw
                          case rel => exact ⟨j + 1, _, F', vs3, xs3, now, by omega, by simp, L3.out.mono (by omega) (by omega), LS3.out⟩
                          case measure => simp [intOf]; omega
                  · go_wp2_with (first | (refine wpList_loadD4 rfl _ rfl _ _ rfl ⟨A, N, C, L⟩ HRG.out ?_) | (refine wpList_allocD4 rfl rfl ?_) | (refine wpList_storeD4New rfl _ _ rfl wr _ ⟨A, N, C, L⟩ rfl _ rfl rfl rfl ?_) | fail)
                    have LX := hid (LW.out.keep KA.out)
                    clear q0 q1 q2 QB KA HRG LW
                    refine (fuseAt_any _ p s F _ LX.out.disk _ (bits_in _ _ _)).mono ?_
                    rintro e wc ⟨rfl, D', kc⟩
                    have LC := hid (LX.out.op D' kc (fun b hb => .inl hb))
                    have LS2 := hid (LS.out.fuse (bits BinOp.and IntKind.i64 N 31))
                    clear D' kc LX
                    go_wp2_with fail
                    go_roundw
                    case rel => exact ⟨j + 1, _, F, vs, xs, now, by omega, by simp, LC.out.mono (by omega) (by omega), LS2.out⟩
                    case measure => simp [intOf]; omega
            · have : j = l.length := by omega
              subst this
              have hlt' : ¬ (l.length : Int) < (l.length : Int) := by omega
              go_wp2_with fail
              refine (crash_any wr p s F _ LW.out.disk (by omega) _ ch (by omega) (HC.out.keep LW.out.kp (by intro _ _ _ _ _; simp))).mono ?_
              rintro e wc ⟨pc, Fc, rfl, Dc, _, kc⟩
              have LC := hid (LW.out.keep kc)
              have DC := hid Dc
              have CR := hid (LS.out.crash ch)
              have hcc := hid (show (s.crashed ch).cnt = 8 from LS.out.cnt)
              clear Dc kc LW LS
              go_wp2_with fail
              go_loopw [15] (fun v wr => ∃ n : Nat, n ≤ 8 ∧ v = .int .i64 n ∧ Keeps [] wc wr) (fun v _ => 8 - (intOf v).toNat)
              case atStart => exact ⟨0, by omega, rfl, Keeps.refl _ _⟩
              case round =>
                obtain ⟨n, hn, rfl, hK⟩ := hrel
                have KR := hid hK
                clear hK
                by_cases hlt4 : n < 8
                · have hlt4' : (n : Int) < 8 := by omega
                  have DR := hid (DC.out.keep KR.out (by simp))
                  have LR := hid (LC.out.keep KR.out)
                  have hrE : readE (s.crashed ch) (n : Int) = 0 := by
                    unfold readE
                    rw [if_neg (by simp [DS.crashed]), if_pos ⟨by omega, by rw [hcc.out]; omega⟩]
                  have hrB : readB (s.crashed ch) (n : Int) = ((s.crashed ch).now n).1 := by
                    unfold readB
                    rw [if_pos ⟨rfl, by omega, by rw [hcc.out]; omega⟩, Int.toNat_natCast]
                  have HE := hid hrE
                  have HB := hid hrB
                  clear hrE hrB
                  go_wp2_with fail
                  refine (readAt_any wr pc _ Fc _ DR.out (n : Int)).mono ?_
                  rw [HE.out, HB.out]
                  rintro e wd ⟨bv, rfl, rb, _, kd⟩
                  obtain ⟨c, hcm, hce⟩ := CR.out n hlt4
                  rw [hce] at rb
                  have RB := hid rb
                  have LD := hid (LR.out.keep kd)
                  have KD := hid (KR.out.trans kd)
                  have HCM := hid hcm
                  clear rb kd hcm hce DR LR HE HB KR
                  go_wp2_with fail
                  go_loopw [18, 19] (fun o v wr => ∃ k : Nat, k ≤ (xs n).length ∧ v = .int .i64 k ∧ o = .bool (decide (c ∈ (xs n).take k)) ∧ Keeps [] wd wr) (fun _ v _ => (xs n).length - (intOf v).toNat)
                  case atStart => exact ⟨0, by omega, rfl, by simp, Keeps.refl _ _⟩
                  case round =>
                    obtain ⟨k, hk, rfl, rfl, hK⟩ := hrel
                    have LE := hid (LD.out.keep hK)
                    have KE := hid hK
                    clear hK
                    obtain ⟨a8, c8, hv8⟩ := ownsRow_slice (LE.out.may.own n hlt4)
                    have hxl := LE.out.len n hlt4
                    have m0 := LE.out.may.cell n hlt4
                    rw [hv8] at m0
                    by_cases hlt5 : k < (xs n).length
                    · have hlt5' : (k : Int) < ((xs n).length : Int) := by omega
                      obtain ⟨ad, rfl⟩ : ∃ ad, a8 = some ad := by
                        cases a8 with
                        | none =>
                          rcases (LE.out.may.own n hlt4).2 with ⟨_, h0⟩ | ⟨_, _, _, h0, _⟩
                          · omega
                          · rw [hv8] at h0; cases h0
                        | some ad => exact ⟨ad, rfl⟩
                      obtain ⟨g8, o8, sp8⟩ := ad
                      have hown := LE.out.may.own n hlt4
                      obtain ⟨rfl, rfl⟩ : o8 = 0 ∧ sp8 = none := by
                        rcases hown.2 with ⟨h0, _⟩ | ⟨_, _, _, h0, _⟩
                        · rw [hv8] at h0; cases h0
                        · rw [hv8] at h0
                          injection h0 with h0 _ _
                          injection h0 with h0
                          injection h0 with _ h1 h2
                          exact ⟨h1, h2⟩
                      have m1 : wr.cell? ⟨g8, k, none⟩ = some (.int .u8 ((xs n)[k])) := by
                        have := hown.cells (g := g8) (by rw [hv8]; rfl) k (.int .u8 ((xs n)[k])) (by simp [hlt5])
                        rwa [Addr.add_mid, Nat.zero_add] at this
                      have hb := LE.out.may.byte n hlt4 _ (List.getElem_mem hlt5)
                      have ht : (xs n).take (k + 1) = (xs n).take k ++ [(xs n)[k]] := by rw [List.take_succ_eq_append_getElem hlt5]
                      have HT := hid ht
                      have HBY := hid hb
                      obtain ⟨d, hd⟩ : ∃ d, (xs n)[k] = d := ⟨_, rfl⟩
                      rw [hd] at m1 HT HBY
                      clear ht hb hown hd
                      cases hq : decide (c ∈ (xs n).take k) with
                      | true =>
                        have HQ := hid hq
                        clear hq
                        go_wp2_with fail
                        go_roundw
                        case rel => exact ⟨k + 1, by omega, by simp, by rw [HT.out]; have := of_decide_eq_true HQ.out; simp [this], KE.out⟩
                        case measure => simp [intOf]; omega
                      | false =>
                        have HQ := hid hq
                        clear hq
                        go_wp2_with fail
                        refine (sector_any d HBY.out.1 HBY.out.2 wr).mono ?_
                        rintro e we ⟨sv, rfl, rs, _, ⟨_, _, _, rfl⟩, ke⟩
                        have RS := hid rs
                        have KF := hid (KE.out.trans ke)
                        clear rs ke
                        go_wp2_with fail
                        refine (same_rows we bv _ (secL c) (secL d) (RB.out.keep KF.out (by intro _ _ _ _ _; simp)) RS.out (secL_le c) (secL_le d)).mono ?_
                        rintro e wf ⟨rfl, kf⟩
                        have KG := hid (KF.out.trans kf)
                        clear kf
                        have hsec : (secL c = secL d) ↔ c = d := ⟨fun h => by have := congrArg List.head? h; simpa [secL] using this, fun h => by rw [h]⟩
                        have HS := hid hsec
                        clear hsec
                        go_wp2_with fail
                        go_roundw
                        case rel =>
                          refine ⟨k + 1, by omega, by simp, ?_, KG.out⟩
                          rw [HT.out]
                          have := of_decide_eq_false HQ.out
                          congr 1
                          rw [decide_eq_decide, HS.out, List.mem_append, List.mem_singleton]
                          exact ⟨.inr, fun h => h.resolve_left this⟩
                        case measure => simp [intOf]; omega
                    · have : k = (xs n).length := by omega
                      subst this
                      have hlt5' : ¬ ((xs n).length : Int) < ((xs n).length : Int) := by omega
                      have e0 : decide (c ∈ (xs n).take (xs n).length) = true := by rw [List.take_length]; simpa using HCM.out
                      rw [e0]
                      go_wp2_with fail
                      go_roundw
                      case rel => exact ⟨n + 1, by omega, by simp, KD.out.trans KE.out⟩
                      case measure => simp [intOf]; omega
                · have : n = 8 := by omega
                  subst this
                  rw [show ((8 : Nat) : Int) = 8 from rfl]
                  go_wp2_with fail
                  go_ret
                  exact ⟨rfl, LC.out.kp.trans KR.out⟩
  · have e1 : decide ((l.length : Int) ≤ 150) = false := by simp; omega
    rw [e1]
    go_wp2_with fail
    go_ret
    exact ⟨rfl, K0.out⟩

end Go.Proofs.Ytodjkgifbocjdaa
