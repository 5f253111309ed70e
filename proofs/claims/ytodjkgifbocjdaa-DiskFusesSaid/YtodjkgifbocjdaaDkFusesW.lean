/- The walk of the law DiskFuses. -/
import Derived.Test.YtodjkgifbocjdaaDkP
namespace Go.Proofs.Ytodjkgifbocjdaa
open Go.RowKit

structure FS (s : DS) (k N : Nat) : Prop where
  cnt : s.cnt = 4
  on : k ≤ N → s.dead = false ∧ s.fuse = (N : Int) - k ∧ s.ops = k
  off : N < k → s.dead = true ∧ s.ops = N

theorem fs_sync {s : DS} {k N : Nat} (h : FS s k N) : syncE s = (if k < N then 0 else 14) ∧ FS (syncS s) (k + 1) N := by
  by_cases h1 : k < N
  · obtain ⟨a, b, c⟩ := h.on (by omega)
    have hf : s.fuse ≠ 0 := by omega
    have hf2 : 0 < s.fuse := by omega
    simp only [syncE, syncS, a, Bool.false_eq_true, if_false, if_neg hf, if_pos h1, true_and]
    refine ⟨h.cnt, fun _ => ⟨a, ?_, ?_⟩, fun h' => by omega⟩
    · simp only [DS.synced, DS.spent]; rw [if_pos hf2]; omega
    · simp only [DS.synced, DS.spent, c]; omega
  · by_cases h2 : k = N
    · obtain ⟨a, b, c⟩ := h.on (by omega)
      have hf : s.fuse = 0 := by omega
      simp only [syncE, syncS, a, Bool.false_eq_true, if_false, if_pos hf, if_neg h1, true_and]
      exact ⟨h.cnt, fun h' => by omega, fun _ => ⟨rfl, by simp only [c]; omega⟩⟩
    · obtain ⟨a, b⟩ := h.off (by omega)
      simp only [syncE, syncS, a, if_true, if_neg h1, true_and]
      exact ⟨h.cnt, fun h' => by omega, fun _ => ⟨a, b⟩⟩

theorem fs_write {s : DS} {k N : Nat} (h : FS s k N) (j : Int) (h0 : 0 ≤ j) (h4 : j < 4) (zs : List Int) (hz : zs.length = 64) : writeE s j zs.length = (if k < N then 0 else 14) ∧ FS (writeS s j zs) (k + 1) N := by
  by_cases h1 : k < N
  · obtain ⟨a, b, c⟩ := h.on (by omega)
    have hf : s.fuse ≠ 0 := by omega
    have hf2 : 0 < s.fuse := by omega
    have ht : s.takes j zs.length := ⟨a, h0, by rw [h.cnt]; omega, hz⟩
    simp only [writeE, writeS, if_pos ht, if_neg hf, if_pos h1, true_and, DS.wrote]
    refine ⟨h.cnt, fun _ => ⟨a, ?_, ?_⟩, fun h' => by omega⟩
    · simp only [DS.spent]; rw [if_pos hf2]; omega
    · simp only [DS.spent, c]; omega
  · by_cases h2 : k = N
    · obtain ⟨a, b, c⟩ := h.on (by omega)
      have hf : s.fuse = 0 := by omega
      have ht : s.takes j zs.length := ⟨a, h0, by rw [h.cnt]; omega, hz⟩
      simp only [writeE, writeS, if_pos ht, if_pos hf, if_neg h1, true_and, DS.wrote]
      exact ⟨h.cnt, fun h' => by omega, fun _ => ⟨rfl, by simp only [c]; omega⟩⟩
    · obtain ⟨a, b⟩ := h.off (by omega)
      have ht : ¬ s.takes j zs.length := fun ht => by rw [ht.1] at a; cases a
      simp only [writeE, writeS, if_neg ht, a, if_true, if_neg h1, true_and]
      exact ⟨h.cnt, fun h' => by omega, fun _ => ⟨a, b⟩⟩

theorem fs_none (s : DS) : writeS s (-1) [] = s := by
  have ht : ¬ s.takes (-1) ([] : List Int).length := by simp [DS.takes]
  simp only [writeS, if_neg ht]

theorem fs_start (m : Int) (N : Nat) : FS (fuseS (fuseS (blankS 4) m) N) 0 N :=
  ⟨rfl, fun _ => ⟨rfl, by simp [fuseS, blankS], rfl⟩, fun h => by omega⟩

theorem and63 {n : Int} (h : 0 ≤ n ∧ n ≤ 255) : ∃ N : Nat, N ≤ 63 ∧ bits BinOp.and IntKind.i64 n 63 = (N : Int) := by
  have hall : (List.range 256).all (fun k => bits BinOp.and IntKind.i64 (k : Int) 63 == ((k % 64 : Nat) : Int)) = true := by kernel_rfl
  obtain ⟨k, rfl⟩ := Int.eq_ofNat_of_zero_le h.1
  have := List.all_eq_true.1 hall k (by simp; omega)
  exact ⟨k % 64, by omega, by simpa using this⟩

set_option maxRecDepth 100000 in
set_option maxHeartbeats 8000000 in
theorem fuses_any (W : World) (n m : Int) (hn : 0 ≤ n ∧ n ≤ 255) (hm : 0 ≤ m ∧ m ≤ 255) (v : Value) (bs : List Bool) (hb : BoolsAt W v bs) :
    Calls Try.prog 8 #[.int .u8 n, .int .u8 m, v] W fun e w' => e = .returned (.bool true) ∧ Keeps [] W w' := by
  have HB := hid hb
  obtain ⟨a, cap, rfl, _⟩ := hb
  rw [List.length_map]
  go_enter Try.func8, Try.ntmps8
  go_wp2_with fail
  refine (awake4_any W).mono ?_
  rintro e w0 ⟨rfl, k0⟩
  have K0 := hid k0
  clear k0
  go_wp2_with fail
  refine (newAt_any 4 (by omega) (by omega) w0).mono ?_
  rintro e w1 ⟨p, F1, rfl, D1, l1, k1⟩
  have D1' := hid D1
  have L1 : Hid (∀ b ∈ F1, W.heap.size ≤ b) := fun b hb => by have := l1 b hb; have := K0.out.size; omega
  have K1 := hid (K0.out.trans k1)
  clear D1 l1 k1 K0
  by_cases hbl : 300 < bs.length
  · have hbl' : (bs.length : Int) > 300 := by omega
    go_wp2_with fail
    go_ret
    exact ⟨rfl, K1.out⟩
  · have hbl' : ¬ (bs.length : Int) > 300 := by omega
    go_wp2_with fail
    obtain ⟨M, hM, eM⟩ := and63 hm
    obtain ⟨N, hN, eN⟩ := and63 hn
    rw [eM]
    refine (fuseAt_any w1 p _ F1 _ D1'.out (M : Int) (by omega)).mono ?_
    rintro e w2 ⟨rfl, D2, k2⟩
    have D2' := hid D2
    have K2 : Hid (Keeps [] W w2) := K1.out.trans' k2 (fun i hi hm => by have := L1.out i hm; omega)
    clear D2 k2 D1' K1
    go_wp2_with fail
    refine (fuseAt_any w2 p _ F1 _ D2'.out (N : Int) (by omega)).mono ?_
    rintro e w3 ⟨rfl, D3, k3⟩
    have D3' := hid D3
    have K3 : Hid (Keeps [] W w3) := K2.out.trans' k3 (fun i hi hm => by have := L1.out i hm; omega)
    clear D3 k3 D2' K2
    go_wp2_with fail
    go_loopw [9, 10] (fun o v wr => ∃ (k : Nat) (s : DS) (F : List Nat), k ≤ 70 ∧ v = .int .i64 k ∧ o = .int .i64 (min k N : Nat) ∧ DiskAt wr p s F (4 * k) ∧ FS s k N ∧ (∀ b ∈ F, W.heap.size ≤ b) ∧ Keeps [] W wr)
      (fun _ v _ => 70 - (intOf v).toNat)
    case atStart => exact ⟨0, _, F1, by omega, rfl, by simp, D3'.out, fs_start _ N, L1.out, K3.out⟩
    case round =>
      obtain ⟨k, s, F, hk, rfl, rfl, hD, hF, hL, hK⟩ := hrel
      have DD := hid hD
      have FF := hid hF
      have LL := hid hL
      have KK := hid hK
      clear hD hF hL hK
      by_cases hlt : k < 70
      · go_wp2_with fail
        refine (readAt_any wr p s F _ DD.out (k : Int)).mono ?_
        rintro e w4 ⟨v4, rfl, _, _, k4⟩
        have D4 := hid (DD.out.keep k4 (by simp))
        have K4 := hid (KK.out.trans k4)
        clear k4 DD KK
        go_wp2_with fail
        refine (write_any w4 p s F _ D4.out (by omega) (-1) _ [] (RowAt.nil w4)).mono ?_
        rw [fs_none]
        rintro e w5 ⟨rfl, F5, D5', k5, fr5⟩
        have D5 := hid D5'
        have L5 : Hid (∀ b ∈ F5, W.heap.size ≤ b) := fun b hb => by
          rcases fr5 b hb with h | h
          · exact LL.out b h
          · have := K4.out.size; omega
        have K5 : Hid (Keeps [] W w5) := K4.out.trans' k5 (fun i hi hm => by have := LL.out i hm; omega)
        clear D5' k5 fr5 D4 K4 LL
        by_cases hkb : k < bs.length
        · have hkb' : (k : Int) < (bs.length : Int) := by omega
          obtain ⟨g, off, cap2, hv, _, hcs⟩ := (CellsAt.keep HB.out K5.out).open (by simp; omega)
          injection hv with hv _ hvc
          subst hv
          subst hvc
          have hck := hcs k (by simpa using hkb)
          simp only [List.getElem_map] at hck
          clear hcs
          cases hbk : bs[k] with
          | true =>
            rw [hbk] at hck
            go_wp2_with fail
            have fs := fs_sync FF.out
            refine (sync_any w5 p s F5 _ D5.out (by omega)).mono ?_
            rw [fs.1]
            rintro e w6 ⟨rfl, FFX, D6, k6, fr6⟩
            have DX := hid (D6.mono (k' := 4 * (k + 1)) (by omega))
            have FX := hid fs.2
            have LX : Hid (∀ b ∈ FFX, W.heap.size ≤ b) := fun b hb => by
              rcases fr6 b hb with h | h
              · exact L5.out b h
              · have := K5.out.size; omega
            have KX : Hid (Keeps [] W w6) := K5.out.trans' k6 (fun i hi hm => by have := L5.out i hm; omega)
            clear D6 k6 fr6 fs
            by_cases hkN : k < N
            · have e1 : (if k < N then (0:Int) else 14) = 0 := if_pos hkN
              rw [e1]
              have hkN' : (k : Int) < (N : Int) := by omega
              have hd1 := (FX.out.on (by omega)).1
              have ho1 := (FX.out.on (by omega)).2.2
              have hmin : ((min k N : Nat) : Int) = (k : Int) := by omega
              have hmin2 : ((min (k + 1) N : Nat) : Int) = (k : Int) + 1 := by omega
              go_wp2_with fail
              refine (deadAt_any w6 p _ FFX _ DX.out).mono ?_
              rw [hd1]
              rintro e _ ⟨rfl, rfl⟩
              go_wp2_with fail
              refine (opsAt_any w6 p _ FFX _ DX.out).mono ?_
              rw [ho1]
              rintro e _ ⟨rfl, rfl⟩
              go_wp2_with fail
              go_roundw
              case rel => exact ⟨k + 1, _, FFX, by omega, by simp, by rw [hmin2], DX.out, FX.out, LX.out, KX.out⟩
              case measure => simp [intOf]; omega
            · have e1 : (if k < N then (0:Int) else 14) = 14 := if_neg hkN
              rw [e1]
              have hkN' : ¬ (k : Int) < (N : Int) := by omega
              have hd1 := (FX.out.off (by omega)).1
              have ho1 := (FX.out.off (by omega)).2
              have hmin : ((min k N : Nat) : Int) = (N : Int) := by omega
              have hmin2 : ((min (k + 1) N : Nat) : Int) = (N : Int) := by omega
              go_wp2_with fail
              refine (deadAt_any w6 p _ FFX _ DX.out).mono ?_
              rw [hd1]
              rintro e _ ⟨rfl, rfl⟩
              go_wp2_with fail
              refine (opsAt_any w6 p _ FFX _ DX.out).mono ?_
              rw [ho1]
              rintro e _ ⟨rfl, rfl⟩
              go_wp2_with fail
              go_roundw
              case rel => exact ⟨k + 1, _, FFX, by omega, by simp, by rw [hmin2], DX.out, FX.out, LX.out, KX.out⟩
              case measure => simp [intOf]; omega
          | false =>
            rw [hbk] at hck
            have hby : IntKind.u8.wrap (k : Int) = (k : Int) := IntWalk.u8_in _ (by omega)
            go_wp2_with fail
            refine (sector_any (k : Int) (by omega) (by omega) w5).mono ?_
            rintro e w6 ⟨_, rfl, r6, _, ⟨_, _, _, rfl⟩, k6⟩
            have D6 := hid (D5.out.keep k6 (by simp))
            have K6 := hid (K5.out.trans k6)
            have R6 := hid r6
            clear r6 k6
            go_wp2_with fail
            have fs := fs_write FF.out ((k : Int) % 4) (by omega) (by omega) (secL (k : Int)) (secL_len _)
            refine (write_any w6 p s F5 _ D6.out (by omega) ((k : Int) % 4) _ _ R6.out).mono ?_
            rw [fs.1]
            rintro e w7 ⟨rfl, FFX, D7, k7, fr7⟩
            have DX := hid (D7.mono (k' := 4 * (k + 1)) (by omega))
            have FX := hid fs.2
            have LX : Hid (∀ b ∈ FFX, W.heap.size ≤ b) := fun b hb => by
              rcases fr7 b hb with h | h
              · exact L5.out b h
              · have := K6.out.size; omega
            have KX : Hid (Keeps [] W w7) := K6.out.trans' k7 (fun i hi hm => by have := L5.out i hm; omega)
            clear D7 k7 fr7 fs
            by_cases hkN : k < N
            · have e1 : (if k < N then (0:Int) else 14) = 0 := if_pos hkN
              rw [e1]
              have hkN' : (k : Int) < (N : Int) := by omega
              have hd1 := (FX.out.on (by omega)).1
              have ho1 := (FX.out.on (by omega)).2.2
              have hmin : ((min k N : Nat) : Int) = (k : Int) := by omega
              have hmin2 : ((min (k + 1) N : Nat) : Int) = (k : Int) + 1 := by omega
              go_wp2_with fail
              refine (deadAt_any w7 p _ FFX _ DX.out).mono ?_
              rw [hd1]
              rintro e _ ⟨rfl, rfl⟩
              go_wp2_with fail
              refine (opsAt_any w7 p _ FFX _ DX.out).mono ?_
              rw [ho1]
              rintro e _ ⟨rfl, rfl⟩
              go_wp2_with fail
              go_roundw
              case rel => exact ⟨k + 1, _, FFX, by omega, by simp, by rw [hmin2], DX.out, FX.out, LX.out, KX.out⟩
              case measure => simp [intOf]; omega
            · have e1 : (if k < N then (0:Int) else 14) = 14 := if_neg hkN
              rw [e1]
              have hkN' : ¬ (k : Int) < (N : Int) := by omega
              have hd1 := (FX.out.off (by omega)).1
              have ho1 := (FX.out.off (by omega)).2
              have hmin : ((min k N : Nat) : Int) = (N : Int) := by omega
              have hmin2 : ((min (k + 1) N : Nat) : Int) = (N : Int) := by omega
              go_wp2_with fail
              refine (deadAt_any w7 p _ FFX _ DX.out).mono ?_
              rw [hd1]
              rintro e _ ⟨rfl, rfl⟩
              go_wp2_with fail
              refine (opsAt_any w7 p _ FFX _ DX.out).mono ?_
              rw [ho1]
              rintro e _ ⟨rfl, rfl⟩
              go_wp2_with fail
              go_roundw
              case rel => exact ⟨k + 1, _, FFX, by omega, by simp, by rw [hmin2], DX.out, FX.out, LX.out, KX.out⟩
              case measure => simp [intOf]; omega
        · have hkb' : ¬ (k : Int) < (bs.length : Int) := by omega
          have hby : IntKind.u8.wrap (k : Int) = (k : Int) := IntWalk.u8_in _ (by omega)
          go_wp2_with fail
          refine (sector_any (k : Int) (by omega) (by omega) w5).mono ?_
          rintro e w6 ⟨_, rfl, r6, _, ⟨_, _, _, rfl⟩, k6⟩
          have D6 := hid (D5.out.keep k6 (by simp))
          have K6 := hid (K5.out.trans k6)
          have R6 := hid r6
          clear r6 k6
          go_wp2_with fail
          have fs := fs_write FF.out ((k : Int) % 4) (by omega) (by omega) (secL (k : Int)) (secL_len _)
          refine (write_any w6 p s F5 _ D6.out (by omega) ((k : Int) % 4) _ _ R6.out).mono ?_
          rw [fs.1]
          rintro e w7 ⟨rfl, FFX, D7, k7, fr7⟩
          have DX := hid (D7.mono (k' := 4 * (k + 1)) (by omega))
          have FX := hid fs.2
          have LX : Hid (∀ b ∈ FFX, W.heap.size ≤ b) := fun b hb => by
            rcases fr7 b hb with h | h
            · exact L5.out b h
            · have := K6.out.size; omega
          have KX : Hid (Keeps [] W w7) := K6.out.trans' k7 (fun i hi hm => by have := L5.out i hm; omega)
          clear D7 k7 fr7 fs
          by_cases hkN : k < N
          · have e1 : (if k < N then (0:Int) else 14) = 0 := if_pos hkN
            rw [e1]
            have hkN' : (k : Int) < (N : Int) := by omega
            have hd1 := (FX.out.on (by omega)).1
            have ho1 := (FX.out.on (by omega)).2.2
            have hmin : ((min k N : Nat) : Int) = (k : Int) := by omega
            have hmin2 : ((min (k + 1) N : Nat) : Int) = (k : Int) + 1 := by omega
            go_wp2_with fail
            refine (deadAt_any w7 p _ FFX _ DX.out).mono ?_
            rw [hd1]
            rintro e _ ⟨rfl, rfl⟩
            go_wp2_with fail
            refine (opsAt_any w7 p _ FFX _ DX.out).mono ?_
            rw [ho1]
            rintro e _ ⟨rfl, rfl⟩
            go_wp2_with fail
            go_roundw
            case rel => exact ⟨k + 1, _, FFX, by omega, by simp, by rw [hmin2], DX.out, FX.out, LX.out, KX.out⟩
            case measure => simp [intOf]; omega
          · have e1 : (if k < N then (0:Int) else 14) = 14 := if_neg hkN
            rw [e1]
            have hkN' : ¬ (k : Int) < (N : Int) := by omega
            have hd1 := (FX.out.off (by omega)).1
            have ho1 := (FX.out.off (by omega)).2
            have hmin : ((min k N : Nat) : Int) = (N : Int) := by omega
            have hmin2 : ((min (k + 1) N : Nat) : Int) = (N : Int) := by omega
            go_wp2_with fail
            refine (deadAt_any w7 p _ FFX _ DX.out).mono ?_
            rw [hd1]
            rintro e _ ⟨rfl, rfl⟩
            go_wp2_with fail
            refine (opsAt_any w7 p _ FFX _ DX.out).mono ?_
            rw [ho1]
            rintro e _ ⟨rfl, rfl⟩
            go_wp2_with fail
            go_roundw
            case rel => exact ⟨k + 1, _, FFX, by omega, by simp, by rw [hmin2], DX.out, FX.out, LX.out, KX.out⟩
            case measure => simp [intOf]; omega
      · have : k = 70 := by omega
        subst this
        go_wp2_with fail
        go_ret
        exact ⟨rfl, KK.out⟩

end Go.Proofs.Ytodjkgifbocjdaa
