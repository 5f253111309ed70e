/- The walk of the law SlotOpens. -/
import Derived.Test.YtiljhjegfklgmaaSlRows
namespace Go.Proofs.Ytiljhjegfklgmaa
open Go.RowKit Go.Shelf
set_option maxRecDepth 100000
set_option linter.unusedSimpArgs false

/-- Both disks, apart, while sectors are written. -/
structure WrI (W w : World) (p rp : Nat) (s : DS) (F G : List Nat) (K : Nat) : Prop where
  d : DiskAt w p s F K
  r : RefS w rp s G
  fit : s.Fit K
  dis : ∀ b ∈ F, b ∉ G
  new : ∀ b ∈ F ++ G, W.heap.size ≤ b
  kp : Keeps [] W w
  al : s.dead = false ∧ s.fuse = -1
theorem WrI.keep {W w w' : World} {p rp : Nat} {s : DS} {F G : List Nat} {K : Nat} (h : WrI W w p rp s F G K) (k : Keeps [] w w') : WrI W w' p rp s F G K :=
  ⟨h.d.keep k (by simp), h.r.keep k (by simp), h.fit, h.dis, h.new, h.kp.trans k, h.al⟩
theorem writeS_al {s : DS} (h : s.dead = false ∧ s.fuse = -1) (k : Int) (zs : List Int) : (writeS s k zs).dead = false ∧ (writeS s k zs).fuse = -1 := by
  unfold writeS
  split
  · unfold DS.wrote
    rw [if_neg (by rw [h.2]; decide)]
    refine ⟨h.1, ?_⟩
    show (if 0 < s.fuse then s.fuse - 1 else s.fuse) = -1
    rw [h.2]; rfl
  · exact h

set_option maxHeartbeats 16000000 in
theorem sopens_any (W : World) (v : Value) (l : List (El W)) (hl : RowsAt W v l) :
    Calls Try.prog 3 #[v] W fun e w' => e = .returned (.bool true) ∧ Keeps [] W w' := by
  have HL := hid hl
  obtain ⟨la, lcap, rfl, -⟩ := id hl
  clear hl
  go_enter Try.func3, Try.ntmps3
  go_wp2_with fail
  refine (awake5_any W).mono ?_
  rintro e w0 ⟨rfl, k0⟩
  have K0 := hid k0
  clear k0
  by_cases hl10 : (l.length : Int) > 10
  · go_wp2_with fail
    go_ret
    exact ⟨rfl, K0.out⟩
  · obtain ⟨c, hc⟩ : ∃ c : Nat, c = 2 + 8 * l.length := ⟨_, rfl⟩
    have hw8 : IntKind.i64.wrap (8 * (l.length : Int)) = 8 * (l.length : Int) := by rw [IntKind.wrap_i64]; omega
    have hwc : IntKind.i64.wrap (2 + 8 * (l.length : Int)) = (c : Int) := by rw [IntKind.wrap_i64]; omega
    have HC := hid hc
    have NA := hid (newAt_any c (by omega) (by omega) w0)
    have RA := hid (fun w9 => rnew_any c (by omega) (by omega) w9)
    clear hc
    go_wp2_with fail
    refine NA.out.mono ?_
    rintro e w1 ⟨p, F, rfl, D1, l1, k1⟩
    have D1' := hid D1
    have L1 := hid l1
    have K1 := hid k1
    clear D1 l1 k1 NA
    go_wp2_with fail
    refine (RA.out w1).mono ?_
    rintro e w2 ⟨rp, vf, uf, rfl, R2, l2, k2⟩
    have WR0 : Hid (WrI W w2 p rp (blankS c) F (rbl rp vf uf) 0) := hid ⟨D1'.out.keep k2 (by simp), ⟨_, SameD.refl (by simp [blankS]), vf, uf, R2, rfl⟩, by
        obtain ⟨ok, m, lv, n, h1, h2, h3⟩ := D1'.out
        exact ⟨ok, by omega⟩, fun b hb hg => by
        have := D1'.out.lt b hb
        have := l2 b ((rbl_iff _ _ _ _).1 hg)
        omega, fun b hb => by
        have h1 := K0.out.size
        have h2 := K1.out.size
        rcases List.mem_append.1 hb with hb | hb
        · have := L1.out b hb; omega
        · have := l2 b ((rbl_iff _ _ _ _).1 hb); omega, (K0.out.trans K1.out).trans k2, rfl, rfl⟩
    have HB : Hid ((blankS c).cnt = c) := hid rfl
    clear R2 l2 k2 D1' RA L1
    generalize blankS c = s0 at WR0 HB
    go_wp2_with fail
    go_loopw [7] (fun v wr => ∃ (j : Nat) (s : DS) (F G : List Nat), j ≤ l.length ∧ v = .int .i64 j ∧ Hid (s.cnt = c) ∧ Hid (WrI W wr p rp s F G (4 * j))) (fun v _ => l.length - (intOf v).toNat)
    case atStart => exact ⟨0, _, _, _, by omega, rfl, HB, WR0⟩
    case round =>
      obtain ⟨j, s, F, G, hj, rfl, CN, WR⟩ := hrel
      clear WR0
      by_cases hlt : j < l.length
      · have hlt' : (j : Int) < (l.length : Int) := by omega
        obtain ⟨g, off, cp, e1, _, hcs⟩ := HL.out.open (by omega)
        injection e1 with e1 _ e3
        subst e1; subst e3
        have hcell := keeps_cell4 WR.out.kp (hcs j hlt) (by simp)
        obtain ⟨⟨⟨rv, zs⟩, hrow, hzl⟩, er⟩ : ∃ r, r = l[j] := ⟨_, rfl⟩
        rw [← er] at hcell
        simp only at hcell hrow hzl
        obtain ⟨ra, rc, rfl, -⟩ := id hrow
        have ROW := hid hrow
        clear hcs hrow er
        by_cases h64 : (zs.length : Int) > 64
        · go_wp2_with fail
          go_ret
          exact ⟨rfl, WR.out.kp⟩
        · have hz64 : zs.length ≤ 64 := by omega
          have hj8 : IntKind.i64.wrap (8 * (j : Int)) = 8 * (j : Int) := by rw [IntKind.wrap_i64]; omega
          have hj9 : IntKind.i64.wrap (1 + 8 * (j : Int)) = ((1 + 8 * j : Nat) : Int) := by rw [IntKind.wrap_i64]; omega
          have HP : Hid (0 < (zs.map (Value.int .u8)).length → ∃ ad, ra = some ad ∧ ∀ x v, (zs.map (Value.int .u8))[x]? = some v → (wr.alloc (.cells zrow.cells.toArray 5)).cell? (ad.add x) = some v) := hid (fun h0 => by
            have h1 : 0 < zs.length := by simpa using h0
            have rw9 := (ROW.out.keep WR.out.kp (by intro _ _ _ _ _; simp)).keep ((Keeps.refl [] wr).alloc (.cells zrow.cells.toArray 5)) (by intro _ _ _ _ _; simp)
            obtain ⟨a9, c9, e9, _, _, h3, _, h5⟩ := rw9
            injection e9 with e9 _ _
            subst e9
            cases ra with
            | none => exfalso; have := h3 rfl; have h2 : zs.length ≤ c9 := by assumption
                      omega
            | some ad => exact ⟨ad, rfl, fun x v hv => h5 ad rfl x v hv⟩)
          have hcell2 := keeps_cell4 ((Keeps.refl [] wr).alloc (.cells zrow.cells.toArray 5)) hcell (by simp)
          have LEN : Hid ((zs.map (Value.int .u8)).length = Nat.min zs.length 64) := hid (by
            rw [List.length_map]
            exact (Nat.min_eq_left hz64).symm)
          have FIT : Hid (0 + (zs.map (Value.int .u8)).length ≤ zrow.cells.length) := hid (by
            have e64 : zrow.cells.length = 64 := by simp [Row.cells, zrow]
            rw [List.length_map, e64]
            omega)
          go_wp2_with (first | (refine wpList_is rfl _ _ (exec_mk (.const (.int .i64 64)) (.const (.int .i64 64)) rfl rfl rfl (mk64 _)) ?_) | (refine wpList_copy_splice (o := ⟨some 52, _, _, _, _, _⟩) rfl (.tmp 47) (.tmp 51) 31 31 rfl 5 Try.underlying31 (by kernel_rfl) (some ⟨wr.heap.size, 0, none⟩) ra 64 64 zs.length rc rfl rfl wr.heap.size 0 zrow.cells 5 (heap_alloc_new _ _) (zs.map (Value.int .u8)) LEN.out (fun h0 => ⟨rfl, HP.out h0⟩) FIT.out (by intro v hv; simp at hv; obtain ⟨z, _, rfl⟩ := hv; rfl) wr.heap.size wr ((Below.refl _ _).alloc (Nat.le_refl _) _) (Nat.le_refl _) ?_; intro w3 h3 hb3) | fail)
          have K3 : Hid (Keeps [] wr w3) := hid ⟨hb3.os, hb3.tape, hb3.output, hb3.size, fun k hk _ => hb3.block k hk⟩
          have R3 : Hid (RowAt w3 (.slice (some ⟨wr.heap.size, 0, none⟩) 64 64) (pad64 zs)) := hid (by
            have h3' := h3.out
            rw [splice_pad] at h3'
            refine ⟨some ⟨wr.heap.size, 0, none⟩, 64, by rw [pad64_len hz64], by rw [pad64_len hz64]; omega, by unfold maxLen; omega, by simp, pad64_byte ROW.out.bytes, fun ad had x u hu => ?_⟩
            obtain rfl := Option.some.inj had
            rw [Addr.add_mid, Nat.zero_add, cell_of_row _ _ x _ _ (0, 0) h3']
            simpa using hu)
          have W3 := hid (WR.out.keep K3.out)
          have LT3 := hid (lt_of_block h3.out)
          clear h3 hb3 HP LEN FIT
          refine (write_any w3 p s F _ W3.out.d (by omega) ((1 + 8 * j : Nat) : Int) _ _ R3.out).mono ?_
          rintro e w4 ⟨rfl, F4, d4, k4, fr4⟩
          have hbF : wr.heap.size ∉ F := fun hm => by have := WR.out.d.lt _ hm; omega
          have R4 := hid (R3.out.keep k4 (fun ad n c e _ hm => by injection e with e _ _; injection e with e; subst e; exact hbF hm))
          have hGF : ∀ b ∈ G, b ∉ F := fun b hb hf => W3.out.dis b hf hb
          have r4 := W3.out.r.keep k4 hGF
          have KW4 := hid (W3.out.kp.trans' k4 (fun i hi hm => by have := W3.out.new i (List.mem_append.2 (.inl hm)); omega))
          have D4 := hid d4
          have RR4 := hid r4
          have FR4 := hid fr4
          have K4 := hid k4
          clear d4 k4 fr4 r4
          go_wp2_with fail
          have hoff4 : Off G (.slice (some ⟨wr.heap.size, 0, none⟩) 64 64) (pad64 zs) := fun ad n c e _ hm => by
            injection e with e _ _
            injection e with e
            subst e
            have h9 : wr.heap.size ∈ G := hm
            have := WR.out.r.lt _ h9
            omega
          refine (rw_any w4 rp s G RR4.out _ W3.out.fit.ok (by omega) (by have := W3.out.fit.ll; omega) ((1 + 8 * j : Nat) : Int) _ _ R4.out hoff4).mono ?_
          rintro e w5 ⟨rfl, G5, r5, k5, fr5⟩
          have WN : Hid (WrI W w5 p rp (writeS s ((1 + 8 * j : Nat) : Int) (pad64 zs)) F4 G5 (4 * j + 2)) := hid (by
            have hFG : ∀ b ∈ F4, b ∉ G := fun b hb hg => by
              rcases FR4.out b hb with h | h
              · exact W3.out.dis b h hg
              · have := W3.out.r.lt b hg; omega
            refine ⟨D4.out.keep k5 hFG, r5, (W3.out.fit.writeS _ _).mono (by omega), fun b hb hg => ?_, fun b hb => ?_, KW4.out.trans' k5 (fun i hi hm => by have := W3.out.new i (List.mem_append.2 (.inr hm)); omega), writeS_al W3.out.al _ _⟩
            · rcases fr5 b hg with h | h
              · exact hFG b hb h
              · have := D4.out.lt b hb; omega
            · have hzw := W3.out.kp.size
              rcases List.mem_append.1 hb with hb | hb
              · rcases FR4.out b hb with h | h
                · exact W3.out.new b (List.mem_append.2 (.inl h))
                · omega
              · rcases fr5 b hb with h | h
                · exact W3.out.new b (List.mem_append.2 (.inr h))
                · have := KW4.out.size; omega)
          clear r5 k5 fr5 D4 R4 R3 K3 K4 W3 hoff4 hGF hbF RR4
          go_wp2_with fail
          go_roundw
          case rel => exact ⟨j + 1, _, _, _, by omega, by go_num, hid (by rw [writeS_cnt]; exact CN.out), hid ⟨WN.out.d.mono (by omega), WN.out.r, WN.out.fit.mono (by omega), WN.out.dis, WN.out.new, WN.out.kp, WN.out.al⟩⟩
          case measure => simp [intOf]; omega
      · have : j = l.length := by omega
        subst this
        have hlt' : ¬ (l.length : Int) < (l.length : Int) := by omega
        have hcnt := WR.out.fit.ok.hi
        have hcn := CN.out
        have h1c : 1 ≤ s.cnt := by have := HC.out; omega
        obtain ⟨m, hm⟩ : ∃ m, m = (s.cnt - 1) / 8 := ⟨_, rfl⟩
        have LO := hid (lOpen_both wr p s F _ WR.out.d 1 m h1c hm WR.out.al.1)
        have RO2 := hid (fun W9 (k : Keeps [] wr W9) => ropen_any W9 rp s G (WR.out.r.keep k (by simp)) 1 m h1c hcnt hm WR.out.al.1)
        have HM := hid hm
        clear hm hcn
        go_wp2_with fail
        refine LO.out.mono ?_
        rintro e w3 ⟨k3, hL⟩
        have HLC := hid hL
        have K3 := hid k3
        clear hL k3 LO
        have R3 := hid (RO2.out w3 K3.out)
        clear RO2
        by_cases hgood : goodS s 1 m
        · obtain ⟨q, g, rfl, SL, hq1, hg1⟩ : ∃ q g, e = .returned (.tuple #[.pointer (some ⟨q, 0, none⟩), .int .i64 0]) ∧ SlAt w3 q p g 1 (headsS s 1 m) s F (4 * l.length) ∧ wr.heap.size ≤ q ∧ wr.heap.size ≤ g := by
            rcases HLC.out with ⟨_, h⟩ | ⟨h, _⟩
            · exact h
            · exact absurd hgood h
          have SL3 := hid SL
          have HGOOD := hid hgood
          clear HLC SL hq1 hg1 hgood
          go_wp2_with fail
          refine R3.out.mono ?_
          rintro e w4 ⟨k4, hR⟩
          obtain ⟨rq, M, rfl, RS, hM⟩ : ∃ rq M, e = .returned (.tuple #[.pointer (some ⟨rq, 0, none⟩), .int .i64 0]) ∧ RsAt w4 rq rp 1 (headsS s 1 m) M ∧ ∀ b ∈ M, w3.heap.size ≤ b := by
            rcases hR with ⟨_, h⟩ | ⟨h, _⟩
            · exact h
            · exact absurd HGOOD.out h
          have LK : Hid (LkAt w4 q p g rq rp 1 (headsS s 1 m) s F M G (4 * l.length)) := hid ⟨SL3.out.keep k4 (by simp) (by simp) (by simp), ⟨RS, (WR.out.r.keep K3.out (by simp)).keep k4 (by simp), fun b hb hg => by
            have := hM b hb; have := WR.out.r.lt b hg; have := K3.out.size; omega, WR.out.fit, by
            have e9 : (headsS s 1 m).length = m := by simp [headsS]
            have := HM.out
            rw [e9]; omega, by rw [← opS_all]; exact opS_ok _ _ _ _⟩⟩
          have K4 := hid ((WR.out.kp.trans K3.out).trans k4)
          clear k4 hR RS hM SL3 R3 HGOOD
          go_wp2_with fail
          refine (looks_any w4 q p g rq rp 1 _ s F M G _ LK.out).mono ?_
          rintro e w5 ⟨rfl, k5⟩
          have K5 := hid (K4.out.trans k5)
          clear k5
          go_wp2_with fail
          go_ret
          exact ⟨rfl, K5.out⟩
        · have hnil : e = .returned (.tuple #[.pointer none, .int .i64 4]) := by
            rcases HLC.out with ⟨h, _⟩ | ⟨_, h⟩
            · exact absurd h hgood
            · exact h
          subst hnil
          have HNG := hid hgood
          clear HLC hgood
          go_wp2_with fail
          refine R3.out.mono ?_
          rintro e w4 ⟨k4, hR⟩
          have hnil : e = .returned (.tuple #[.pointer none, .int .i64 4]) := by
            rcases hR with ⟨h, _⟩ | ⟨_, h⟩
            · exact absurd h HNG.out
            · exact h
          subst hnil
          have KZ := hid ((WR.out.kp.trans K3.out).trans k4)
          clear hR k4
          go_wp2_with fail
          go_ret
          exact ⟨rfl, KZ.out⟩
end Go.Proofs.Ytiljhjegfklgmaa
