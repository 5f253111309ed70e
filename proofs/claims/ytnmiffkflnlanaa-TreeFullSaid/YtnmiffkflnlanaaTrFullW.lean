/- TreeFull: the walk. -/
import Derived.Test.YtnmiffkflnlanaaTrQ
namespace Go.Proofs.Ytnmiffkflnlanaa
open Go.RowKit
set_option maxRecDepth 100000

theorem bstr_size (b : List UInt8) : (⟨b.toArray⟩ : ByteArray).size = b.length := by show b.toArray.size = b.length; simp
theorem bstr_list (b : List UInt8) : (⟨b.toArray⟩ : ByteArray).data.toList = b := by simp
section
variable {w : World} {q c : Nat} {T : TL} {F : List Nat}
theorem make_b10 (A : TreeAt w q T F c) (hc : c ≤ 10000000) (b : List UInt8) (hs : b.length ≤ 1000) (dir : Bool) :
    Calls Try.prog 10 #[.pointer (some ⟨q, 0, none⟩), bstr b, .bool dir] w (DoPost w q (makeT T b dir).1 F c (.tuple #[numN (makeT T b dir).2.1, .int .i64 (makeT T b dir).2.2])) := by
  have h := make_any10 A hc ⟨b.toArray⟩ (by rw [bstr_size]; omega) dir
  rw [bstr_list] at h
  exact h
theorem remove_b10 (A : TreeAt w q T F c) (b : List UInt8) (hs : b.length ≤ 1000) (dir : Bool) :
    Calls Try.prog 11 #[.pointer (some ⟨q, 0, none⟩), bstr b, .bool dir] w (DoPost w q (removeT T b dir).1 F c (.tuple #[numN (removeT T b dir).2.1, .int .i64 (removeT T b dir).2.2])) := by
  have h := remove_any10 A ⟨b.toArray⟩ (by rw [bstr_size]; omega) dir
  rw [bstr_list] at h
  exact h
end
theorem add_lit (a l : List UInt8) (h : a.length + l.length ≤ 1000) : ∀ W : World, (Go.binOp .add 9 (bstr a) (bstr l)).run Try.prog W = .ok (bstr (a ++ l)) W := fun W => add_bstr a l W (by omega)
/-- A row of bools: those that are free. -/
structure FreeAt (w : World) (b : Nat) (fr : Nat → Bool) : Prop where
  lt : b < w.heap.size
  cell : ∀ i, i < 129 → w.cell? ⟨b, i, none⟩ = some (.bool (fr i))
  fz : ∀ i, w.frozen? ⟨b, i, none⟩ = false
theorem FreeAt.keep {w w' : World} {b : Nat} {fr : Nat → Bool} {S : List Nat} (h : FreeAt w b fr) (k : Keeps S w w') (hb : b ∉ S) : FreeAt w' b fr := by
  have e := k.block b h.lt hb
  exact ⟨Nat.lt_of_lt_of_le h.lt k.size, fun i hi => by rw [(cell_block e i).1]; exact h.cell i hi, fun i => by rw [(cell_block e i).2]; exact h.fz i⟩
theorem FreeAt.set {w : World} {b : Nat} {fr : Nat → Bool} (h : FreeAt w b fr) {k : Nat} (hk : k < 129) (v : Bool) : FreeAt (w.setCell ⟨b, k, none⟩ (.bool v)) b (fun i => if i = k then v else fr i) := by
  refine ⟨by rw [World.size_setCell]; exact h.lt, fun i hi => ?_, fun i => ?_⟩
  · by_cases e : i = k
    · subst e
      rw [World.cell?_setCell_same _ _ _ (h.cell i hi), if_pos rfl]
    · rw [World.cell?_setCell_other (h := show (⟨b, k, none⟩ : Addr) ≠ ⟨b, i, none⟩ from fun h => e (by injection h with _ h _; exact h.symm)), if_neg e]
      exact h.cell i hi
  · rw [World.frozen?_setCell]
    exact h.fz i

theorem infoBoolT : ∃ i : TypeInfo, Try.prog.info? 4 = some i ∧ i.zero = some (.bool false) ∧ i.size = 1 ∧ i.bytes = 1 := by
  have h : (Try.prog.info? 4).map (fun i => (i.zero, i.size, i.bytes)) = some (some (.bool false), 1, 1) := by kernel_rfl
  cases hq : Try.prog.info? 4 with
  | none => simp [hq] at h
  | some i => simp [hq] at h; exact ⟨i, rfl, h.1, h.2.1, h.2.2⟩
def noFree : Array Value := Array.replicate 129 (.bool false)
theorem noFree_is : madeCells (Value.bool false).cells (Int.toNat 129 * 1) = noFree := by kernel_rfl
theorem run_makeFree (w : World) : (Instr.makeSlice 56 (.int .i64 129) (.int .i64 129)).run Try.prog w = .ok (.slice (some ⟨w.heap.size, 0, none⟩) 129 129) (w.alloc (.cells noFree 4)) := by
  obtain ⟨i, hi, hz, hs, hb⟩ := infoBoolT
  have := run_makeSlice (P := Try.prog) w 56 4 i (.bool false) Try.underlying56 hi hz .i64 .i64 129 129 (by omega) (Int.le_refl _) (by rw [hs]; decide) (by rw [hb]; decide) (by omega)
  rw [hs] at this
  rw [this, noFree_is]
  rfl
theorem FreeAt.made (w : World) : FreeAt (w.alloc (.cells noFree 4)) w.heap.size fun _ => false := by
  have h := heap_alloc_new w (.cells noFree 4)
  refine ⟨by simp, fun i hi => ?_, fun i => by simp only [World.frozen?, h]; simp⟩
  rw [cell_of_row _ _ i _ _ (0, 0) h]
  simp [noFree, hi]
def FullPost (W : World) (e : Ending) (w' : World) : Prop := e = .returned (.bool true) ∧ Keeps [] W w'
set_option maxHeartbeats 3200000 in
theorem k10Full_any (W : World) (v : Value) (zs : List Int) (hr : RowAt W v zs) (hz : zs.length ≤ 140737488351232) (dir : Bool) :
    Calls Try.prog 6 #[v, .bool dir] W (FullPost W) := by
  obtain ⟨va, vc, rfl, hvl, hvm, hvn, hvb, hvc⟩ := id hr
  have HRW := hid hr
  clear hvl hvm hvn hvb hvc hr
  unfold FullPost
  go_enter Try.func6, Try.ntmps6
  go_wp2_with fail
  refine (awake10_any W).mono ?_
  rintro e w1 ⟨rfl, k1⟩
  have K1 := hid k1
  clear k1
  by_cases h40 : (zs.length : Int) ≤ 40
  · have h40' : decide ((40 : Int) < zs.length) = false := by simp; omega
    go_wp2_with fail
    refine (newTree_any w1).mono ?_
    rintro e w2 ⟨rfl, F2, A2, k2, hF2⟩
    have K2 := hid (K1.out.trans k2)
    have HA2 := hid A2
    have HF2 : Hid (∀ b ∈ F2, W.heap.size ≤ b) := hid fun b hb => Nat.le_trans K1.out.size (hF2 b hb)
    generalize w1.heap.size = q at HA2 ⊢
    clear A2 hF2 k2
    go_wp2_with fail
    go_loopw [6] (fun iv wr => ∃ (k : Nat) (T : TL) (F : List Nat), 2 ≤ k ∧ k ≤ 129 ∧ iv = .int .i64 k ∧ Hid (TreeAt wr q T F k) ∧ Hid (FlatIs T dir (fullF k)) ∧ Hid (∀ b ∈ F, W.heap.size ≤ b) ∧ Hid (Keeps [] W wr)) (fun iv _ => 129 - (intOf iv).toNat)
    case atStart => exact ⟨2, [], F2, by omega, by omega, rfl, hid (HA2.out.mono (by omega)), hid (by
      have : fullF 2 = fun _ => none := by funext i; unfold fullF; rw [if_neg (by omega)]
      rw [this]; exact FlatIs.nil dir), HF2, K2⟩
    case round =>
      obtain ⟨k, T, F, hk1, hk2, rfl, A, FL, HF, HK⟩ := hrel
      by_cases hlt : k ≤ 128
      · have hd : decide ((k : Int) ≤ 128) = true := by simp; omega
        have CA : ∀ W : World, (Go.binOp .add 9 (.string { data := #[47] }) (bstr (labN k 3))).run Try.prog W = .ok (bstr ([47] ++ labN k 3)) W := fun W => add_lit [47] (labN k 3) (by rw [labN_len]; decide) W
        obtain ⟨T', hT', FL'⟩ := FL.out.make (lab_may k (by omega)).1 (fullF_ne (by omega) (Nat.le_refl k)) hk1 hlt (by unfold fullF; rw [if_neg (by omega)]) (fun m h1 h2 => by unfold fullF; rw [if_pos ⟨h1, h2⟩]; simp)
        rw [fullF_succ k hk1] at FL'
        have HL := hid (label_any wr k (by omega))
        have HMK : Hid (∀ W', Keeps [] wr W' → Calls Try.prog 10 #[.pointer (some ⟨q, 0, none⟩), bstr ([47] ++ labN k 3), .bool dir] W' (DoPost W' q T' F k (.tuple #[numN k, .int .i64 0]))) := hid fun W' kk => by
          have h := make_b10 (A.out.keep0 kk) (by omega) ([47] ++ labN k 3) (by rw [List.length_append, labN_len]; decide) dir
          rw [show [47] ++ labN k 3 = 47 :: labN k 3 from rfl] at h ⊢
          rw [hT'] at h
          exact h
        have FL2 := hid FL'
        clear FL' hT'
        go_wp2_with fail
        refine HL.out.mono ?_
        rintro e w3 ⟨rfl, k3⟩
        have K3 := hid k3
        clear k3
        go_wp2_with fail
        refine (HMK.out _ K3.out).mono ?_
        rintro e w4 ⟨rfl, F4, A4, k4, f4⟩
        have HA4 := hid A4
        have HF4 : Hid (∀ b ∈ F4, W.heap.size ≤ b) := hid fun b hb => (f4 b hb).elim (HF.out b) fun h => Nat.le_trans (HK.out.trans K3.out).size h
        have HK4 := hid ((HK.out.trans K3.out).trans' k4 fun i hi hm => by have := HF.out i hm; omega)
        clear A4 k4 f4
        go_wp2_with fail
        go_roundw
        case rel => exact ⟨k + 1, T', F4, by omega, by omega, by go_num, HA4, FL2, HF4, HK4⟩
        case measure => simp [intOf]; omega
      · obtain rfl : k = 129 := by omega
        have hX := FL.out.full (s := [120]) (by decide) (fullF_x 129 [120] (by decide)) (fun m h1 h2 => by unfold fullF; rw [if_pos ⟨h1, h2⟩]; simp)
        have HMX := make_b10 A.out (by omega) [120 - 73, 120] (by decide) dir
        rw [show ([120 - 73, 120] : List UInt8) = 47 :: [120] from rfl, hX] at HMX
        have HMX2 := hid HMX
        clear HMX hX
        go_wp2_with fail
        refine HMX2.out.mono ?_
        rintro e w5 ⟨rfl, F5, A5, k5, f5⟩
        have HA5 := hid A5
        have HF5 : Hid (∀ b ∈ F5, W.heap.size ≤ b) := hid fun b hb => (f5 b hb).elim (HF.out b) fun h => Nat.le_trans HK.out.size h
        have HK5 := hid (HK.out.trans' k5 fun i hi hm => by have := HF.out i hm; omega)
        have FL5 : Hid (FlatIs T dir (holeF (fun _ => false) 0)) := hid (by rw [← fullF_hole]; exact FL.out)
        clear A5 k5 f5
        have MF := run_makeFree w5
        have kA : Keeps [] w5 (w5.alloc (.cells noFree 4)) := (Keeps.refl [] w5).alloc _
        have FA := FreeAt.made w5
        have HA6 := hid (HA5.out.keep0 kA)
        have HK6 := hid (HK5.out.trans kA)
        have HFA := hid FA
        have HFB : Hid (w5.heap.size ∉ F5) := hid fun h => Nat.lt_irrefl _ (HA5.out.lt _ h)
        have HWB := hid HK5.out.size
        clear kA FA
        go_wp2_with fail
        generalize w5.alloc (.cells noFree 4) = w6 at HA6 HK6 HFA ⊢
        clear MF
        generalize w5.heap.size = fb at HFA HFB HWB ⊢
        go_loopw [12] (fun iv wr => ∃ (i : Nat) (T : TL) (F : List Nat) (fr : Nat → Bool), i ≤ zs.length ∧ iv = .int .i64 i ∧ Hid (TreeAt wr q T F (200 + i)) ∧ Hid (FlatIs T dir (holeF fr 0)) ∧ Hid (FreeAt wr fb fr) ∧ Hid (fb ∉ F) ∧ Hid (∀ b ∈ F, W.heap.size ≤ b) ∧ Hid (Keeps [] W wr)) (fun iv _ => zs.length - (intOf iv).toNat)
        case atStart => exact ⟨0, T, F5, _, by omega, rfl, hid (HA6.out.mono (by omega)), FL5, HFA, HFB, HF5, HK6⟩
        case round =>
          obtain ⟨i, T7, F7, fr, hi, rfl, A7, FL7, FR7, FB7, HF7, HK7⟩ := hrel
          by_cases hil : i < zs.length
          · have hrow := HRW.out
            obtain ⟨gr, og, cr, hvv, _, hrc⟩ := hrow.open (by omega)
            injection hvv with e1 _ e3
            subst e1; subst e3
            have hz0 := hrow.bytes zs[i] (List.getElem_mem hil)
            obtain ⟨zn, hzn⟩ : ∃ zn : Nat, zs[i] = (zn : Int) := ⟨zs[i].toNat, by omega⟩
            have cz := HK7.out.cell' (hrc i hil) (by simp)
            rw [show zs.getD i 0 = zs[i] by simp [hil], hzn] at cz
            rw [hzn] at hz0
            obtain ⟨k, hk⟩ : ∃ k : Nat, k = 2 + zn % 127 := ⟨_, rfl⟩
            have hkz : (2 : Int) + (zn : Int) % 127 = (k : Int) := by omega
            have hk2 : 2 ≤ k := by omega
            have hk129 : k < 129 := by omega
            have hki : ((k : Int) < 129) := by omega
            have hki0 : (0 : Int) ≤ k := by omega
            clear hk hrc hrow hzn
            have HL := hid (label_any wr k (by omega))
            have CA : ∀ W : World, (Go.binOp .add 9 (.string { data := #[47] }) (bstr (labN k 3))).run Try.prog W = .ok (bstr ([47] ++ labN k 3)) W := fun W => add_lit [47] (labN k 3) (by rw [labN_len]; decide) W
            have cf := FR7.out.cell k hk129
            cases hfk : fr k with
            | true =>
              have hT' := FL7.out.gone (lab_may k (by omega)).1 (holeF_free hk129 hfk) dir
              rw [hfk] at cf
              have HMK : Hid (∀ W', Keeps [] wr W' → Calls Try.prog 11 #[.pointer (some ⟨q, 0, none⟩), bstr ([47] ++ labN k 3), .bool dir] W' (DoPost W' q T7 F7 (200 + i) (.tuple #[numN 0, .int .i64 6]))) := hid fun W' kk => by
                have h := remove_b10 (A7.out.keep0 kk) ([47] ++ labN k 3) (by rw [List.length_append, labN_len]; decide) dir
                rw [show [47] ++ labN k 3 = 47 :: labN k 3 from rfl] at h ⊢
                rw [hT'] at h
                exact h
              have HFK := hid hfk
              clear hT' hfk cf
              go_wp2_with fail
              refine HL.out.mono ?_
              rintro e w8 ⟨rfl, k8⟩
              have K8 := hid k8
              clear k8
              go_wp2_with fail
              refine (HMK.out _ K8.out).mono ?_
              rintro e w9 ⟨rfl, F9, A9, k9, f9⟩
              have hFB9 : fb ∉ F9 := fun hm => (f9 fb hm).elim FB7.out (fun h => by have := FR7.out.lt; have := K8.out.size; omega)
              have HFB9 := hid hFB9
              have hfr9 := (FR7.out.keep K8.out (by simp)).keep k9 FB7.out
              have kS : Keeps [fb] w9 (w9.setCell ⟨fb, k, none⟩ (.bool true)) := (Keeps.refl _ _).setCell (Or.inl (by simp)) _
              have HA9 := hid ((A9.mono (show 200 + i + 1 ≤ 200 + (i + 1) by omega)).keep kS (fun b hb => by simp; exact fun e => hFB9 (by rw [← e]; exact hb)))
              have HF9 : Hid (∀ b ∈ F9, W.heap.size ≤ b) := hid fun b hb => (f9 b hb).elim (HF7.out b) fun h => Nat.le_trans (HK7.out.trans K8.out).size h
              have HFR9 := hid (hfr9.set hk129 true)
              have HK9 := hid (((HK7.out.trans K8.out).trans' k9 fun i hi hm => by have := HF7.out i hm; omega).trans' kS (fun i hi hm => by simp at hm; have := HWB.out; omega))
              have cf := hfr9.cell k hk129
              rw [HFK.out] at cf
              have ff := hfr9.fz k
              clear A9 k9 f9 hfr9 hFB9 kS
              go_wp2_with fail
              go_roundw
              case rel => exact ⟨i + 1, T7, F9, fun j => if j = k then true else fr j, by omega, by go_num, HA9, hid (by
                have e : (fun j => if j = k then true else fr j) = fr := by
                  funext j
                  by_cases e : j = k
                  · rw [if_pos e, e, HFK.out]
                  · rw [if_neg e]
                rw [e]; exact FL7.out), HFR9, HFB9, HF9, HK9⟩
              case measure => simp [intOf]; omega
            | false =>
              obtain ⟨T8, hT', hFL⟩ := FL7.out.remove (lab_may k (by omega)).1 (by omega) (by omega) (holeF_held hk2 hk129 hfk)
              rw [holeF_rem] at hFL
              have HFL := hid hFL
              clear hFL
              rw [hfk] at cf
              have HMK : Hid (∀ W', Keeps [] wr W' → Calls Try.prog 11 #[.pointer (some ⟨q, 0, none⟩), bstr ([47] ++ labN k 3), .bool dir] W' (DoPost W' q T8 F7 (200 + i) (.tuple #[numN k, .int .i64 0]))) := hid fun W' kk => by
                have h := remove_b10 (A7.out.keep0 kk) ([47] ++ labN k 3) (by rw [List.length_append, labN_len]; decide) dir
                rw [show [47] ++ labN k 3 = 47 :: labN k 3 from rfl] at h ⊢
                rw [hT'] at h
                exact h
              have HFK := hid hfk
              clear hT' hfk cf
              go_wp2_with fail
              refine HL.out.mono ?_
              rintro e w8 ⟨rfl, k8⟩
              have K8 := hid k8
              clear k8
              go_wp2_with fail
              refine (HMK.out _ K8.out).mono ?_
              rintro e w9 ⟨rfl, F9, A9, k9, f9⟩
              have hFB9 : fb ∉ F9 := fun hm => (f9 fb hm).elim FB7.out (fun h => by have := FR7.out.lt; have := K8.out.size; omega)
              have HFB9 := hid hFB9
              have hfr9 := (FR7.out.keep K8.out (by simp)).keep k9 FB7.out
              have kS : Keeps [fb] w9 (w9.setCell ⟨fb, k, none⟩ (.bool true)) := (Keeps.refl _ _).setCell (Or.inl (by simp)) _
              have HA9 := hid ((A9.mono (show 200 + i + 1 ≤ 200 + (i + 1) by omega)).keep kS (fun b hb => by simp; exact fun e => hFB9 (by rw [← e]; exact hb)))
              have HF9 : Hid (∀ b ∈ F9, W.heap.size ≤ b) := hid fun b hb => (f9 b hb).elim (HF7.out b) fun h => Nat.le_trans (HK7.out.trans K8.out).size h
              have HFR9 := hid (hfr9.set hk129 true)
              have HK9 := hid (((HK7.out.trans K8.out).trans' k9 fun i hi hm => by have := HF7.out i hm; omega).trans' kS (fun i hi hm => by simp at hm; have := HWB.out; omega))
              have cf := hfr9.cell k hk129
              rw [HFK.out] at cf
              have ff := hfr9.fz k
              clear A9 k9 f9 hfr9 hFB9 kS
              go_wp2_with fail
              go_roundw
              case rel => exact ⟨i + 1, T8, F9, fun j => if j = k then true else fr j, by omega, by go_num, HA9, hid (HFL.out), HFR9, HFB9, HF9, HK9⟩
              case measure => simp [intOf]; omega
          · obtain rfl : i = zs.length := by omega
            go_wp2_with fail
            go_loopw [16] (fun iv wr => ∃ (k : Nat) (T : TL) (F : List Nat), 2 ≤ k ∧ k ≤ 129 ∧ iv = .int .i64 k ∧ Hid (TreeAt wr q T F (400 + k)) ∧ Hid (FlatIs T dir (holeF fr k)) ∧ Hid (FreeAt wr fb fr) ∧ Hid (fb ∉ F) ∧ Hid (∀ b ∈ F, W.heap.size ≤ b) ∧ Hid (Keeps [] W wr)) (fun iv _ => 129 - (intOf iv).toNat)
            case atStart => exact ⟨2, T7, F7, by omega, by omega, rfl, hid (A7.out.mono (by omega)), hid (by
              have e : holeF fr 2 = holeF fr 0 := by
                funext j
                unfold holeF
                by_cases h : 2 ≤ j ∧ j < 129
                · rw [if_pos h, if_pos h, if_neg (show ¬ j < 2 by omega), if_neg (show ¬ j < 0 by omega)]
                · rw [if_neg h, if_neg h]
              rw [e]; exact FL7.out), FR7, FB7, HF7, HK7⟩
            case round =>
              obtain ⟨k, T8, F8, hk1, hk2, rfl, A8, FL8, FR8, FB8, HF8, HK8⟩ := hrel
              by_cases hlt : k ≤ 128
              · have hd : decide ((k : Int) ≤ 128) = true := by simp; omega
                have hki : ((k : Int) < 129) := by omega
                have hki0 : (0 : Int) ≤ k := by omega
                have cf := FR8.out.cell k (by omega)
                cases hfk : fr k with
                | false =>
                  rw [hfk] at cf
                  have HFK := hid hfk
                  clear hfk
                  go_wp2_with fail
                  go_roundw
                  case rel => exact ⟨k + 1, T8, F8, by omega, by omega, by go_num, hid (A8.out.mono (by omega)), hid (by rw [← holeF_skip HFK.out]; exact FL8.out), FR8, FB8, HF8, HK8⟩
                  case measure => simp [intOf]; omega
                | true =>
                  rw [hfk] at cf
                  have HFK := hid hfk
                  have HL := hid (label_any wr k (by omega))
                  have CA : ∀ W : World, (Go.binOp .add 9 (.string { data := #[47, 121] }) (bstr (labN k 3))).run Try.prog W = .ok (bstr ([47, 121] ++ labN k 3)) W := fun W => add_lit [47, 121] (labN k 3) (by rw [labN_len]; decide) W
                  obtain ⟨T9, hT', hFL⟩ := FL8.out.make (s := 121 :: labN k 3) (lab_may k (by omega)).2 (holeF_y (by omega)) hk1 hlt (by simp [holeF, hfk]) (fun m h1 h2 => by
                    unfold holeF
                    rw [if_pos ⟨h1, by omega⟩]
                    split
                    · simp
                    · simp)
                  rw [holeF_add hk1 (by omega) hfk] at hFL
                  have HMK : Hid (∀ W', Keeps [] wr W' → Calls Try.prog 10 #[.pointer (some ⟨q, 0, none⟩), bstr ([47, 121] ++ labN k 3), .bool dir] W' (DoPost W' q T9 F8 (400 + k) (.tuple #[numN k, .int .i64 0]))) := hid fun W' kk => by
                    have h := make_b10 (A8.out.keep0 kk) (by omega) ([47, 121] ++ labN k 3) (by rw [List.length_append, labN_len]; decide) dir
                    rw [show [47, 121] ++ labN k 3 = 47 :: 121 :: labN k 3 from rfl] at h ⊢
                    rw [hT'] at h
                    exact h
                  have HFL := hid hFL
                  clear hFL hT' hfk
                  go_wp2_with fail
                  refine HL.out.mono ?_
                  rintro e w8 ⟨rfl, k8⟩
                  have K8 := hid k8
                  clear k8
                  go_wp2_with fail
                  refine (HMK.out _ K8.out).mono ?_
                  rintro e w9 ⟨rfl, F9, A9, k9, f9⟩
                  have HFB9 : Hid (fb ∉ F9) := hid fun hm => (f9 fb hm).elim FB8.out (fun h => by have := FR8.out.lt; have := K8.out.size; omega)
                  have HFR9 := hid ((FR8.out.keep K8.out (by simp)).keep k9 FB8.out)
                  have HA9 := hid A9
                  have HF9 : Hid (∀ b ∈ F9, W.heap.size ≤ b) := hid fun b hb => (f9 b hb).elim (HF8.out b) fun h => Nat.le_trans (HK8.out.trans K8.out).size h
                  have HK9 := hid ((HK8.out.trans K8.out).trans' k9 fun i hi hm => by have := HF8.out i hm; omega)
                  clear A9 k9 f9
                  go_wp2_with fail
                  go_roundw
                  case rel => exact ⟨k + 1, T9, F9, by omega, by omega, by go_num, HA9, HFL, HFR9, HFB9, HF9, HK9⟩
                  case measure => simp [intOf]; omega
              · obtain rfl : k = 129 := by omega
                have HIN := hid (inos_any10 A8.out)
                have hlen : (inosT T8).length = 128 := by
                  have e : inosT T8 = (List.range 129).filter (fun n => decide (1 ≤ n)) := by
                    unfold inosT
                    refine List.filter_congr fun n hn => ?_
                    have hn' := List.mem_range.1 hn
                    rw [FL8.out.has]
                    unfold holeF
                    rcases Nat.lt_or_ge n 2 with h | h
                    · match n, h with
                      | 0, _ => rfl
                      | 1, _ => rfl
                    · have h1 : 1 ≤ n := by omega
                      rw [if_pos ⟨h, hn'⟩]
                      cases fr n <;> simp [h1, hn']
                  rw [e]
                  decide
                unfold InosPost at HIN
                rw [hlen] at HIN
                clear hlen
                go_wp2_with fail
                refine HIN.out.mono ?_
                rintro e w9 ⟨a9, c9, rfl, o9, k9⟩
                go_wp2_with fail
                go_ret
                exact ⟨rfl, HK8.out.trans k9⟩
  · have h40' : decide ((40 : Int) < zs.length) = true := by simp; omega
    go_wp2_with fail
    go_ret
    exact ⟨rfl, K1.out⟩
end Go.Proofs.Ytnmiffkflnlanaa
