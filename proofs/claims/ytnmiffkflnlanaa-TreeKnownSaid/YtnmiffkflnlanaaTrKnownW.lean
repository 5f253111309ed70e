/- TreeKnown: the walk. -/
import Derived.Test.YtnmiffkflnlanaaTrT
namespace Go.Proofs.Ytnmiffkflnlanaa
open Go.RowKit
set_option maxRecDepth 100000

theorem incr_uniq : ∀ {a b : List En}, a.Pairwise (fun x y => ltN x.nm y.nm) → b.Pairwise (fun x y => ltN x.nm y.nm) → (∀ x, x ∈ a ↔ x ∈ b) → a = b
  | [], [], _, _, _ => rfl
  | [], y :: b, _, _, h => by have := (h y).2 (by simp); simp at this
  | x :: a, [], _, _, h => by have := (h x).1 (by simp); simp at this
  | x :: a, y :: b, ha, hb, h => by
    rw [List.pairwise_cons] at ha hb
    have asym : ∀ u v : En, ltN u.nm v.nm → ltN v.nm u.nm → False := fun u v h1 h2 => by
      have f := cmp_flip u.nm v.nm
      unfold ltN at h1 h2
      omega
    have irr : ∀ u : En, ¬ ltN u.nm u.nm := fun u h1 => asym u u h1 h1
    have e : x = y := by
      rcases List.mem_cons.1 ((h x).1 (by simp)) with e | e
      · exact e
      · rcases List.mem_cons.1 ((h y).2 (by simp)) with e2 | e2
        · exact e2.symm
        · exact (asym _ _ (hb.1 x e) (ha.1 y e2)).elim
    subst e
    rw [incr_uniq ha.2 hb.2 fun z => ?_]
    constructor
    · intro hz
      rcases List.mem_cons.1 ((h z).1 (by simp [hz])) with e | e
      · rw [e] at hz; exact (irr _ (ha.1 _ hz)).elim
      · exact e
    · intro hz
      rcases List.mem_cons.1 ((h z).2 (by simp [hz])) with e | e
      · rw [e] at hz; exact (irr _ (hb.1 _ hz)).elim
      · exact e
theorem EnsOf.uniq {T : TL} {n : Nat} {a b : List En} (h : EnsOf T n a) (k : EnsOf T n b) : a = b := incr_uniq h.sort k.sort fun x => by rw [h.mem, k.mem]
def kT1 : TL := [⟨2, 1, [97], true⟩]
def kT2 : TL := [⟨2, 1, [97], true⟩, ⟨3, 2, [102], false⟩]
def kT3 : TL := [⟨2, 1, [97], true⟩, ⟨3, 1, [103], false⟩]
def kB0 : ByteArray := ⟨#[47]⟩
def kB1 : ByteArray := ⟨#[47, 97]⟩
def kB2 : ByteArray := ⟨#[47, 97, 47, 102]⟩
def kB3 : ByteArray := ⟨#[47, 97, 47, 98]⟩
def kB4 : ByteArray := ⟨#[47, 103]⟩
theorem kEns : EnsOf kT3 1 [⟨[97], 2, true⟩, ⟨[103], 3, false⟩] := by
  refine ⟨List.pairwise_cons.2 ⟨fun y hy => by
    simp at hy
    subst hy
    show Lib.compareBytes [97] [103] < 0
    decide, by simp⟩, fun x => ?_⟩
  rw [List.mem_cons, List.mem_singleton]
  constructor
  · rintro (rfl | rfl)
    · exact ⟨by decide, by decide⟩
    · exact ⟨by decide, by decide⟩
  · rintro ⟨h1, h2⟩
    have hk : x.nm = [97] ∨ x.nm = [103] := by
      obtain ⟨y, hy, _, e, _⟩ := kidT_pos h1
      simp only [kT3, List.mem_cons, List.not_mem_nil, or_false] at hy
      rcases hy with rfl | rfl
      · exact Or.inl e.symm
      · exact Or.inr e.symm
    rcases hk with e | e
    · left; rw [h2, e]; decide
    · right; rw [h2, e]; decide

set_option maxHeartbeats 3200000 in
theorem k10Known_any (W : World) : Calls Try.prog 3 #[] W fun e w' => e = .returned (.bool true) ∧ Keeps [] W w' := by
  go_enter Try.func3, Try.ntmps3
  go_wp2_with fail
  refine (awake10_any W).mono ?_
  rintro e w0 ⟨rfl, k0⟩
  have K0 := hid k0
  clear k0
  go_wp2_with fail
  refine (newTree_any w0).mono ?_
  rintro e w1 ⟨rfl, F1, A1, k1, hF1⟩
  have HA1 := hid A1
  have K1 := hid (K0.out.trans k1)
  have HF1 : Hid (∀ b ∈ F1, W.heap.size ≤ b) := hid fun b hb => Nat.le_trans K0.out.size (hF1 b hb)
  generalize w0.heap.size = q at HA1 ⊢
  clear A1 k1 hF1
  have M1 := make_any10 HA1.out (by decide) kB1 (by decide) true
  rw [show makeT [] kB1.data.toList true = (kT1, 2, 0) by decide] at M1
  have HM1 := hid M1
  clear M1
  go_wp2_with fail
  refine (HM1.out.mono fun e w' h => DoPost.keep_new K1.out HF1.out h).mono ?_
  rintro e w2 ⟨rfl, F2, A2, hF2, k2⟩
  have HA2 := hid A2
  have HF2 := hid hF2
  have K2 := hid k2
  clear A2 hF2 k2
  have M2 := make_any10 HA2.out (by decide) kB2 (by decide) false
  rw [show makeT kT1 kB2.data.toList false = (kT2, 3, 0) by decide] at M2
  have HM2 := hid M2
  clear M2
  go_wp2_with fail
  refine (HM2.out.mono fun e w' h => DoPost.keep_new K2.out HF2.out h).mono ?_
  rintro e w3 ⟨rfl, F3, A3, hF3, k3⟩
  have HA3 := hid A3
  have HF3 := hid hF3
  have K3 := hid k3
  clear A3 hF3 k3
  have M3 := make_any10 HA3.out (by decide) kB2 (by decide) false
  rw [show makeT kT2 kB2.data.toList false = (kT2, 0, 7) by decide] at M3
  have HM3 := hid M3
  clear M3
  go_wp2_with fail
  refine (HM3.out.mono fun e w' h => DoPost.keep_new K3.out HF3.out h).mono ?_
  rintro e w4 ⟨rfl, F4, A4, hF4, k4⟩
  have HA4 := hid A4
  have HF4 := hid hF4
  have K4 := hid k4
  clear A4 hF4 k4
  have M4 := remove_any10 HA4.out kB1 (by decide) true
  rw [show removeT kT2 kB1.data.toList true = (kT2, 0, 11) by decide] at M4
  have HM4 := hid M4
  clear M4
  go_wp2_with fail
  refine (HM4.out.mono fun e w' h => DoPost.keep_new K4.out HF4.out h).mono ?_
  rintro e w5 ⟨rfl, F5, A5, hF5, k5⟩
  have HA5 := hid A5
  have HF5 := hid hF5
  have K5 := hid k5
  clear A5 hF5 k5
  have M5 := move_any10 HA5.out (by decide) kB1 kB3 (by decide) (by decide)
  rw [show moveT kT2 kB1.data.toList kB3.data.toList = (kT2, 1) by decide] at M5
  have HM5 := hid M5
  clear M5
  go_wp2_with fail
  refine (HM5.out.mono fun e w' h => DoPost.keep_new K5.out HF5.out h).mono ?_
  rintro e w6 ⟨rfl, F6, A6, hF6, k6⟩
  have HA6 := hid A6
  have HF6 := hid hF6
  have K6 := hid k6
  clear A6 hF6 k6
  have M6 := move_any10 HA6.out (by decide) kB2 kB4 (by decide) (by decide)
  rw [show moveT kT2 kB2.data.toList kB4.data.toList = (kT3, 0) by decide] at M6
  have HM6 := hid M6
  clear M6
  go_wp2_with fail
  refine (HM6.out.mono fun e w' h => DoPost.keep_new K6.out HF6.out h).mono ?_
  rintro e w7 ⟨rfl, F7, A7, hF7, k7⟩
  have HA7 := hid A7
  have HF7 := hid hF7
  have K7 := hid k7
  clear A7 hF7 k7
  have L := list_any10 HA7.out (by decide) kB0 (by decide)
  unfold ListPost at L
  rw [show lookT kT3 kB0.data.toList = (1, true, 0) by decide] at L
  simp only [if_true] at L
  have HL := hid L
  clear L
  go_wp2_with fail
  refine HL.out.mono ?_
  rintro e w8 ⟨k8, v, es, rfl, hE, hO⟩
  have K8 := hid (K7.out.trans k8)
  obtain rfl := hO.uniq kEns
  obtain ⟨a, cap, rfl, hc1, hc2, hc3, hc4⟩ := hE
  cases a with
  | none => have := hc3 rfl; subst this; simp at hc1
  | some ad =>
    obtain ⟨hsp, hr⟩ := hc4 ad rfl
    obtain ⟨g, of, sp⟩ := ad
    simp only at hsp
    subst hsp
    have c0 : w8.cell? ⟨g, of, none⟩ = some (.string { data := #[97] }) := hr 0 _ rfl
    have c2 : w8.cell? ⟨g, of + 2, none⟩ = some (.bool true) := hr 2 _ rfl
    have c3 : w8.cell? ⟨g, of + 3, none⟩ = some (.string { data := #[103] }) := hr 3 _ rfl
    have c4 : w8.cell? ⟨g, of + 4, none⟩ = some (.int .i64 3) := hr 4 _ rfl
    have c4' : w8.cell? ⟨g, of + 3 + 1, none⟩ = some (.int .i64 3) := hr 4 _ rfl
    clear hr hc1 hc2 hc3 hc4 hO k8
    simp only [List.length_cons, List.length_nil]
    go_wp2_with fail
    go_ret
    exact ⟨rfl, K8.out⟩
end Go.Proofs.Ytnmiffkflnlanaa
