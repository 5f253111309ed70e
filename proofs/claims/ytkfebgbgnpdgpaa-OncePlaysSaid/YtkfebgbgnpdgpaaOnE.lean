/- once: the walks of the laws' awake; of the law OnceKnown. -/
import Derived.Test.YtkfebgbgnpdgpaaOnD
import Derived.Test.YtkfebgbgnpdgpaaKitC
import Derived.Test.YtkfebgbgnpdgpaaSame
namespace Go.Proofs.Ytkfebgbgnpdgpaa
open Go.RowKit Go.Shelf
set_option maxRecDepth 100000
set_option linter.unusedSimpArgs false

/-- A call on a window of the law's own, by what it knows alone. -/
structure WinF (w : World) (p : Nat) (M : List Nat) (T : Tab) : Prop where
  ex : ∃ R, WinAt w p M R T
  lt : ∀ b ∈ M, b < w.heap.size
theorem WinF.keep {w w' : World} {p : Nat} {M S : List Nat} {T : Tab} (h : WinF w p M T) (k : Keeps S w w') (hs : ∀ b ∈ S, b ∈ M) (hp : p ∉ S) : WinF w' p M T := by
  obtain ⟨⟨R, hR⟩, hl⟩ := h
  exact ⟨⟨R, hR.keep k hs hp⟩, fun b hb => Nat.lt_of_lt_of_le (hl b hb) k.size⟩
theorem WinF.later {w w' : World} {p : Nat} {M : List Nat} {T : Tab} (h : WinF w p M T) (k : Keeps [] w w') : WinF w' p M T := h.keep k (by simp) (by simp)
/-- Blocks of M were written; N has those, and new ones. -/
theorem WinF.grow {w w' : World} {p : Nat} {M N S : List Nat} {T : Tab} (h : WinF w p M T) (k : Keeps S w w') (hs : ∀ b ∈ S, b ∈ M) (hp : p ∉ S) (hpN : p ∈ N) (hN : ∀ b ∈ N, b ∈ M ∨ w.heap.size ≤ b) (hl : ∀ b ∈ N, b < w'.heap.size) : WinF w' p N T := by
  obtain ⟨⟨R, hR⟩, _⟩ := h
  refine ⟨⟨R, ⟨(k.block p hR.lt hp).trans hR.blk, hpN, fun i hi => ?_⟩⟩, hl⟩
  have r := hR.row i hi
  cases hT : T i with
  | none => rw [hT] at r; exact r
  | some x =>
    obtain ⟨l, s, b⟩ := x
    rw [hT] at r
    obtain ⟨h1, h2, h3, h4, h5, h6⟩ := r
    have h7 := h6.keep k hs
    exact ⟨h1, h2, h3, h4, h5, ⟨h7.row, (h6.more hN).off, h7.fit, h7.b0, h7.b1, h7.b2⟩⟩
theorem WinF.p {w p M T} (h : WinF w p M T) : p ∈ M := h.ex.choose_spec.inM

theorem askF {w : World} {p : Nat} {M : List Nat} {T : Tab} (h : WinF w p M T) (c l s : Int) : Calls Try.prog 20 #[.pointer (some ⟨p, 0, none⟩), stV c l s] w (AskPost w M T c l s) := by
  obtain ⟨R, hR⟩ := h.ex
  exact nAsk_any w p M h.lt R T hR c l s
def DoneF (w : World) (p : Nat) (M : List Nat) (T' : Tab) (v : Value) (e : Ending) (w' : World) : Prop := e = .returned v ∧ WinF w' p M T' ∧ Keeps [p] w w'
theorem doneF {w : World} {p : Nat} {M : List Nat} {T : Tab} (h : WinF w p M T) (c l s : Int) (ra : Option Addr) (rc n : Nat) (bs : List Int) (hn : n = bs.length) (hr : RowAt w (.slice ra n rc) bs) (hl : bs.length ≤ 100) :
    Calls Try.prog 21 #[.pointer (some ⟨p, 0, none⟩), stV c l s, .slice ra n rc] w (DoneF w p M (doneT T c l s bs) (.int .i64 (doneA T c l s))) := by
  subst hn
  obtain ⟨R, hR⟩ := h.ex
  refine (nDone_any w p M h.lt R T hR c l s ra rc bs hr hl).mono ?_
  rintro e w' ⟨h1, h2, h3⟩
  exact ⟨h1, ⟨h2, fun b hb => Nat.lt_of_lt_of_le (h.lt b hb) h3.size⟩, h3⟩
theorem lifeF {w : World} {p : Nat} {M : List Nat} {T : Tab} (h : WinF w p M T) (c : Int) : Calls Try.prog 22 #[.pointer (some ⟨p, 0, none⟩), .int .i64 c] w fun e w' => e = .returned (.int .i64 (lifeS T c)) ∧ w = w' := by
  obtain ⟨R, hR⟩ := h.ex
  exact nLife_any w p M R T hR c
def NewF (w : World) (M : List Nat) (T : Tab) (e : Ending) (w' : World) : Prop := ∃ p, w.heap.size ≤ p ∧ e = .returned (.pointer (some ⟨p, 0, none⟩)) ∧ WinF w' p (p :: M) T ∧ Keeps [] w w'
theorem newF (w : World) (M : List Nat) (hM : ∀ b ∈ M, b < w.heap.size) : Calls Try.prog 19 #[] w (NewF w M tab0) := by
  refine (nNew_any w M).mono ?_
  rintro e w' ⟨p, h1, h2, ⟨R, h3⟩, h4⟩
  exact ⟨p, h1, h2, ⟨⟨R, h3⟩, fun b hb => by
    rcases List.mem_cons.1 hb with rfl | hb
    · exact h3.lt
    · exact Nat.lt_of_lt_of_le (hM b hb) h4.size⟩, h4⟩

def tab1 : Tab := tab0.put 1 (0, 1, [5])
theorem done1 : doneT tab0 1 0 1 [5] = tab1 ∧ doneA tab0 1 0 1 = 0 := ⟨rfl, by decide⟩
theorem ask1 : kindS tab1 1 0 1 = 1 ∧ replyS tab1 1 0 1 = [5] := by decide

set_option maxHeartbeats 3200000 in
theorem j8Awake_any (w : World) : Calls Try.prog 18 #[] w fun e w' => e = .returned (.bool true) ∧ Keeps [] w w' := by
  go_enter Try.func18, Try.ntmps18
  go_wp2_with fail
  refine (newF w [] (by simp)).mono ?_
  rintro e w1 ⟨p, hp, rfl, h1, k1⟩
  have H1 := hid h1
  have K1 := hid k1
  have HP := hid hp
  clear h1 k1 hp
  go_wp2_with fail
  have ka := (Keeps.refl [] w1).alloc (.cells #[.int .u8 5] 5)
  have hA := H1.out.later ka
  have KA := hid (K1.out.trans ka)
  have rA := row_oneK (w := w1) 5 5 (by decide)
  generalize w1.heap.size = b1 at rA ⊢
  generalize w1.alloc (.cells #[.int .u8 5] 5) = w2 at hA KA rA ⊢
  refine (doneF hA 1 0 1 _ _ 1 [5] rfl rA (by decide)).mono ?_
  rw [done1.1, done1.2]
  rintro e w3 ⟨rfl, h3, k3⟩
  have H3 := hid h3
  have K3 : Hid (Keeps [] w w3) := hid (KA.out.trans' k3 (fun i hi hm => by have := HP.out; simp at hm; omega))
  clear ka hA rA h3 k3
  go_wp2_with fail
  refine (askF H3.out 1 0 1).mono ?_
  unfold AskPost
  rw [ask1.1, ask1.2]
  rintro e w4 ⟨a4, n4, rfl, r4, _, k4⟩
  have R4 := hid r4
  have K4 := hid (K3.out.trans k4)
  clear r4 k4
  go_wp2_with fail
  have kb := (Keeps.refl [] w4).alloc (.cells #[.int .u8 5] 5)
  have r5 := R4.out.keep kb (by intro _ _ _ _ _; simp)
  have rB := row_oneK (w := w4) 5 5 (by decide)
  have KB := hid (K4.out.trans kb)
  generalize w4.heap.size = b4 at rB ⊢
  generalize w4.alloc (.cells #[.int .u8 5] 5) = w5 at r5 rB KB ⊢
  clear kb
  refine (same_any w5 _ _ [5] [5] r5 rB (by decide) (by decide)).mono ?_
  rintro e w6 ⟨rfl, n6, rfl⟩
  have K6 := hid (KB.out.drewN n6)
  generalize w5.drewN n6 = w6 at K6 ⊢
  go_wp2_with fail
  go_ret
  exact ⟨rfl, K6.out⟩

theorem kn_facts : kindS tab0 1 0 1 = 3 ∧ replyS tab0 1 0 1 = [] ∧ kindS tab1 1 0 2 = 0 ∧ kindS tab1 1 2 1 = 3 ∧ kindS tab1 1 0 0 = 2 ∧ doneA tab1 1 0 1 = 17 ∧ lifeS tab1 1 = 0 ∧ lifeS tab1 2 = -1 := by decide
theorem doneT_1 : doneT tab1 1 0 1 [] = tab1 := by rw [doneT, if_pos (Or.inr (by decide))]

set_option maxHeartbeats 6400000 in
theorem j8Known_any (w : World) : Calls Try.prog 4 #[] w fun e w' => e = .returned (.bool true) ∧ Keeps [] w w' := by
  obtain ⟨f1, f2, f3, f4, f5, f6, f7, f8⟩ := kn_facts
  have F := hid (show _ ∧ _ from ⟨f7, f8⟩)
  clear f7 f8
  have AW := hid (fun W => j8Awake_any W)
  go_enter Try.func4, Try.ntmps4
  go_wp2_with fail
  refine (AW.out w).mono ?_
  rintro e w0 ⟨rfl, k0⟩
  have K0 := hid k0
  clear k0
  go_wp2_with fail
  refine (newF w0 [] (by simp)).mono ?_
  rintro e w1 ⟨p, hp, rfl, h1, k1⟩
  have H1 := hid h1
  have K1 := hid (K0.out.trans k1)
  have HP := hid (Nat.le_trans K0.out.size hp)
  clear h1 k1 hp
  go_wp2_with fail
  refine (askF H1.out 1 0 1).mono ?_
  unfold AskPost
  rw [f1, f2]
  rintro e w2 ⟨a2, n2, rfl, -, -, k2⟩
  have H2 := hid (H1.out.later k2)
  have K2 := hid (K1.out.trans k2)
  clear k2
  go_wp2_with fail
  have ka := (Keeps.refl [] w2).alloc (.cells #[.int .u8 5] 5)
  have hA := H2.out.later ka
  have KA := hid (K2.out.trans ka)
  have rA := row_oneK (w := w2) 5 5 (by decide)
  generalize w2.heap.size = b1 at rA ⊢
  generalize w2.alloc (.cells #[.int .u8 5] 5) = w3 at hA KA rA ⊢
  refine (doneF hA 1 0 1 _ _ 1 [5] rfl rA (by decide)).mono ?_
  rw [done1.1, done1.2]
  rintro e w4 ⟨rfl, h4, k4⟩
  have H4 := hid h4
  have K4 : Hid (Keeps [] w w4) := hid (KA.out.trans' k4 (fun i hi hm => by have := HP.out; simp at hm; omega))
  clear ka hA rA h4 k4
  go_wp2_with fail
  refine (askF H4.out 1 0 2).mono ?_
  unfold AskPost
  rw [f3]
  rintro e w5 ⟨a5, n5, rfl, -, -, k5⟩
  have H5 := hid (H4.out.later k5)
  have K5 := hid (K4.out.trans k5)
  clear k5
  go_wp2_with fail
  refine (askF H5.out 1 2 1).mono ?_
  unfold AskPost
  rw [f4]
  rintro e w6 ⟨a6, n6, rfl, -, -, k6⟩
  have H6 := hid (H5.out.later k6)
  have K6 := hid (K5.out.trans k6)
  clear k6
  go_wp2_with fail
  refine (askF H6.out 1 0 0).mono ?_
  unfold AskPost
  rw [f5]
  rintro e w7 ⟨a7, n7, rfl, -, -, k7⟩
  have H7 := hid (H6.out.later k7)
  have K7 := hid (K6.out.trans k7)
  clear k7
  go_wp2_with fail
  refine (doneF H7.out 1 0 1 none 0 0 [] rfl (RowAt.nil w7) (by decide)).mono ?_
  rw [doneT_1, f6]
  rintro e w8 ⟨rfl, h8, k8⟩
  have H8 := hid h8
  have K8 : Hid (Keeps [] w w8) := hid (K7.out.trans' k8 (fun i hi hm => by have := HP.out; simp at hm; omega))
  clear h8 k8
  go_wp2_with fail
  refine (lifeF H8.out 1).mono ?_
  rw [F.out.1]
  rintro e _ ⟨rfl, rfl⟩
  go_wp2_with fail
  refine (lifeF H8.out 2).mono ?_
  rw [F.out.2]
  rintro e _ ⟨rfl, rfl⟩
  go_wp2_with fail
  go_ret
  exact ⟨rfl, K8.out⟩
end Go.Proofs.Ytkfebgbgnpdgpaa
