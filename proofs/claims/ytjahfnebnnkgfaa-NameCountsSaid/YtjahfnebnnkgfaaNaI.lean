/- name: the laws' awake. -/
import Derived.Test.YtjahfnebnnkgfaaNaH
namespace Go.Proofs.Ytjahfnebnnkgfaa
open Go.RowKit

theorem two_lit (w : World) : SAt (w.alloc (.cells #[.string ⟨#[97]⟩, .string ⟨#[98, 99]⟩] 9)) (.slice (some ⟨w.heap.size, 0, none⟩) 2 2) [[97], [98, 99]] := by
  refine ⟨some ⟨w.heap.size, 0, none⟩, 2, rfl, by simp, by decide, by simp, ?_⟩
  rintro ad had j u hu
  obtain rfl := Option.some.inj had
  rw [Addr.add_lit, cell_of_row _ _ _ _ _ _ (heap_alloc_new w _), Nat.zero_add]
  match j, hu with
  | 0, hu => simp at hu; subst hu; rfl
  | 1, hu => simp at hu; subst hu; rfl
  | j + 2, hu => simp at hu

set_option maxHeartbeats 2000000 in
set_option maxRecDepth 100000 in
theorem awake9_any (w : World) : Calls Try.prog 8 #[] w fun e w' => e = .returned (.bool true) ∧ Keeps [] w w' := by
  have h1 : splitN (⟨#[47, 97, 47, 98, 99]⟩ : ByteArray).data.toList = some [[97], [98, 99]] := by decide
  have HS := hid (split_any ⟨#[47, 97, 47, 98, 99]⟩ w (by decide))
  have M1 := fun W => may_any ⟨#[97]⟩ W (by decide)
  have M2 := fun W => may_any ⟨#[46]⟩ W (by decide)
  have e1 : mayN (⟨#[97]⟩ : ByteArray).data.toList = true := by decide
  have e2 : mayN (⟨#[46]⟩ : ByteArray).data.toList = false := by decide
  rw [e1] at M1
  rw [e2] at M2
  have H1 := hid h1
  have HM1 := hid M1
  have HM2 := hid M2
  clear h1 M1 M2 e1 e2
  go_enter Try.func8, Try.ntmps8
  go_wp2_with (go_at_call 9; refine HS.out.mono ?_)
  intro e w1 hq
  obtain ⟨v, rfl, hv, hk⟩ := hq.some H1.out
  obtain ⟨a, c, rfl, hv'⟩ := id hv
  have V := hid hv
  have K := hid hk
  clear hv hk hq hv'
  go_wp2_with (first | (go_at_call 16; refine (texts_any _ _ _ _ _ (V.out.keep ((Keeps.refl [] _).alloc _)) (two_lit w1)).mono ?_; rintro e w2 ⟨rfl, n, rfl⟩) | (go_at_call_of 14 (Value.string ⟨#[97]⟩); refine (HM1.out _).mono ?_; rintro e w' ⟨rfl, rfl⟩) | (go_at_call 14; refine (HM2.out _).mono ?_; rintro e w' ⟨rfl, rfl⟩))
  go_ret
  exact ⟨rfl, ((K.out.alloc _).drewN _)⟩
end Go.Proofs.Ytjahfnebnnkgfaa
