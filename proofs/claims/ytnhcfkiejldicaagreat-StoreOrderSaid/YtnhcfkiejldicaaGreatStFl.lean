/- store: on a living disk: what a Put of a new id and a Delete of one that is there leave; Room; a Put of one byte, whatever the id. -/
import Derived.Test.YtnhcfkiejldicaaGreatStMj
namespace Go.Proofs.YtnhcfkiejldicaaGreat
open Go.RowKit Go.Shelf
set_option maxRecDepth 100000
set_option linter.unusedSimpArgs false

theorem usedN_unset : ∀ (hs : List Hd) (i : Nat) (h : i < hs.length) (x : Hd), hs[i].used = true → x.used = false → usedN (hs.set i x) + 1 = usedN hs
  | a :: l, 0, _, x, h1, h2 => by
    have h1' : a.used = true := h1
    simp [usedN, h1', h2]
  | a :: l, i + 1, h, x, h1, h2 => by
    have ih := usedN_unset l i (by simpa using h) x (by simpa using h1) h2
    unfold usedN at ih ⊢
    rw [List.set_cons_succ, List.filter_cons, List.filter_cons]
    split
    · simp only [List.length_cons]; omega
    · exact ih
/-- A row that lies off the blocks of a store: it came in ahead of it, or it was made since. -/
def OffSt (w0 W0 : World) (bv : Value) (b : List Int) : Prop := ∀ ad n c, bv = .slice (some ad) n c → b ≠ [] → ad.block < w0.heap.size ∨ W0.heap.size ≤ ad.block
theorem OffSt.off {w0 W0 : World} {bv : Value} {b : List Int} (h : OffSt w0 W0 bv b) {t q p g m K : Nat} {hs : List Hd} {s : DS} {F : List Nat} {wh : Bool} {G : Idn → Option Nat} (S : StAt W0 t q p g m hs s F K wh G) (hF : ∀ b ∈ F, w0.heap.size ≤ b) : Off F bv b := fun ad n c e hne hm => by
  have h1 := hF _ hm
  have h2 := S.sl.dk.lt _ hm
  rcases h ad n c e hne with h | h <;> omega
theorem put_new_live (w0 W0 W : World) (t q p g m K : Nat) (hs : List Hd) (s : DS) (G : Idn → Option Nat) (L0 : LiveSt w0 W0 t q p g m K hs s G) (k0 : Keeps [] W0 W) (hK : K ≤ 1000000) (x : Idn) (bv : Value) (b : List Int) (hb : RowAt W bv b)
    (hlo : OffSt w0 W0 bv b) (hm : mayI x = true) (hl : b.length ≤ 448) (hg : G x = none) (hf : usedN hs < hs.length) :
    Calls Tryz.prog 9 #[.pointer (some ⟨t, 0, none⟩), idV x, bv] W fun e W' => ∃ i s', e = .returned (.int .i64 0) ∧ (∃ hi : i < hs.length, hs[i].used = false) ∧ LiveSt w0 W' t q p g m (K + 40) (hs.set i ⟨true, b.length, keyI x⟩) s' (setG G x (some i)) := by
  obtain ⟨F, wh, S0, hF⟩ := L0.st
  have S := S0.keep k0
  have L := L0.keep k0
  have hz := k0.size
  obtain ⟨ba, bc, rfl, -⟩ := id hb
  obtain ⟨i, hi, hu, hput⟩ := oPut_new W t q p g m hs s F K wh G S (by omega) x hm hg hf _ b hb (hlo.off S0 hF) hl
  have ok : Hd.Ok ⟨true, b.length, keyI x⟩ := ⟨by rw [keyI_len]; omega, keyI_byte x, hl, fun h => by cases h⟩
  have hpa := putS_alive L.al hs i hi hu L.fit (keyI x) b ok hb.bytes
  refine hput.mono ?_
  rintro e W' ⟨F', k, fr, ⟨rfl, hd, S'⟩ | ⟨_, hd, _⟩⟩
  · refine ⟨i, _, rfl, ⟨hi, hu⟩, ⟨F', wh, S', fun j hj => ?_⟩, L.gm, hpa.1, ?_, ?_, L.kp.trans' k (fun j hj hmm => ?_)⟩
    · rcases fr j hj with h | h
      · exact hF j h
      · have := L.kp.size; omega
    · rw [List.length_set, putS_cnt]; exact L.fit
    · intro y z j hy hz h1 h2
      by_cases ey : y = x
      · by_cases ez : z = x
        · rw [ey, ez]
        · simp only [setG, ey, if_true, if_neg ez] at h1 h2
          injection h1 with h1
          subst h1
          obtain ⟨hj, hju⟩ := S.at_ z i hz h2
          rw [hju] at hu; cases hu
      · by_cases ez : z = x
        · simp only [setG, ez, if_true, if_neg ey] at h1 h2
          injection h2 with h2
          subst h2
          obtain ⟨hj, hju⟩ := S.at_ y i hy h1
          rw [hju] at hu; cases hu
        · simp only [setG, if_neg ey, if_neg ez] at h1 h2
          exact L.inj y z j hy hz h1 h2
    · rcases List.mem_cons.1 hmm with h | hmm
      · have := L.gm; omega
      rcases List.mem_cons.1 hmm with h | hmm
      · have := L.gm; omega
      · have := hF j hmm; omega
  · rw [hpa.1.1] at hd; cases hd
theorem full_live {w0 W : World} {t q p g m K : Nat} {hs : List Hd} {s : DS} {G : Idn → Option Nat} (L : LiveSt w0 W t q p g m K hs s G) (x : Idn) (hm : mayI x = true) (a : Option Addr) (n c : Nat) (hl : n ≤ 448) (hg : G x = none) (hf : usedN hs = hs.length) :
    Calls Tryz.prog 9 #[.pointer (some ⟨t, 0, none⟩), idV x, .slice a n c] W fun e W' => e = .returned (.int .i64 5) ∧ Keeps [] W W' := by
  obtain ⟨F, wh, S, hF⟩ := L.st
  exact oPut_full W t q p g m hs s F K wh G S x hm hg hf a n c hl
theorem del_yes_live (w0 W : World) (t q p g m K : Nat) (hs : List Hd) (s : DS) (G : Idn → Option Nat) (L : LiveSt w0 W t q p g m K hs s G) (hK : K ≤ 1000000) (x : Idn) (hm : mayI x = true) (i : Nat) (hg : G x = some i) :
    Calls Tryz.prog 11 #[.pointer (some ⟨t, 0, none⟩), idV x] W fun e W' => e = .returned (.int .i64 0) ∧ (∃ hi : i < hs.length, hs[i].used = true) ∧ ∃ s', LiveSt w0 W' t q p g m (K + 40) (hs.set i hd0) s' (setG G x none) := by
  obtain ⟨F, wh, S, hF⟩ := L.st
  obtain ⟨hi, hu⟩ := S.at_ x i (mayI_In hm) hg
  have hal := (L.al.mark (1 + i * 8) hd0 ⟨by simp [hd0], by simp [hd0], by simp [hd0], fun _ => rfl⟩ (by have := L.fit; omega)).1
  refine (oDelete_yes W t q p g m hs s F K wh G S (by omega) x hm i hg (fun y hy hgy => L.inj y x i hy (mayI_In hm) hgy hg) L.al.1).mono ?_
  rintro e W' ⟨F', k, fr, ⟨rfl, hd, S'⟩ | ⟨_, hd, _⟩⟩
  · refine ⟨rfl, ⟨hi, hu⟩, _, ⟨F', wh, S', fun j hj => ?_⟩, L.gm, hal, ?_, ?_, L.kp.trans' k (fun j hj hmm => ?_)⟩
    · rcases fr j hj with h | h
      · exact hF j h
      · have := L.kp.size; omega
    · rw [List.length_set, markS_cnt]; exact L.fit
    · intro y z j hy hz h1 h2
      by_cases ey : y = x
      · simp [setG, ey] at h1
      · by_cases ez : z = x
        · simp [setG, ez] at h2
        · simp only [setG, if_neg ey, if_neg ez] at h1 h2
          exact L.inj y z j hy hz h1 h2
    · rcases List.mem_cons.1 hmm with h | hmm
      · have := L.gm; omega
      rcases List.mem_cons.1 hmm with h | hmm
      · have := L.gm; omega
      · have := hF j hmm; omega
  · rw [hal.1] at hd; cases hd
theorem room_live {w0 W : World} {t q p g m K : Nat} {hs : List Hd} {s : DS} {G : Idn → Option Nat} (L : LiveSt w0 W t q p g m K hs s G) :
    Calls Tryz.prog 8 #[.pointer (some ⟨t, 0, none⟩)] W fun e W' => e = .returned (.int .i64 ((hs.length : Int) - (usedN hs : Int))) ∧ Keeps [] W W' := by
  obtain ⟨F, wh, S, hF⟩ := L.st
  obtain ⟨f, mf, hf⟩ := S.mp
  have hv : ∀ y, y.In → f y ≠ vnil → ∃ a cap, f y = .slice a 1 cap := fun y hy hn => by
    rcases hf y hy with ⟨_, h⟩ | ⟨_, _, cap, _, _, h, _⟩
    · exact absurd h hn
    · exact ⟨_, cap, h⟩
  exact room_any6 W t p q m g wh S.blk hs S.sl.sl K _ f mf hv (usedN_le hs)
theorem get_yes_live {w0 W : World} {t q p g m K : Nat} {hs : List Hd} {s : DS} {G : Idn → Option Nat} (L : LiveSt w0 W t q p g m K hs s G) (x : Idn) (hm : mayI x = true) (i : Nat) (hg : G x = some i) :
    Calls Tryz.prog 15 #[.pointer (some ⟨t, 0, none⟩), idV x] W fun e W' => ∃ v bs, e = .returned (.tuple #[v, .int .i64 0]) ∧ RowAt W' v bs ∧ (∃ hi : i < hs.length, bs.length = hs[i].held) ∧ Keeps [] W W' := by
  obtain ⟨F, wh, S, hF⟩ := L.st
  obtain ⟨hi, hu⟩ := S.at_ x i (mayI_In hm) hg
  refine (oGet_yes W t q p g m hs s F K wh G S x hm i hg L.al.1 hi).mono ?_
  rintro e W' ⟨v, rfl, hr, -, k⟩
  refine ⟨v, _, rfl, hr, ⟨hi, ?_⟩, k⟩
  have h2 := (S.sl.sl.ok _ (List.getElem_mem hi)).held
  rw [getB, List.length_take, imageL_len]
  omega
/-- All that is there is of so many bytes. -/
def HeldAll (hs : List Hd) (G : Idn → Option Nat) (n : Nat) : Prop := ∀ y i, y.In → G y = some i → ∀ hi : i < hs.length, hs[i].held = n
/-- What a Put of some bytes leaves, whatever the id. -/
def PutAny (w0 : World) (t q p g m K : Nat) (hs : List Hd) (G : Idn → Option Nat) (x : Idn) (b : List Int) (e : Ending) (W' : World) : Prop :=
  ∃ (r : Int) (hs' : List Hd) (s' : DS) (G' : Idn → Option Nat), e = .returned (.int .i64 r) ∧ LiveSt w0 W' t q p g m K hs' s' G' ∧ hs'.length = hs.length ∧ usedN hs' ≤ usedN hs + 1 ∧ (∀ y, (G y).isSome = true → (G' y).isSome = true) ∧
    (mayI x = true → b.length ≤ 448 → usedN hs < hs.length → (G' x).isSome = true) ∧ (HeldAll hs G b.length → HeldAll hs' G' b.length)
theorem put_any_live (w0 W0 W : World) (t q p g m K : Nat) (hs : List Hd) (s : DS) (G : Idn → Option Nat) (L0 : LiveSt w0 W0 t q p g m K hs s G) (k0 : Keeps [] W0 W) (hK : K ≤ 1000000) (x : Idn) (bv : Value) (b : List Int) (hb : RowAt W bv b) (hlo : OffSt w0 W0 bv b) :
    Calls Tryz.prog 9 #[.pointer (some ⟨t, 0, none⟩), idV x, bv] W (PutAny w0 t q p g m (K + 40) hs G x b) := by
  have L := L0.keep k0
  obtain ⟨F, wh, S, hF⟩ := L.st
  obtain ⟨ba, bc, rfl, -⟩ := id hb
  have stay : ∀ r : Int, ((G x).isSome = true ∨ ¬ (mayI x = true ∧ b.length ≤ 448 ∧ usedN hs < hs.length)) → ∀ e W', e = .returned (.int .i64 r) ∧ Keeps [] W W' → PutAny w0 t q p g m (K + 40) hs G x b e W' := fun r hr e W' h =>
    ⟨r, hs, s, G, h.1, (L.keep h.2).mono (by omega), rfl, by omega, fun _ h => h, fun h1 h2 h3 => by
      rcases hr with h | h
      · exact h
      · exact absurd ⟨h1, h2, h3⟩ h, fun h => h⟩
  cases hm : mayI x with
  | false => exact (oPut_arg W t q p m wh S.blk x hm _).mono (stay 1 (Or.inr (by rw [hm]; simp)))
  | true =>
    by_cases hl : b.length ≤ 448
    · cases hg : G x with
      | some i =>
        obtain ⟨hi, hu⟩ := S.at_ x i (mayI_In hm) hg
        refine (oPut_there W t q p g m hs s F K wh G S x hm i hg L.al.1 hi _ rfl ?_ _ b hb hl).mono (stay _ (Or.inl (by rw [hg]; rfl)))
        rw [getB, List.length_take]
        have h2 := (S.sl.sl.ok _ (List.getElem_mem hi)).held
        omega
      | none =>
        by_cases hf : usedN hs < hs.length
        · refine (put_new_live w0 W0 W t q p g m K hs s G L0 k0 hK x _ b hb hlo hm hl hg hf).mono ?_
          rintro e W' ⟨i, s', rfl, ⟨hi, hu⟩, L'⟩
          refine ⟨0, _, s', _, rfl, L', by rw [List.length_set], by rw [usedN_set hs i hi _ hu rfl]; omega, fun y hy => ?_, fun _ _ _ => by simp [setG], fun ha y j hy hgy hj => ?_⟩
          · by_cases e : y = x
            · simp [setG, e]
            · simp only [setG, if_neg e]; exact hy
          · by_cases e : y = x
            · simp only [setG, e, if_true] at hgy
              injection hgy with hgy
              subst hgy
              simp
            · simp only [setG, if_neg e] at hgy
              have hj2 : j < hs.length := by rw [List.length_set] at hj; exact hj
              have hne : i ≠ j := fun ei => by
                subst ei
                obtain ⟨_, hju⟩ := S.at_ y i hy hgy
                rw [hju] at hu; cases hu
              rw [List.getElem_set_ne hne]
              exact ha y j hy hgy hj2
        · exact (oPut_full W t q p g m hs s F K wh G S x hm hg (by have := usedN_le hs; omega) ba b.length bc hl).mono (stay 5 (Or.inr (fun h => hf h.2.2)))
    · exact (oPut_long W t q p m wh S.blk x hm ba b.length bc (by omega)).mono (stay 3 (Or.inr (fun h => hl h.2.1)))
end Go.Proofs.YtnhcfkiejldicaaGreat
