/- Slots: what is asked of the heads that this one heard of: Used, Key, mayTake, Find, Free. -/
import Derived.Test.YtnhcfkiejldicaaGreatSlC
namespace Go.Proofs.YtnhcfkiejldicaaGreat
open Go.RowKit Go.Shelf

/-- The head of a slot; none's, where there is no such slot. -/
def headS (hs : List Hd) (i : Int) : Hd := if hasS hs i then hs.getD i.toNat hd0 else hd0
def usedS (hs : List Hd) (i : Int) : Bool := (headS hs i).used
theorem headS_at {hs : List Hd} {k : Nat} (h : k < hs.length) : headS hs (k : Int) = hs[k] := by
  unfold headS
  rw [if_pos (by simp [hasS, h])]
  simp [h]
theorem headS_no {hs : List Hd} {i : Int} (h : hasS hs i = false) : headS hs i = hd0 := by simp [headS, h]
theorem hasS_cases (hs : List Hd) (i : Int) : hasS hs i = false ∨ ∃ k : Nat, i = k ∧ k < hs.length ∧ hasS hs i = true := by
  cases h : hasS hs i with
  | false => exact .inl rfl
  | true =>
    right
    simp [hasS] at h
    obtain ⟨k, rfl⟩ := Int.eq_ofNat_of_zero_le h.1
    exact ⟨k, rfl, by omega, rfl⟩

section
variable (w : World) (q p g first : Nat) (hs : List Hd)
set_option maxHeartbeats 800000 in
theorem lUsed_any (S : SlotsAt w q p g first hs) (i : Int) : Calls Tryz.prog 56 #[.pointer (some ⟨q, 0, none⟩), .int .i64 i] w fun e w' => e = .returned (.bool (usedS hs i)) ∧ w = w' := by
  have HS := hid S
  have c2 := S.c2
  unfold usedS
  rcases hasS_cases hs i with hn | ⟨k, rfl, hk, ht⟩
  · rw [headS_no hn]
    have HN := hid hn
    clear hn S
    go_enter Tryz.func56, Tryz.ntmps56
    go_wp2_with fail
    refine (lHas_any w q p g first hs HS.out i).mono ?_
    rintro e w' ⟨rfl, rfl⟩
    rw [HN.out]
    go_wp2_with fail
    go_ret
    exact ⟨rfl, rfl⟩
  · rw [headS_at hk]
    have cu := S.u k hk
    have hlt : (k : Int) < (hs.length : Int) := by omega
    have HT := hid ht
    clear ht S
    generalize hs[k].used = b at cu ⊢
    go_enter Tryz.func56, Tryz.ntmps56
    go_wp2_with fail
    refine (lHas_any w q p g first hs HS.out k).mono ?_
    rintro e w' ⟨rfl, rfl⟩
    rw [HT.out]
    go_wp2_with fail
    go_ret
    exact ⟨rfl, rfl⟩

/-- Why nothing can be taken out of a slot. -/
def takeE (hs : List Hd) (i : Int) : Int := if hasS hs i then (if usedS hs i then 0 else 6) else 1
theorem lTake_any (S : SlotsAt w q p g first hs) (i : Int) : Calls Tryz.prog 61 #[.pointer (some ⟨q, 0, none⟩), .int .i64 i] w fun e w' => e = .returned (.int .i64 (takeE hs i)) ∧ w = w' := by
  have HS := hid S
  clear S
  obtain ⟨te, hte⟩ : ∃ x, x = takeE hs i := ⟨_, rfl⟩
  have HTE := hid hte
  rw [← hte]
  clear hte
  go_enter Tryz.func61, Tryz.ntmps61
  go_wp2_with fail
  refine (lMade_any w q p g first hs HS.out).mono ?_
  rintro e w' ⟨rfl, rfl⟩
  go_wp2_with fail
  refine (lHas_any w q p g first hs HS.out i).mono ?_
  rintro e w' ⟨rfl, rfl⟩
  cases hb : hasS hs i with
  | false =>
    have HB := hid hb
    clear hb
    go_wp2_with fail
    go_ret
    refine ⟨?_, rfl⟩
    rw [HTE.out, takeE, HB.out]
    rfl
  | true =>
    have HB := hid hb
    clear hb
    go_wp2_with fail
    refine (lUsed_any w q p g first hs HS.out i).mono ?_
    rintro e w' ⟨rfl, rfl⟩
    cases hu : usedS hs i with
    | false =>
      have HU := hid hu
      clear hu
      go_wp2_with fail
      go_ret
      refine ⟨?_, rfl⟩
      rw [HTE.out, takeE, HB.out, HU.out]
      rfl
    | true =>
      have HU := hid hu
      clear hu
      go_wp2_with fail
      go_ret
      refine ⟨?_, rfl⟩
      rw [HTE.out, takeE, HB.out, HU.out]
      rfl
end

/-! The first slot with such a head. -/
def idxS (pr : Hd → Bool) (hs : List Hd) : Int := match hs.findIdx? pr with | some i => i | none => -1
def freeS (hs : List Hd) : Int := idxS (fun h => !h.used) hs
def findS (hs : List Hd) (k : List Int) : Int := idxS (fun h => h.used && decide (h.key = k)) hs

theorem idxS_hit {pr : Hd → Bool} {hs : List Hd} {k : Nat} (hk : k < hs.length) (h0 : ∀ j (hj : j < k), pr (hs[j]'(by omega)) = false) (h1 : pr hs[k] = true) : idxS pr hs = k := by
  unfold idxS
  have : hs.findIdx? pr = some k := by
    rw [List.findIdx?_eq_some_iff_getElem]
    exact ⟨hk, h1, fun j hj => by simp [h0 j hj]⟩
  rw [this]
theorem idxS_miss {pr : Hd → Bool} {hs : List Hd} (h0 : ∀ j (hj : j < hs.length), pr hs[j] = false) : idxS pr hs = -1 := by
  unfold idxS
  have : hs.findIdx? pr = none := by
    rw [List.findIdx?_eq_none_iff]
    intro x hx
    obtain ⟨j, hj, rfl⟩ := List.getElem_of_mem hx
    exact h0 j hj
  rw [this]

theorem freeF_any (h : Hd) (w : World) : Calls Tryz.prog 53 #[hdV h] w fun e w' => e = .returned (.bool (!h.used)) ∧ Keeps [] w w' := by
  unfold hdV Hd.cells
  generalize h.used = b
  generalize h.held = n
  generalize strOfNums h.key = s
  go_enter Tryz.func53, Tryz.ntmps53
  go_wp2_with fail
  go_ret
  exact ⟨rfl, (Keeps.refl _ _).alloc _⟩

theorem strOf_inj {a b : List Int} (ha : ∀ z ∈ a, 0 ≤ z ∧ z ≤ 255) (hb : ∀ z ∈ b, 0 ≤ z ∧ z ≤ 255) : ((strOfNums a).toList == (strOfNums b).toList) = decide (a = b) := by
  by_cases h : a = b
  · subst h; simp
  · have : (strOfNums a).toList ≠ (strOfNums b).toList := fun e => h (by
      rw [ByteArray.toList_eq, ByteArray.toList_eq] at e
      rw [← codes_strOf a ha, ← codes_strOf b hb]
      unfold codes
      rw [e])
    simp [h, this]

set_option maxHeartbeats 1600000 in
theorem idxFree_any (w : World) (q p g first : Nat) (hs : List Hd) (S : SlotsAt w q p g first hs) :
    Calls Tryz.prog 84 #[.slice (some ⟨g, 0, none⟩) hs.length hs.length, .func (.func 53) #[] #[]] w fun e w' => e = .returned (.int .i64 (idxS (fun h => !h.used) hs)) ∧ Keeps [] w w' := by
  have HS := hid S
  have hfew := S.few
  clear S
  go_enter Tryz.func84, Tryz.ntmps84
  go_wp2_with fail
  go_loopw [8] (fun i wr => ∃ (k : Nat), k ≤ hs.length ∧ i = .int .i64 k ∧ Keeps [] w wr ∧ ∀ j (hj : j < k) (hj2 : j < hs.length), (fun h => !h.used) hs[j] = false) (fun i _ => hs.length - (intOf i).toNat)
  case atStart => exact ⟨0, by omega, rfl, Keeps.refl _ _, fun j hj => absurd hj (by omega)⟩
  case round =>
    obtain ⟨k, hk, rfl, q1, q2⟩ := hrel
    have Q1 := hid q1
    have Q2 := hid q2
    clear q1 q2
    by_cases hlt : k < hs.length
    · have hlt' : (k : Int) < (hs.length : Int) := by omega
      have hat := (HS.out.keep Q1.out (by simp) (by simp)).at_ k hlt
      have HOK := hid (HS.out.ok hs[k] (List.getElem_mem hlt))
      generalize hh : hs[k] = h at hat HOK
      have HH := hid hh
      clear hh
      go_wp2_with (first | (refine wpList_loadHd rfl _ rfl g (k * 3) (by first | rfl | go_simp) h hat ?_) | fail)
      refine (freeF_any h wr).mono ?_
      rintro e w2 ⟨rfl, k2⟩
      have K2 := hid (Q1.out.trans k2)
      clear k2
      generalize hp : (!h.used) = b
      have HP := hid hp
      clear hp hat
      cases b with
      | true =>
        go_wp2_with fail
        go_ret
        refine ⟨?_, K2.out⟩
        rw [idxS_hit (k := k) hlt (fun j hj => Q2.out j hj (by omega)) (by rw [HH.out]; exact HP.out)]
        rfl
      | false =>
        go_wp2_with fail
        go_roundw
        case rel =>
          refine ⟨k + 1, by omega, by go_num, K2.out, fun j hj hj2 => ?_⟩
          by_cases e : j = k
          · subst e; rw [HH.out]; exact HP.out
          · exact Q2.out j (by omega) hj2
        case measure => simp [intOf]; omega
    · have : k = hs.length := by omega
      subst this
      go_wp2_with fail
      go_ret
      refine ⟨?_, Q1.out⟩
      rw [idxS_miss (fun j hj => Q2.out j hj hj)]
      rfl

theorem leastFree_any (w : World) (q p g first : Nat) (hs : List Hd) (S : SlotsAt w q p g first hs) :
    Calls Tryz.prog 52 #[.pointer (some ⟨q, 0, none⟩), .func (.func 53) #[] #[]] w fun e w' => e = .returned (.int .i64 (idxS (fun h => !h.used) hs)) ∧ Keeps [] w w' := by
  have c2 := S.c2
  have HS := hid S
  clear S
  go_enter Tryz.func52, Tryz.ntmps52
  go_wp2_with fail
  refine (lMade_any w q p g first hs HS.out).mono ?_
  rintro e w' ⟨rfl, rfl⟩
  go_wp2_with fail
  refine (idxFree_any w q p g first hs HS.out).mono ?_
  rintro e w2 ⟨rfl, k2⟩
  have K2 := hid k2
  clear k2
  go_wp2_with fail
  go_ret
  exact ⟨rfl, K2.out⟩

theorem lFree_any (w : World) (q p g first : Nat) (hs : List Hd) (S : SlotsAt w q p g first hs) :
    Calls Tryz.prog 28 #[.pointer (some ⟨q, 0, none⟩)] w fun e w' => e = .returned (.int .i64 (freeS hs)) ∧ Keeps [] w w' := by
  have HS := hid S
  clear S
  go_enter Tryz.func28, Tryz.ntmps28
  go_wp2_with fail
  refine (leastFree_any w q p g first hs HS.out).mono ?_
  rintro e w2 ⟨rfl, k2⟩
  have K2 := hid k2
  clear k2
  go_wp2_with fail
  go_ret
  exact ⟨rfl, K2.out⟩

theorem str_size {zs : List Int} (h : ∀ z ∈ zs, 0 ≤ z ∧ z ≤ 255) : (strOfNums zs).size = zs.length := by
  rw [← codes_length, codes_strOf zs h]

/-- The bytes of a text, in new memory. -/
theorem conv_str (w : World) (zs : List Int) (h : ∀ z ∈ zs, 0 ≤ z ∧ z ≤ 255) (hl : zs.length ≤ 100000) :
    ∃ n w', (convert 9 22 (.string (strOfNums zs))).run Tryz.prog w = .ok (.slice (some ⟨w.heap.size, 0, none⟩) zs.length n) w' ∧ RowAt w' (.slice (some ⟨w.heap.size, 0, none⟩) zs.length n) zs ∧ Keeps [] w w' := by
  have hcv := run_bytes_of_string (P := Tryz.prog) w 9 22 5 (strOfNums zs) Tryz.underlying9 Tryz.underlying22 Tryz.underlying5
  have hs := str_size h
  have hc1 := grownCap_ge w (strOfNums zs).size 0 5
  have hc2 := grownCap_le_maxLen w (strOfNums zs).size 0 5 (by unfold maxLen; omega)
  have hrow := row_of_string w (strOfNums zs) (grownCap w (strOfNums zs).size 0 5) 5
  rw [hs, codes_strOf zs h] at hrow
  rw [hs] at hcv hc1 hc2
  exact ⟨_, _, hcv, (hrow _ hc1 hc2).keep (S := []) (Keeps.refl _ _).drew (by intro _ _ _ _ _; simp), ((Keeps.refl [] w).alloc _).drew⟩

set_option maxRecDepth 100000 in
set_option maxHeartbeats 800000 in
theorem lKey_any (w : World) (q p g first : Nat) (hs : List Hd) (S : SlotsAt w q p g first hs) (i : Int) :
    Calls Tryz.prog 79 #[.pointer (some ⟨q, 0, none⟩), .int .i64 i] w fun e w' => ∃ v, e = .returned v ∧ RowAt w' v (if usedS hs i then (headS hs i).key else []) ∧ NewV w v ∧ Keeps [] w w' := by
  have HS := hid S
  have c2 := S.c2
  cases hu : usedS hs i with
  | false =>
    have HU := hid hu
    clear hu S
    go_enter Tryz.func79, Tryz.ntmps79
    go_wp2_with fail
    refine (lUsed_any w q p g first hs HS.out i).mono ?_
    rintro e w' ⟨rfl, rfl⟩
    rw [HU.out]
    go_wp2_with fail
    go_ret
    exact ⟨_, rfl, RowAt.nil _, fun b hb => (by simp [Value.ownBlock] at hb), Keeps.refl _ _⟩
  | true =>
    have HU := hid hu
    rcases hasS_cases hs i with hn | ⟨k, rfl, hk, ht⟩
    · rw [usedS, headS_no hn] at hu; cases hu
    · have ck := S.k k hk
      have hok := S.ok _ (List.getElem_mem hk)
      rw [headS_at hk]
      generalize hs[k] = h at ck hok ⊢
      have hlt : (k : Int) < (hs.length : Int) := by omega
      obtain ⟨n, w2, cv, cr, ckk⟩ := conv_str w h.key hok.byte (by have := hok.key; omega)
      have CR := hid cr
      have CK := hid ckk
      clear hu ht S hok cr ckk
      go_enter Tryz.func79, Tryz.ntmps79
      go_wp2_with fail
      refine (lUsed_any w q p g first hs HS.out k).mono ?_
      rintro e w' ⟨rfl, rfl⟩
      rw [HU.out]
      go_wp2_with fail
      go_ret
      exact ⟨_, rfl, CR.out, fun b hb => (by simp [Value.ownBlock] at hb; omega), CK.out⟩
end Go.Proofs.YtnhcfkiejldicaaGreat
