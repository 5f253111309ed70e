/- TkY, TkN, TkZ. -/
import Derived.Test.YtjohikekhgcepaaTkU
import Derived.Test.YtjohikekhgcepaaTkM
import Derived.Deep.CutRange
/- tokens: the reference's Of, Busy, Close, Drop. -/
namespace Go.Proofs.Ytjohikekhgcepaa
open Go.RowKit Go.Shelf
set_option maxRecDepth 100000
set_option linter.unusedSimpArgs false
set_option linter.unusedVariables false

theorem two_retR {fn : Func} {p s : Tmp} (hr : fn.results = #[.cell p 62, .tmp s]) {tmps : Array Value} {w : World} {b : Nat} {x : Rk} {z : Value} (hp : tmps.getD p undef = .pointer (some ⟨b, 0, none⟩)) (hs : tmps.getD s undef = z) (hx : w.rangeAt b 0 x.cells) : (results fn tmps).run Try.prog w = .ok (.tuple #[rkV x, z]) w := by
  have hp' : tmps[p]?.getD undef = .pointer (some ⟨b, 0, none⟩) := by simpa using hp
  have hs' : tmps[s]?.getD undef = z := by simpa using hs
  have hv : (loadVar 62 ⟨b, 0, none⟩).run Try.prog w = .ok (rkV x) w := run_loadVar_mid w b 0 62 x.cells _ hx rRk.str rfl (by rw [rRk.size]; rfl)
  simp [results, hr, hp', hs', asAddr, hv, Result.andThen]
theorem any_none {p : Rk → Bool} {rs : List Rk} (h : ∀ j (hj : j < rs.length), p rs[j] = false) : rs.any p = false := by
  rw [List.any_eq_false]
  intro x hx
  obtain ⟨j, hj, rfl⟩ := List.mem_iff_getElem.1 hx
  rw [h j hj]; simp
set_option maxHeartbeats 12800000 in
theorem rOf_any {w : World} {B q : Nat} {rs : List Rk} (h : RTok w B q rs) (hf : rs.length ≤ 1000) (c hh : Int) : Calls Try.prog 27 #[.pointer (some ⟨q, 0, none⟩), .int .i64 c, .int .i64 hh] w (OfPost w rs c hh) := by
  have ka : Keeps [] w (w.alloc (.cells rZ.cells.toArray 62)) := (Keeps.refl [] w).alloc _
  obtain ⟨a, cp, T⟩ := h.later ka
  have HT := hid T
  obtain ⟨cq, fq⟩ := T.cell
  have K1 := hid ka
  have HW1 := hid (rfl : w.alloc (.cells rZ.cells.toArray 62) = w.alloc (.cells rZ.cells.toArray 62))
  clear h ka T fq
  go_enter Try.func27, Try.ntmps27
  go_wp2_with (first | (refine wpList_allocRk rRk rfl rfl ?_) | fail)
  go_loop [8] (fun iv => ∃ i : Nat, iv = .int .i64 (i : Int) ∧ i ≤ rs.length ∧ Hid (∀ j (hj : j < rs.length), j < i → atK c hh rs[j] = false)) (fun iv => rs.length - (intOf iv).toNat)
  case atStart => exact ⟨0, rfl, by omega, hid (fun j _ h => absurd h (Nat.not_lt_zero _))⟩
  case round =>
    obtain ⟨i, rfl, hi, HA⟩ := hrel
    by_cases hlt : i < rs.length
    · obtain ⟨g, off, e1, _, hcap, hg, hM, hr⟩ := HT.out.own.at.open (by omega)
      subst e1
      have R0 := range_rk hr i hlt
      obtain ⟨x, hx⟩ : ∃ x, x = rs[i]'hlt := ⟨_, rfl⟩
      rw [← hx] at R0
      have R := hid R0
      have HX := hid hx
      have HLT := hid hlt
      obtain ⟨d0, d1, d2, d3⟩ := rkrange_at R0
      obtain ⟨xc, xh, xn, xb⟩ := x
      simp only at d0 d1
      clear hr hcap hg hM R0 hx d2 d3
      by_cases hc : xc = c
      · have f1 : (xc == c) = true := by simp [hc]
        by_cases hk : xh = hh
        · have f2 : (xh == hh) = true := by simp [hk]
          have FD := hid (find_hit (p := atK c hh) HLT.out (by rw [← HX.out]; simp [atK, hc, hk]) (fun j hj hji => HA.out j hj hji))
          clear hc hk
          go_wp2_with (first | (refine wpList_loadRk rRk rfl _ rfl g (off + i * 4) (by simp [Act.eval]) ⟨xc, xh, xn, xb⟩ R.out ?_) | (refine wpList_newRk rRk rfl w _ _ rfl rfl rfl ⟨xc, xh, xn, xb⟩ rfl ?_; refine Hid.out ?_) | fail)
          refine hid ?_
          clear cq d0 d1
          go_wp2_with fail
          refine bodyPost_ret (two_retR (x := ⟨xc, xh, xn, xb⟩) rfl rfl rfl (rkrange_new w _ _)) rfl ?_
          have e1 : ofR rs c hh = ⟨xc, xh, xn, xb⟩ := by unfold ofR; rw [FD.out, ← HX.out]; rfl
          have e2 : rs.any (atK c hh) = true := List.any_eq_true.2 ⟨_, List.mem_of_find?_eq_some FD.out, List.find?_some FD.out⟩
          exact ⟨by rw [e1, e2]; rfl, (Keeps.refl [] w).alloc _⟩
        · have f2 : (xh == hh) = false := by simpa using hk
          have NO := hid (show atK c hh ⟨xc, xh, xn, xb⟩ = false by simp [atK]; omega)
          clear hc hk
          go_wp2_with fail
          go_round
          case rel =>
            refine ⟨i + 1, by go_num, by have := HLT.out; omega, hid (fun j hj hji => ?_)⟩
            by_cases e : j = i
            · subst e; rw [← HX.out]; exact NO.out
            · exact HA.out j hj (by omega)
          case measure => have := HLT.out; simp [intOf]; omega
      · have f1 : (xc == c) = false := by simpa using hc
        have NO := hid (show atK c hh ⟨xc, xh, xn, xb⟩ = false by simp [atK]; omega)
        clear hc
        go_wp2_with fail
        go_round
        case rel =>
          refine ⟨i + 1, by go_num, by have := HLT.out; omega, hid (fun j hj hji => ?_)⟩
          by_cases e : j = i
          · subst e; rw [← HX.out]; exact NO.out
          · exact HA.out j hj (by omega)
        case measure => have := HLT.out; simp [intOf]; omega
    · obtain rfl : i = rs.length := by omega
      have NA := hid (any_none (fun j hj => HA.out j hj hj))
      go_wp2_with (first | (refine wpList_is rfl _ _ (exec_rrz rfl) ?_) | (refine wpList_newRk rRk rfl w _ _ rfl rfl rfl rZ rfl ?_) | fail)
      refine bodyPost_ret (two_retR (x := rZ) rfl rfl rfl (rkrange_new w _ _)) rfl ?_
      have e1 : ofR rs c hh = rZ := by
        unfold ofR
        rw [List.find?_eq_none.2 (fun x hx => List.any_eq_false.1 NA.out x hx)]
        rfl
      exact ⟨by rw [e1, NA.out]; rfl, (Keeps.refl [] w).alloc _⟩
set_option maxHeartbeats 12800000 in
theorem rBusy_any {w : World} {B q : Nat} {rs : List Rk} (h : RTok w B q rs) (hf : rs.length ≤ 1000) (n : Int) : Calls Try.prog 32 #[.pointer (some ⟨q, 0, none⟩), .int .i64 n] w (PB w (rs.any (freeIno n))) := by
  obtain ⟨a, cp, T⟩ := h
  have HT := hid T
  obtain ⟨cq, fq⟩ := T.cell
  clear T fq
  go_enter Try.func32, Try.ntmps32
  go_wp2_with fail
  go_loop [5] (fun iv => ∃ i : Nat, iv = .int .i64 (i : Int) ∧ i ≤ rs.length ∧ Hid (∀ j (hj : j < rs.length), j < i → freeIno n rs[j] = false)) (fun iv => rs.length - (intOf iv).toNat)
  case atStart => exact ⟨0, rfl, by omega, hid (fun j _ h => absurd h (Nat.not_lt_zero _))⟩
  case round =>
    obtain ⟨i, rfl, hi, HA⟩ := hrel
    by_cases hlt : i < rs.length
    · obtain ⟨g, off, e1, _, hcap, hg, hM, hr⟩ := HT.out.own.at.open (by omega)
      subst e1
      have R0 := range_rk hr i hlt
      obtain ⟨x, hx⟩ : ∃ x, x = rs[i]'hlt := ⟨_, rfl⟩
      rw [← hx] at R0
      have HX := hid hx
      have HLT := hid hlt
      obtain ⟨d0, d1, d2, d3⟩ := rkrange_at R0
      obtain ⟨xc, xh, xn, xb⟩ := x
      simp only at d2
      clear hr hcap hg hM R0 hx d0 d1 d3
      by_cases hc : xn = n
      · have f1 : (xn == n) = true := by simp [hc]
        have YES := hid (show rs.any (freeIno n) = true from List.any_eq_true.2 ⟨_, List.getElem_mem HLT.out, by rw [← HX.out]; simp [freeIno, hc]⟩)
        clear hc
        go_wp2_with fail
        go_ret
        exact ⟨by rw [YES.out]; rfl, Keeps.refl _ _⟩
      · have f1 : (xn == n) = false := by simpa using hc
        have NO := hid (show freeIno n ⟨xc, xh, xn, xb⟩ = false by simp [freeIno, hc])
        clear hc
        go_wp2_with fail
        go_round
        case rel =>
          refine ⟨i + 1, by go_num, by have := HLT.out; omega, hid (fun j hj hji => ?_)⟩
          by_cases e : j = i
          · subst e; rw [← HX.out]; exact NO.out
          · exact HA.out j hj (by omega)
        case measure => have := HLT.out; simp [intOf]; omega
    · obtain rfl : i = rs.length := by omega
      have NA := hid (any_none (fun j hj => HA.out j hj hj))
      go_wp2_with fail
      go_ret
      exact ⟨by rw [NA.out]; rfl, Keeps.refl _ _⟩
theorem OwnK.weak {w : World} {B B2 : Nat} {T : TypeId} {v : Value} {ps : List Rk} (h : OwnK w B T [] v ps) (hb : B2 ≤ B) : OwnK w B2 T [] v ps := by
  refine ⟨⟨h.row.1, ?_⟩, by simp⟩
  rcases h.row.2 with e | ⟨g, cap, cur, e, hg, r⟩
  · exact Or.inl e
  · exact Or.inr ⟨g, cap, cur, e, Nat.le_trans hb hg, r⟩
theorem filter_take_succ (p : Rk → Bool) {rs : List Rk} {i : Nat} (h : i < rs.length) : (rs.take (i + 1)).filter p = (rs.take i).filter p ++ if p rs[i] then [rs[i]] else [] := by
  rw [List.take_succ_eq_append_getElem h, List.filter_append]
  cases hp : p rs[i] <;> simp [hp]
def RDropPost (w : World) (B q : Nat) (rs ms : List Rk) (e : Ending) (w' : World) : Prop :=
  e = .returned (.int .i64 ((rs.length : Int) - (ms.length : Int))) ∧ RTok w' B q ms ∧ Keeps [q] w w'
set_option maxHeartbeats 12800000 in
theorem rDrop_any {w : World} {B q : Nat} {rs : List Rk} (h : RTok w B q rs) (hB : B ≤ w.heap.size) (hf : rs.length ≤ 1000) (c : Int) : Calls Try.prog 24 #[.pointer (some ⟨q, 0, none⟩), .int .i64 c] w (RDropPost w B q rs (rs.filter (keepK (sameCl c)))) := by
  have HB := hid hB
  obtain ⟨ms, hms⟩ : ∃ z, z = rs.filter (keepK (sameCl c)) := ⟨_, rfl⟩
  have HMS := hid hms
  rw [← hms]
  clear hms
  obtain ⟨a, cp, T⟩ := h
  have HT := hid T
  clear T hB
  go_enter Try.func24, Try.ntmps24
  go_wp2_with fail
  go_loopw [5, 6] (fun lv iv wr => ∃ (i : Nat) (ao : Option Addr) (co m : Nat), iv = .int .i64 (i : Int) ∧ i ≤ rs.length ∧ m ≤ i ∧ lv = .slice ao m co ∧ Hid (m = ((rs.take i).filter (keepK (sameCl c))).length) ∧ Hid (OwnK wr w.heap.size 62 [] (.slice ao m co) ((rs.take i).filter (keepK (sameCl c)))) ∧ Hid (Keeps [] w wr)) (fun _ iv _ => rs.length - (intOf iv).toNat)
  case atStart => exact ⟨0, none, 0, 0, rfl, by omega, by omega, rfl, hid (by simp), hid (OwnK.nil _ _ _ _ (by simp)), hid (Keeps.refl _ _)⟩
  case round =>
    obtain ⟨i, ao, co, m, rfl, hi, hm, rfl, HM, HO, HK⟩ := hrel
    have TW := HT.out.later HK.out
    obtain ⟨cq, fq⟩ := TW.cell
    by_cases hlt : i < rs.length
    · obtain ⟨g, off, e1, _, hcap, hg, hMM, hr⟩ := TW.own.at.open (by omega)
      subst e1
      have R0 := range_rk hr i hlt
      obtain ⟨x, hx⟩ : ∃ x, x = rs[i]'hlt := ⟨_, rfl⟩
      rw [← hx] at R0
      have R := hid R0
      have HX := hid hx
      have HLT := hid hlt
      have FS := hid (filter_take_succ (keepK (sameCl c)) hlt)
      rw [← hx] at FS
      obtain ⟨d0, d1, d2, d3⟩ := rkrange_at R0
      obtain ⟨xc, xh, xn, xb⟩ := x
      simp only at d0
      by_cases hc : xc = c
      · have f1 : (xc != c) = false := by simp [hc]
        have FE := hid (show (rs.take (i + 1)).filter (keepK (sameCl c)) = (rs.take i).filter (keepK (sameCl c)) by rw [FS.out, if_neg (by simp [keepK, sameCl, hc])]; simp)
        clear hr hcap hg hMM R0 hx d1 d2 d3 hc fq TW
        go_wp2_with fail
        go_roundw
        case rel => exact ⟨i + 1, ao, co, m, by go_num, by have := HLT.out; omega, by omega, rfl, hid (by rw [FE.out]; exact HM.out), hid (by rw [FE.out]; exact HO.out), HK⟩
        case measure => have := HLT.out; simp [intOf]; omega
      · have f1 : (xc != c) = true := by simpa using hc
        have FE := hid (show (rs.take (i + 1)).filter (keepK (sameCl c)) = (rs.take i).filter (keepK (sameCl c)) ++ [⟨xc, xh, xn, xb⟩] by rw [FS.out, if_pos (by simp [keepK, sameCl, hc])])
        have ka : Keeps [] wr (wr.alloc (.cells (Rk.cells ⟨xc, xh, xn, xb⟩).toArray 62)) := (Keeps.refl [] wr).alloc _
        obtain ⟨a3, c3, w8, hr2, o2, k2, n2⟩ := append_rk rRk (HO.out.later ka) wr.heap.size ⟨xc, xh, xn, xb⟩ (rkrange_new wr _ _) (by rw [← HM.out]; omega) (by have := HK.out.size; have := ka.size; omega) 42
        rw [← HM.out] at hr2 o2
        have RUN := hid hr2
        have O2 := hid o2
        have K2 := hid ((HK.out.trans ka).trans' k2 (S := []) (fun j hj hm => by have := (HO.out.blk j (by simpa using hm)).1; omega))
        clear hr hcap hg hMM R0 hx d1 d2 d3 hc fq TW ka hr2 o2 k2 n2
        go_wp2_with (first | (refine wpList_loadRk rRk rfl _ rfl g (off + i * 4) (by simp [Act.eval]) ⟨xc, xh, xn, xb⟩ R.out ?_) | (refine wpList_is rfl _ _ (exec_oneRk rRk _ ⟨xc, xh, xn, xb⟩ rfl rfl) ?_) | (at_builtin; refine wpList_is rfl _ _ (exec_appendT 42 _ _ rfl rfl rfl RUN.out) ?_) | fail)
        go_roundw
        case rel => exact ⟨i + 1, a3, c3, m + 1, by go_num, by have := HLT.out; omega, by omega, rfl, hid (by rw [FE.out, List.length_append, ← HM.out]; rfl), hid (by rw [FE.out]; exact O2.out), K2⟩
        case measure => have := HLT.out; simp [intOf]; omega
    · obtain rfl : i = rs.length := by omega
      have o9 := HO.out
      have m9 := HM.out
      rw [List.take_length, ← HMS.out] at o9 m9
      subst m9
      have hne : (Value.slice ao ms.length co).ownBlock ≠ some q := fun e => by
        have := (o9.blk q e).1
        have := HT.out.lt
        omega
      have T9 := hid (TW.set (Keeps.refl [] wr) (by simp) (o9.weak HB.out) hne)
      have K9 := hid ((HK.out.mono (S' := [q]) (by simp)).trans (set_keep (b := q) (i := 0) (u := .slice ao ms.length co)))
      clear TW o9 hne
      go_wp2_with fail
      go_ret
      exact ⟨rfl, ⟨ao, co, T9.out⟩, K9.out⟩
def RClosePost (w : World) (B q : Nat) (ms : List Rk) (x : Int) (e : Ending) (w' : World) : Prop :=
  e = .returned (.int .i64 x) ∧ RTok w' B q ms ∧ Keeps [q] w w'
set_option maxHeartbeats 12800000 in
theorem rClose_any {w : World} {B q : Nat} {rs : List Rk} (h : RTok w B q rs) (hB : B ≤ w.heap.size) (hf : rs.length ≤ 1000) (c hh : Int) : Calls Try.prog 22 #[.pointer (some ⟨q, 0, none⟩), .int .i64 c, .int .i64 hh] w (RClosePost w B q (rs.filter (keepK (atK c hh))) (closeE rs c hh)) := by
  have HB := hid hB
  obtain ⟨ms, hms⟩ : ∃ z, z = rs.filter (keepK (atK c hh)) := ⟨_, rfl⟩
  have HMS := hid hms
  rw [← hms]
  clear hms
  have OF := hid (rOf_any h hf c hh)
  obtain ⟨a, cp, T⟩ := h
  have HT0 := hid T
  obtain ⟨bb, hbb⟩ : ∃ z, z = rs.any (atK c hh) := ⟨_, rfl⟩
  have HBB := hid hbb
  have CE := hid (show closeE rs c hh = if bb then 0 else 13 by unfold closeE; rw [hbb])
  clear T hB hbb
  go_enter Try.func22, Try.ntmps22
  go_wp2_with fail
  refine OF.out.mono ?_
  rintro e w1 ⟨rfl, k1⟩
  rw [← HBB.out]
  obtain ⟨y, hy⟩ : ∃ y, y = ofR rs c hh := ⟨_, rfl⟩
  rw [← hy]
  have ka : Keeps [] w (w1.alloc (.cells y.cells.toArray 62)) := k1.alloc _
  have HT := hid (HT0.out.later ka)
  have KA := hid ka
  have HB2 := hid (Nat.le_trans HB.out ka.size)
  clear hy k1 ka
  cases bb with
  | false =>
    have E0 := hid (show ms = rs from HMS.out.trans (filterK_none (fun x hx => by
      have := List.any_eq_false.1 HBB.out.symm x hx
      simpa using this)))
    go_wp2_with (first | (refine wpList_allocRk rRk rfl rfl ?_) | (refine wpList_newRk rRk rfl w1 _ _ rfl rfl rfl y rfl ?_) | fail)
    go_ret
    rw [E0.out]
    exact ⟨by rw [CE.out]; rfl, ⟨a, cp, HT.out⟩, KA.out.mono (by simp)⟩
  | true =>
  go_wp2_with (first | (refine wpList_allocRk rRk rfl rfl ?_) | (refine wpList_newRk rRk rfl w1 _ _ rfl rfl rfl y rfl ?_; refine Hid.out ?_) | fail)
  refine hid ?_
  generalize w1.alloc (.cells y.cells.toArray 62) = wA at HT KA HB2 ⊢
  go_wp2_with fail
  go_loopw [9, 10] (fun lv iv wr => ∃ (i : Nat) (ao : Option Addr) (co m : Nat), iv = .int .i64 (i : Int) ∧ i ≤ rs.length ∧ m ≤ i ∧ lv = .slice ao m co ∧ Hid (m = ((rs.take i).filter (keepK (atK c hh))).length) ∧ Hid (OwnK wr wA.heap.size 62 [] (.slice ao m co) ((rs.take i).filter (keepK (atK c hh)))) ∧ Hid (Keeps [] wA wr)) (fun _ iv _ => rs.length - (intOf iv).toNat)
  case atStart => exact ⟨0, none, 0, 0, rfl, by omega, by omega, rfl, hid (by simp), hid (OwnK.nil _ _ _ _ (by simp)), hid (Keeps.refl _ _)⟩
  case round =>
    obtain ⟨i, ao, co, m, rfl, hi, hm, rfl, HM, HO, HK⟩ := hrel
    have TW := HT.out.later HK.out
    obtain ⟨cq, fq⟩ := TW.cell
    by_cases hlt : i < rs.length
    · obtain ⟨g, off, e1, _, hcap, hg, hMM, hr⟩ := TW.own.at.open (by omega)
      subst e1
      have R0 := range_rk hr i hlt
      obtain ⟨x, hx⟩ : ∃ x, x = rs[i]'hlt := ⟨_, rfl⟩
      rw [← hx] at R0
      have R := hid R0
      have HX := hid hx
      have HLT := hid hlt
      have FS := hid (filter_take_succ (keepK (atK c hh)) hlt)
      rw [← hx] at FS
      obtain ⟨d0, d1, d2, d3⟩ := rkrange_at R0
      obtain ⟨xc, xh, xn, xb⟩ := x
      simp only at d0 d1
      by_cases hc : xc = c
      · have f1 : (xc != c) = false := by simp [hc]
        by_cases hk : xh = hh
        · have f2 : (xh != hh) = false := by simp [hk]
          have FE := hid (show (rs.take (i + 1)).filter (keepK (atK c hh)) = (rs.take i).filter (keepK (atK c hh)) by rw [FS.out, if_neg (by simp [keepK, atK, hc, hk])]; simp)
          clear hr hcap hg hMM R0 hx d2 d3 hc hk fq TW
          go_wp2_with fail
          go_roundw
          case rel => exact ⟨i + 1, ao, co, m, by go_num, by have := HLT.out; omega, by omega, rfl, hid (by rw [FE.out]; exact HM.out), hid (by rw [FE.out]; exact HO.out), HK⟩
          case measure => have := HLT.out; simp [intOf]; omega
        · have f2 : (xh != hh) = true := by simpa using hk
          have FE := hid (show (rs.take (i + 1)).filter (keepK (atK c hh)) = (rs.take i).filter (keepK (atK c hh)) ++ [⟨xc, xh, xn, xb⟩] by rw [FS.out, if_pos (by simp [keepK, atK]; omega)])
          have ka : Keeps [] wr (wr.alloc (.cells (Rk.cells ⟨xc, xh, xn, xb⟩).toArray 62)) := (Keeps.refl [] wr).alloc _
          obtain ⟨a3, c3, w8, hr2, o2, k2, n2⟩ := append_rk rRk (HO.out.later ka) wr.heap.size ⟨xc, xh, xn, xb⟩ (rkrange_new wr _ _) (by rw [← HM.out]; omega) (by have := HK.out.size; have := ka.size; omega) 42
          rw [← HM.out] at hr2 o2
          have RUN := hid hr2
          have O2 := hid o2
          have K2 := hid ((HK.out.trans ka).trans' k2 (S := []) (fun j hj hm => by have := (HO.out.blk j (by simpa using hm)).1; omega))
          clear hr hcap hg hMM R0 hx d2 d3 hc hk fq TW ka hr2 o2 k2 n2
          go_wp2_with (first | (refine wpList_loadRk rRk rfl _ rfl g (off + i * 4) (by simp [Act.eval]) ⟨xc, xh, xn, xb⟩ R.out ?_) | (refine wpList_is rfl _ _ (exec_oneRk rRk _ ⟨xc, xh, xn, xb⟩ rfl rfl) ?_) | (at_builtin; refine wpList_is rfl _ _ (exec_appendT 42 _ _ rfl rfl rfl RUN.out) ?_) | fail)
          go_roundw
          case rel => exact ⟨i + 1, a3, c3, m + 1, by go_num, by have := HLT.out; omega, by omega, rfl, hid (by rw [FE.out, List.length_append, ← HM.out]; rfl), hid (by rw [FE.out]; exact O2.out), K2⟩
          case measure => have := HLT.out; simp [intOf]; omega
      · have f1 : (xc != c) = true := by simpa using hc
        have FE := hid (show (rs.take (i + 1)).filter (keepK (atK c hh)) = (rs.take i).filter (keepK (atK c hh)) ++ [⟨xc, xh, xn, xb⟩] by rw [FS.out, if_pos (by simp [keepK, atK]; omega)])
        have ka : Keeps [] wr (wr.alloc (.cells (Rk.cells ⟨xc, xh, xn, xb⟩).toArray 62)) := (Keeps.refl [] wr).alloc _
        obtain ⟨a3, c3, w8, hr2, o2, k2, n2⟩ := append_rk rRk (HO.out.later ka) wr.heap.size ⟨xc, xh, xn, xb⟩ (rkrange_new wr _ _) (by rw [← HM.out]; omega) (by have := HK.out.size; have := ka.size; omega) 42
        rw [← HM.out] at hr2 o2
        have RUN := hid hr2
        have O2 := hid o2
        have K2 := hid ((HK.out.trans ka).trans' k2 (S := []) (fun j hj hm => by have := (HO.out.blk j (by simpa using hm)).1; omega))
        clear hr hcap hg hMM R0 hx d1 d2 d3 hc fq TW ka hr2 o2 k2 n2
        go_wp2_with (first | (refine wpList_loadRk rRk rfl _ rfl g (off + i * 4) (by simp [Act.eval]) ⟨xc, xh, xn, xb⟩ R.out ?_) | (refine wpList_is rfl _ _ (exec_oneRk rRk _ ⟨xc, xh, xn, xb⟩ rfl rfl) ?_) | (at_builtin; refine wpList_is rfl _ _ (exec_appendT 42 _ _ rfl rfl rfl RUN.out) ?_) | fail)
        go_roundw
        case rel => exact ⟨i + 1, a3, c3, m + 1, by go_num, by have := HLT.out; omega, by omega, rfl, hid (by rw [FE.out, List.length_append, ← HM.out]; rfl), hid (by rw [FE.out]; exact O2.out), K2⟩
        case measure => have := HLT.out; simp [intOf]; omega
    · obtain rfl : i = rs.length := by omega
      have o9 := HO.out
      have m9 := HM.out
      rw [List.take_length, ← HMS.out] at o9 m9
      subst m9
      have hne : (Value.slice ao ms.length co).ownBlock ≠ some q := fun e => by
        have := (o9.blk q e).1
        have := HT.out.lt
        omega
      have T9 := hid (TW.set (Keeps.refl [] wr) (by simp) (o9.weak HB2.out) hne)
      have K9 := hid (((KA.out.trans HK.out).mono (S' := [q]) (by simp)).trans (set_keep (b := q) (i := 0) (u := .slice ao ms.length co)))
      clear TW o9 hne
      go_wp2_with fail
      go_ret
      exact ⟨by rw [CE.out]; rfl, ⟨ao, co, T9.out⟩, K9.out⟩
end Go.Proofs.Ytjohikekhgcepaa


/- tokens: the plain mathematics of TokensLeast. -/
namespace Go.Proofs.Ytjohikekhgcepaa
open Go.RowKit Go.Shelf
set_option maxRecDepth 100000
set_option linter.unusedSimpArgs false
set_option linter.unusedVariables false

def cnt4 (f : Int → Bool) : Nat := (if f 0 then 1 else 0) + (if f 1 then 1 else 0) + (if f 2 then 1 else 0) + (if f 3 then 1 else 0)
theorem nodup_cnt : ∀ (l : List Int), l.Nodup → (∀ x ∈ l, 0 ≤ x ∧ x ≤ 3) → l.length = cnt4 (fun j => decide (j ∈ l))
  | [], _, _ => rfl
  | x :: r, hn, hb => by
    rw [List.nodup_cons] at hn
    have ih := nodup_cnt r hn.2 (fun y hy => hb y (by simp [hy]))
    have hx := hb x (by simp)
    have hx4 : x = 0 ∨ x = 1 ∨ x = 2 ∨ x = 3 := by omega
    have hnx := hn.1
    rw [List.length_cons, ih]
    unfold cnt4
    rcases hx4 with rfl | rfl | rfl | rfl <;> simp [hnx] <;> omega
theorem GoodK.cnt {rs : List Rk} (h : GoodK rs) (c : Int) : (rs.filter (sameCl c)).length = cnt4 (fun j => rs.any (atK c j)) := by
  have h2 := h.filter (sameCl c)
  have hs : ∀ x ∈ rs.filter (sameCl c), x.c = c := fun x hx => by
    have := (List.mem_filter.1 hx).2
    simpa [sameCl] using this
  have e := nodup_cnt ((rs.filter (sameCl c)).map (·.h)) (by
    unfold List.Nodup
    rw [List.pairwise_map]
    refine h2.pw.imp_of_mem fun {x y} hx hy hxy => ?_
    have h1 := aheadK_is.1 hxy.1
    have := hs x hx
    have := hs y hy
    omega) (fun z hz => by
    obtain ⟨x, hx, rfl⟩ := List.mem_map.1 hz
    have := h2.may x hx
    unfold mayK at this
    simp only [Bool.and_eq_true, btwK_is] at this
    omega)
  rw [List.length_map] at e
  rw [e]
  congr 1
  funext j
  rw [Bool.eq_iff_iff]
  simp only [decide_eq_true_eq, List.mem_map, List.mem_filter, List.any_eq_true, atK_is, sameCl]
  constructor
  · rintro ⟨x, ⟨hx, hc⟩, rfl⟩
    exact ⟨x, hx, hc.symm, rfl⟩
  · rintro ⟨x, hx, hc, hj⟩
    exact ⟨x, ⟨hx, hc.symm⟩, hj.symm⟩
/-- The state of TokensLeast: c has the handles that bs tells, o has one. -/
structure LsK (c o : Int) (rs : List Rk) (bs : List Bool) : Prop where
  good : GoodK rs
  oth : rs.filter (keepK (sameCl c)) = [⟨o, 0, 9, false⟩]
  has : ∀ j : Nat, j < 4 → rs.any (atK c (j : Int)) = bs.getD j false
  five : ∀ x ∈ rs, x.b = false ∧ (x.n = 5 → x.c = c)
  len : bs.length = 4
theorem any_ins (p : Rk → Bool) (r : Rk) (rs : List Rk) : (insK r rs).any p = (p r || rs.any p) := by
  unfold insK
  simp only [List.any_append, List.any_cons, List.any_nil, Bool.or_false]
  have : rs.any p = ((rs.take (posK r rs)).any p || (rs.drop (posK r rs)).any p) := by rw [← List.any_append, List.take_append_drop]
  rw [this]
  cases (rs.take (posK r rs)).any p <;> cases p r <;> simp
theorem filter_ins {p : Rk → Bool} {r : Rk} (h : p r = false) (rs : List Rk) : (insK r rs).filter p = rs.filter p := by
  unfold insK
  rw [List.filter_append, List.filter_append, List.filter_cons, if_neg (by simp [h]), List.filter_nil, List.append_nil, ← List.filter_append, List.take_append_drop]
theorem mem_ins {r x : Rk} {rs : List Rk} (h : x ∈ insK r rs) : x = r ∨ x ∈ rs := by
  unfold insK at h
  rcases List.mem_append.1 h with h | h
  · rcases List.mem_append.1 h with h | h
    · exact Or.inr (List.mem_of_mem_take h)
    · exact Or.inl (List.mem_singleton.1 h)
  · exact Or.inr (List.mem_of_mem_drop h)
theorem LsK.noclash {c o : Int} {rs : List Rk} {bs : List Bool} (h : LsK c o rs bs) (k n : Int) : rs.any (clashK ⟨c, k, n, false⟩) = false := by
  rw [List.any_eq_false]
  intro x hx
  unfold clashK
  simp [(h.five x hx).1]
/-- Which handle is wanted: the least from m on that is free. -/
def wantK (bs : List Bool) (m : Nat) : Int := match (List.range' m (4 - m)).find? (fun j => !bs.getD j false) with | some j => (j : Int) | none => -1
theorem wantK_end (bs : List Bool) : wantK bs 4 = -1 := rfl
theorem wantK_step (bs : List Bool) (m : Nat) (hm : m < 4) : wantK bs m = if bs.getD m false then wantK bs (m + 1) else (m : Int) := by
  unfold wantK
  rw [show 4 - m = (4 - (m + 1)) + 1 by omega, List.range'_succ, List.find?_cons]
  cases bs.getD m false <;> rfl
theorem LsK.want {c o : Int} {rs : List Rk} {bs : List Bool} (h : LsK c o rs bs) : (∃ k : Nat, k < 4 ∧ leastK rs c = some k ∧ wantK bs 0 = (k : Int) ∧ bs.getD k false = false) ∨ (leastK rs c = none ∧ wantK bs 0 = -1) := by
  have e : leastK rs c = (List.range' 0 4).find? (fun j => !bs.getD j false) := by
    unfold leastK
    rw [show List.range 4 = [0, 1, 2, 3] from rfl, show List.range' 0 4 = [0, 1, 2, 3] from rfl]
    simp only [List.find?_cons, h.has 0 (by omega), h.has 1 (by omega), h.has 2 (by omega), h.has 3 (by omega), List.find?_nil]
  unfold wantK
  rw [show 4 - 0 = 4 from rfl, ← e]
  cases hl : leastK rs c with
  | none => exact Or.inr ⟨rfl, rfl⟩
  | some k =>
    obtain ⟨h4, hk⟩ := leastK_is hl
    exact Or.inl ⟨k, h4, rfl, rfl, by rw [← h.has k h4]; exact hk⟩
theorem LsK.open {c o : Int} {rs : List Rk} {bs : List Bool} (h : LsK c o rs bs) (hc : 0 ≤ c ∧ c ≤ 3) {k : Nat} (hl : leastK rs c = some k) (hk : k < 4) :
    openK rs c 5 false = (((k : Int), 0), insK ⟨c, (k : Int), 5, false⟩ rs) ∧ LsK c o (insK ⟨c, (k : Int), 5, false⟩ rs) (bs.set k true) := by
  have hm : mayK ⟨c, 0, 5, false⟩ = true := by unfold mayK; simp [btwK]; omega
  have e : openK rs c 5 false = (((k : Int), 0), insK ⟨c, (k : Int), 5, false⟩ rs) := by
    unfold openK
    rw [if_pos hm, hl]
    simp only [h.noclash]
    rfl
  have g := h.good.open c 5 false
  rw [e] at g
  refine ⟨e, g, ?_, ?_, ?_, by rw [List.length_set]; exact h.len⟩
  · rw [filter_ins (by simp [keepK, sameCl])]
    exact h.oth
  · intro j hj
    rw [any_ins, h.has j hj]
    have hlen := h.len
    by_cases hjk : j = k
    · subst hjk
      simp [atK, List.getD_eq_getElem?_getD, List.getElem?_set, hlen, hk]
    · have : atK c (j : Int) ⟨c, (k : Int), 5, false⟩ = false := by simp [atK]; omega
      rw [this, Bool.false_or, List.getD_eq_getElem?_getD, List.getD_eq_getElem?_getD, List.getElem?_set_ne (fun e => hjk e.symm)]
  · intro x hx
    rcases mem_ins hx with rfl | hx
    · exact ⟨rfl, fun _ => rfl⟩
    · exact h.five x hx
theorem LsK.full {c o : Int} {rs : List Rk} {bs : List Bool} (h : LsK c o rs bs) (hc : 0 ≤ c ∧ c ≤ 3) (hl : leastK rs c = none) : openK rs c 5 false = ((0, 5), rs) := by
  have hm : mayK ⟨c, 0, 5, false⟩ = true := by unfold mayK; simp [btwK]; omega
  unfold openK
  rw [if_pos hm, hl]
theorem LsK.close {c o : Int} {rs : List Rk} {bs : List Bool} (h : LsK c o rs bs) (hco : c ≠ o) {k : Nat} (hk : k < 4) :
    closeE rs c (k : Int) = (if bs.getD k false then 0 else 13) ∧ LsK c o (rs.filter (keepK (atK c (k : Int)))) (bs.set k false) := by
  refine ⟨by unfold closeE; rw [h.has k hk], h.good.filter _, ?_, ?_, fun x hx => h.five x (List.mem_filter.1 hx).1, by rw [List.length_set]; exact h.len⟩
  · rw [List.filter_filter, ← h.oth]
    apply List.filter_congr
    intro x hx
    unfold keepK sameCl atK
    by_cases e : x.c = c
    · simp [e]
    · simp [e]; exact Or.inl (fun e2 => e e2.symm)
  · intro j hj
    have hlen := h.len
    by_cases hjk : j = k
    · subst hjk
      have : (rs.filter (keepK (atK c (j : Int)))).any (atK c (j : Int)) = false := by
        rw [List.any_eq_false]
        intro x hx
        have := (List.mem_filter.1 hx).2
        unfold keepK at this
        simpa using this
      rw [this]
      simp [List.getD_eq_getElem?_getD, List.getElem?_set, hlen, hk]
    · have e1 : (rs.filter (keepK (atK c (k : Int)))).any (atK c (j : Int)) = rs.any (atK c (j : Int)) := by
        rw [List.any_filter]
        congr 1
        funext x
        unfold keepK
        cases hq : atK c (j : Int) x with
        | false => simp
        | true =>
          have h1 := atK_is.1 hq
          have : atK c (k : Int) x = false := by
            cases hz : atK c (k : Int) x with
            | false => rfl
            | true => have h2 := atK_is.1 hz; omega
          rw [this]; rfl
      rw [e1, h.has j hj, List.getD_eq_getElem?_getD, List.getD_eq_getElem?_getD, List.getElem?_set_ne (fun e => hjk e.symm)]
theorem LsK.other {c o : Int} {rs : List Rk} {bs : List Bool} (h : LsK c o rs bs) (hco : c ≠ o) : ofR rs o 0 = ⟨o, 0, 9, false⟩ ∧ rs.any (atK o 0) = true := by
  have hm : (⟨o, 0, 9, false⟩ : Rk) ∈ rs := by
    have : (⟨o, 0, 9, false⟩ : Rk) ∈ rs.filter (keepK (sameCl c)) := by rw [h.oth]; simp
    exact (List.mem_filter.1 this).1
  have ha : rs.any (atK o 0) = true := List.any_eq_true.2 ⟨_, hm, by simp [atK]⟩
  refine ⟨?_, ha⟩
  unfold ofR
  cases hf : rs.find? (atK o 0) with
  | none =>
    rw [List.find?_eq_none] at hf
    exact absurd (by simp [atK]) (hf _ hm)
  | some x =>
    have hx := List.mem_of_find?_eq_some hf
    have hp := atK_is.1 (List.find?_some hf)
    have : x ∈ rs.filter (keepK (sameCl c)) := List.mem_filter.2 ⟨hx, by unfold keepK sameCl; simp; omega⟩
    rw [h.oth] at this
    rw [List.mem_singleton.1 this]
    rfl
theorem LsK.busy {c o : Int} {rs : List Rk} {bs : List Bool} (h : LsK c o rs bs) (ho : (⟨o, 0, 9, false⟩ : Rk).n ≠ 5) : (rs.filter (keepK (sameCl c))).any (freeIno 5) = false := by
  rw [h.oth]; rfl
/-- How many handles there are. -/
def cntB (bs : List Bool) (k : Nat) : Nat := ((bs.take k).filter id).length
theorem cntB_succ {bs : List Bool} {k : Nat} (hk : k < bs.length) : cntB bs (k + 1) = cntB bs k + if bs.getD k false then 1 else 0 := by
  unfold cntB
  rw [List.take_succ_eq_append_getElem hk, List.filter_append, List.length_append, List.getD_eq_getElem?_getD, List.getElem?_eq_getElem hk]
  congr 1
  cases h : bs[k] <;> simp [h]
theorem split_len (p : Rk → Bool) : ∀ rs : List Rk, rs.length = (rs.filter p).length + (rs.filter (keepK p)).length
  | [] => rfl
  | x :: r => by
    have ih := split_len p r
    cases h : p x
    · have hk : keepK p x = true := by unfold keepK; rw [h]; rfl
      rw [List.filter_cons, if_neg (by simp [h]), List.filter_cons, if_pos hk, List.length_cons, List.length_cons]; omega
    · have hk : keepK p x = false := by unfold keepK; rw [h]; rfl
      rw [List.filter_cons, if_pos h, List.filter_cons, if_neg (by simp [hk]), List.length_cons, List.length_cons]; omega
theorem LsK.cnt {c o : Int} {rs : List Rk} {bs : List Bool} (h : LsK c o rs bs) : (rs.length : Int) - ((rs.filter (keepK (sameCl c))).length : Int) = (cntB bs 4 : Nat) := by
  have e1 := h.good.cnt c
  have e2 : rs.length = (rs.filter (sameCl c)).length + (rs.filter (keepK (sameCl c))).length := by
    exact split_len (sameCl c) rs
  have e3 : cnt4 (fun j => rs.any (atK c j)) = cntB bs 4 := by
    have l := h.len
    have s0 := cntB_succ (bs := bs) (k := 0) (by omega)
    have s1 := cntB_succ (bs := bs) (k := 1) (by omega)
    have s2 := cntB_succ (bs := bs) (k := 2) (by omega)
    have s3 := cntB_succ (bs := bs) (k := 3) (by omega)
    simp only [Nat.zero_add, Nat.reduceAdd] at s0 s1 s2 s3
    rw [s3, s2, s1, s0]
    unfold cnt4
    simp only []
    have h0 := h.has 0 (by omega)
    have h1 := h.has 1 (by omega)
    have h2 := h.has 2 (by omega)
    have h3 := h.has 3 (by omega)
    simp only [Int.natCast_zero] at h0
    have q0 : rs.any (atK c 0) = bs.getD 0 false := h0
    have q1 : rs.any (atK c 1) = bs.getD 1 false := h1
    have q2 : rs.any (atK c 2) = bs.getD 2 false := h2
    have q3 : rs.any (atK c 3) = bs.getD 3 false := h3
    have z : cntB bs 0 = 0 := by simp [cntB]
    rw [z, Nat.zero_add]
    congr 1
    · congr 1
      · congr 1
        · cases hb : bs.getD 0 false <;> rw [hb] at q0 <;> simp [q0]
        · cases hb : bs.getD 1 false <;> rw [hb] at q1 <;> simp [q1]
      · cases hb : bs.getD 2 false <;> rw [hb] at q2 <;> simp [q2]
    · cases hb : bs.getD 3 false <;> rw [hb] at q3 <;> simp [q3]
  omega
end Go.Proofs.Ytjohikekhgcepaa


/- tokens: the reference's Open. -/
namespace Go.Proofs.Ytjohikekhgcepaa
open Go.RowKit Go.Shelf
set_option maxRecDepth 100000
set_option linter.unusedSimpArgs false
set_option linter.unusedVariables false

/-- The handle that the reference has found behind i rows. -/
def hstep (c : Int) (h : Nat) (x : Rk) : Nat := if x.c = c ∧ x.h = (h : Int) then h + 1 else h
def hK (rs : List Rk) (c : Int) (i : Nat) : Nat := (rs.take i).foldl (hstep c) 0
theorem hK_succ {rs : List Rk} {c : Int} {i : Nat} (h : i < rs.length) : hK rs c (i + 1) = hstep c (hK rs c i) rs[i] := by
  unfold hK
  rw [List.take_succ_eq_append_getElem h, List.foldl_append]
  rfl
theorem hK_le (rs : List Rk) (c : Int) : ∀ i, i ≤ rs.length → hK rs c i ≤ i
  | 0, _ => by simp [hK]
  | i + 1, h => by
    have := hK_le rs c i (by omega)
    rw [hK_succ (by omega)]
    unfold hstep
    split <;> omega
theorem hK_inv {rs : List Rk} (g : GoodK rs) (c : Int) : ∀ i, i ≤ rs.length → (∀ j : Nat, j < hK rs c i → (rs.take i).any (atK c (j : Int)) = true) ∧ (rs.take i).any (atK c (hK rs c i : Int)) = false
  | 0, _ => ⟨fun j hj => absurd hj (by simp [hK]), by simp⟩
  | i + 1, h => by
    obtain ⟨h1, h2⟩ := hK_inv g c i (by omega)
    have hi : i < rs.length := by omega
    have hlt : ∀ x ∈ rs.take i, aheadK x rs[i] = true := fun x hx => by
      obtain ⟨j, hj, rfl⟩ := List.mem_iff_getElem.1 hx
      rw [List.length_take] at hj
      rw [List.getElem_take]
      exact ((List.pairwise_iff_getElem.1 g.pw) j i (by omega) hi (by omega)).1
    rw [hK_succ hi]
    unfold hstep
    by_cases hc : rs[i].c = c ∧ rs[i].h = (hK rs c i : Int)
    · rw [if_pos hc]
      refine ⟨fun j hj => ?_, ?_⟩
      · rw [any_take_succ _ hi]
        by_cases e : j = hK rs c i
        · have : atK c (j : Int) rs[i] = true := atK_is.2 ⟨hc.1.symm, by rw [hc.2, e]⟩
          rw [this]; simp
        · rw [h1 j (by omega)]; rfl
      · rw [any_take_succ _ hi, List.any_eq_false.2 (fun x hx hq => by
          have a1 := aheadK_is.1 (hlt x hx)
          have a2 := atK_is.1 hq
          omega)]
        have : atK c (((hK rs c i + 1 : Nat)) : Int) rs[i] = false := by
          cases hq : atK c (((hK rs c i + 1 : Nat)) : Int) rs[i] with
          | false => rfl
          | true => have a2 := atK_is.1 hq; omega
        rw [this]; rfl
    · rw [if_neg hc]
      refine ⟨fun j hj => ?_, ?_⟩
      · rw [any_take_succ _ hi, h1 j hj]; rfl
      · rw [any_take_succ _ hi, h2]
        have : atK c (hK rs c i : Int) rs[i] = false := by
          cases hq : atK c (hK rs c i : Int) rs[i] with
          | false => rfl
          | true => have a2 := atK_is.1 hq; exact absurd ⟨a2.1.symm, a2.2.symm⟩ hc
        rw [this]; rfl
/-- What the reference has counted tells whether there is a handle, and which. -/
theorem least_ref {rs : List Rk} (g : GoodK rs) (c : Int) : (4 ≤ mineK rs c rs.length ∧ leastK rs c = none) ∨ (mineK rs c rs.length < 4 ∧ leastK rs c = some (hK rs c rs.length) ∧ hK rs c rs.length < 4) := by
  obtain ⟨h1, h2⟩ := hK_inv g c rs.length (Nat.le_refl _)
  rw [List.take_length] at h1 h2
  have hc := g.cnt c
  have em : mineK rs c rs.length = cnt4 (fun j => rs.any (atK c j)) := by unfold mineK; rw [List.take_length]; exact hc
  rw [em]
  unfold cnt4
  simp only []
  by_cases hk : hK rs c rs.length < 4
  · right
    refine ⟨?_, leastK_some hk h2 h1, hk⟩
    generalize hK rs c rs.length = k at *
    have hk' : k = 0 ∨ k = 1 ∨ k = 2 ∨ k = 3 := by omega
    rcases hk' with rfl | rfl | rfl | rfl
    · have q : rs.any (atK c 0) = false := h2
      simp only [q]; simp; split <;> split <;> split <;> omega
    · have q : rs.any (atK c 1) = false := h2
      simp only [q]; simp; split <;> split <;> split <;> omega
    · have q : rs.any (atK c 2) = false := h2
      simp only [q]; simp; split <;> split <;> split <;> omega
    · have q : rs.any (atK c 3) = false := h2
      simp only [q]; simp; split <;> split <;> split <;> omega
  · left
    have q0 : rs.any (atK c 0) = true := h1 0 (by omega)
    have q1 : rs.any (atK c 1) = true := h1 1 (by omega)
    have q2 : rs.any (atK c 2) = true := h1 2 (by omega)
    have q3 : rs.any (atK c 3) = true := h1 3 (by omega)
    refine ⟨by simp only [q0, q1, q2, q3]; decide, leastK_none (fun j hj => h1 j (by omega))⟩
theorem clashK_h (c h h2 n : Int) (b : Bool) (x : Rk) : clashK ⟨c, h, n, b⟩ x = clashK ⟨c, h2, n, b⟩ x := rfl
/-- The list that grows: has the new row been laid, and what there is. -/
def gL (r : Rk) (rs : List Rk) (i : Nat) : List Rk := if posK r rs < i then rs.take (posK r rs) ++ [r] ++ (rs.drop (posK r rs)).take (i - posK r rs) else rs.take i
theorem pos_not {r : Rk} {rs : List Rk} {i : Nat} (hi : i < rs.length) (hp : i ≤ posK r rs) : (aheadK r rs[i] = true ↔ posK r rs = i) := by
  unfold posK at *
  cases hf : rs.findIdx? (aheadK r) with
  | none =>
    rw [hf] at hp
    rw [List.findIdx?_eq_none_iff] at hf
    rw [hf _ (List.getElem_mem hi)]
    simp only [Option.getD_none]
    constructor
    · intro h; cases h
    · intro h; omega
  | some k =>
    rw [hf] at hp
    simp only [Option.getD_some] at hp ⊢
    rw [List.findIdx?_eq_some_iff_getElem] at hf
    obtain ⟨hk, h1, h2⟩ := hf
    constructor
    · intro h
      rcases Nat.lt_or_ge i k with hlt | hge
      · have := h2 i hlt; rw [h] at this; simp at this
      · omega
    · intro h; subst h; exact h1
theorem gL_put {r : Rk} {rs : List Rk} {i : Nat} (hi : i < rs.length) (hp : posK r rs < i) : gL r rs (i + 1) = gL r rs i ++ [rs[i]] := by
  unfold gL
  rw [if_pos (by omega), if_pos hp, List.append_assoc, List.append_assoc, List.append_assoc]
  congr 1
  congr 1
  rw [show i + 1 - posK r rs = (i - posK r rs) + 1 by omega, List.take_succ_eq_append_getElem (by rw [List.length_drop]; omega), List.getElem_drop]
  congr 2
  congr 1
  omega
theorem gL_now {r : Rk} {rs : List Rk} {i : Nat} (hi : i < rs.length) (hp : posK r rs = i) : gL r rs (i + 1) = gL r rs i ++ [r] ++ [rs[i]] := by
  unfold gL
  rw [if_pos (by omega), if_neg (by omega), hp, show i + 1 - i = 0 + 1 by omega, List.take_succ_eq_append_getElem (by rw [List.length_drop]; omega), List.getElem_drop]
  simp
theorem gL_later {r : Rk} {rs : List Rk} {i : Nat} (hi : i < rs.length) (hp : i < posK r rs) : gL r rs (i + 1) = gL r rs i ++ [rs[i]] := by
  unfold gL
  rw [if_neg (by omega), if_neg (by omega), List.take_succ_eq_append_getElem hi]
theorem gL_end {r : Rk} {rs : List Rk} : insK r rs = if posK r rs < rs.length then gL r rs rs.length else gL r rs rs.length ++ [r] := by
  have := posK_le r rs
  unfold insK gL
  by_cases h : posK r rs < rs.length
  · rw [if_pos h, if_pos h, List.take_of_length_le (i := rs.length - posK r rs) (by rw [List.length_drop]; omega)]
  · rw [if_neg h, if_neg h, show posK r rs = rs.length by omega]; simp
def ROpenPost (w : World) (B q : Nat) (r : (Int × Int) × List Rk) (e : Ending) (w' : World) : Prop :=
  e = .returned (.tuple #[.int .i64 r.1.1, .int .i64 r.1.2]) ∧ RTok w' B q r.2 ∧ Keeps [q] w w'
theorem build_rk4' (w : World) (x : Rk) : (Instr.build 62 #[(0, .int .i64 x.c), (1, .int .i64 x.h), (2, .int .i64 x.n), (3, .bool x.b)]).run Try.prog w = .ok (rkV x) w := by kernel_rfl
theorem exec_rk4' {ρ : Operand → Value} {o : Oper} {w : World} (a b c d : Operand) (x : Rk) (ho : o.op = .build 62 #[(0, a), (1, b), (2, c), (3, d)]) (ha : ρ a = .int .i64 x.c) (hb : ρ b = .int .i64 x.h) (hc : ρ c = .int .i64 x.n) (hd : ρ d = .bool x.b) : (execOp ρ o).run Try.prog w = .ok (.value (rkV x)) w := by
  simp only [execOp, ho, List.map_toArray, List.map_cons, List.map_nil, ha, hb, hc, hd, Sem.run_bind, build_rk4', Result.andThen_ok, Sem.run_pure]
set_option maxHeartbeats 25600000 in
theorem rOpen_any {w : World} {B q : Nat} {rs : List Rk} (h : RTok w B q rs) (hB : B ≤ w.heap.size) (hf : rs.length ≤ 1000) (g : GoodK rs) (c n : Int) (b : Bool) :
    Calls Try.prog 20 #[.pointer (some ⟨q, 0, none⟩), .int .i64 c, .int .i64 n, .bool b] w (ROpenPost w B q (openK rs c n b)) := by
  have HB := hid hB
  have H := hid h
  have GG := hid g
  obtain ⟨R, hR⟩ : ∃ z, z = openK rs c n b := ⟨_, rfl⟩
  have HR := hid hR
  rw [← hR]
  obtain ⟨a, cp, T⟩ := h
  have HT := hid T
  obtain ⟨cq, fq⟩ := T.cell
  clear hR T hB g fq
  by_cases b1 : c < 0
  · have f1 : decide (c < 0) = true := decide_eq_true b1
    have RE := hid (show R = ((0, 1), rs) from HR.out.trans (by unfold openK; rw [if_neg (by unfold mayK; simp [btwK]; omega)]))
    go_enter Try.func20, Try.ntmps20
    go_wp2_with fail
    go_ret2
    rw [RE.out]
    exact ⟨rfl, H.out, Keeps.refl _ _⟩
  have f1 : decide (c < 0) = false := decide_eq_false b1
  by_cases b2 : 4 ≤ c
  · have f2 : decide (4 ≤ c) = true := decide_eq_true b2
    have RE := hid (show R = ((0, 1), rs) from HR.out.trans (by unfold openK; rw [if_neg (by unfold mayK; simp [btwK]; omega)]))
    go_enter Try.func20, Try.ntmps20
    go_wp2_with fail
    go_ret2
    rw [RE.out]
    exact ⟨rfl, H.out, Keeps.refl _ _⟩
  have f2 : decide (4 ≤ c) = false := decide_eq_false b2
  by_cases b3 : n < 2
  · have f3 : decide (n < 2) = true := decide_eq_true b3
    have RE := hid (show R = ((0, 1), rs) from HR.out.trans (by unfold openK; rw [if_neg (by unfold mayK; simp [btwK]; omega)]))
    go_enter Try.func20, Try.ntmps20
    go_wp2_with fail
    go_ret2
    rw [RE.out]
    exact ⟨rfl, H.out, Keeps.refl _ _⟩
  have f3 : decide (n < 2) = false := decide_eq_false b3
  by_cases b4 : 128 < n
  · have f4 : decide (128 < n) = true := decide_eq_true b4
    have RE := hid (show R = ((0, 1), rs) from HR.out.trans (by unfold openK; rw [if_neg (by unfold mayK; simp [btwK]; omega)]))
    go_enter Try.func20, Try.ntmps20
    go_wp2_with fail
    go_ret2
    rw [RE.out]
    exact ⟨rfl, H.out, Keeps.refl _ _⟩
  have f4 : decide (128 < n) = false := decide_eq_false b4
  have MAY := hid (show mayK ⟨c, 0, n, b⟩ = true by unfold mayK; simp [btwK]; omega)
  go_enter Try.func20, Try.ntmps20
  go_wp2_with fail
  clear f1 f2 f3 f4 b1 b2 b3 b4
  go_loop [10, 11, 12, 13] (fun mv bv hv iv => ∃ i : Nat, iv = .int .i64 (i : Int) ∧ i ≤ rs.length ∧ mv = .int .i64 ((mineK rs c i : Nat) : Int) ∧ bv = .bool ((rs.take i).any (clashK ⟨c, 0, n, b⟩)) ∧ hv = .int .i64 ((hK rs c i : Nat) : Int)) (fun _ _ _ iv => rs.length - (intOf iv).toNat)
  case atStart => exact ⟨0, rfl, by omega, by simp [mineK], by simp, by simp [hK]⟩
  case round =>
    obtain ⟨i, rfl, hi, rfl, rfl, rfl⟩ := hrel
    by_cases hlt : i < rs.length
    · obtain ⟨g, off, e1, _, hcap, hg, hM, hr⟩ := HT.out.own.at.open (by omega)
      subst e1
      have R0 := range_rk hr i hlt
      obtain ⟨x, hx⟩ : ∃ x, x = rs[i]'hlt := ⟨_, rfl⟩
      rw [← hx] at R0
      have HX := hid hx
      have HLT := hid hlt
      have M1 := hid (mineK_succ (c := c) hlt)
      have H1 := hid (hK_succ (c := c) hlt)
      have B1 := hid (any_take_succ (clashK ⟨c, 0, n, b⟩) hlt)
      rw [← hx] at M1 H1 B1
      have hhl := hK_le rs c i (by omega)
      have hml := GG.out.mine c i
      obtain ⟨mm, hmm⟩ : ∃ z, z = mineK rs c i := ⟨_, rfl⟩
      obtain ⟨hh, hhh⟩ : ∃ z, z = hK rs c i := ⟨_, rfl⟩
      obtain ⟨bb, hbb⟩ : ∃ z, z = (rs.take i).any (clashK ⟨c, 0, n, b⟩) := ⟨_, rfl⟩
      rw [← hmm] at M1 hml ⊢
      rw [← hhh] at H1 hhl ⊢
      rw [← hbb] at B1 ⊢
      obtain ⟨d0, d1, d2, d3⟩ := rkrange_at R0
      obtain ⟨xc, xh, xn, xb⟩ := x
      simp only at d0 d1 d2 d3
      clear hr hcap hg hM R0 hx hmm hhh hbb
      by_cases hc : xc = c
      · have k1 : (xc == c) = true := by simp [hc]
        have ME := hid (if_pos hc : (if xc = c then 1 else 0) = 1)
        by_cases hk : xh = (hh : Int)
        · have k2 : (xh == (hh : Int)) = true := by simp [hk]
          have HE := hid (show hstep c hh ⟨xc, xh, xn, xb⟩ = hh + 1 from if_pos ⟨hc, hk⟩)
          clear hc hk
          cases bb with
          | true =>
            have BE := hid (show (true || clashK ⟨c, 0, n, b⟩ ⟨xc, xh, xn, xb⟩) = true from rfl)
            go_wp2_with fail
            go_round
            case rel => exact ⟨i + 1, by go_num, by have := HLT.out; omega, by rw [M1.out, ME.out] <;> first | rfl | go_num, by rw [B1.out, BE.out] <;> rfl, by rw [H1.out, HE.out] <;> first | rfl | go_num⟩
            case measure => have := HLT.out; simp [intOf]; omega
          | false =>
            by_cases hn : xn = n
            · have g1 : (xn == n) = true := by simp [hn]
              cases b with
              | true =>
                have BE := hid (show (false || clashK ⟨c, 0, n, true⟩ ⟨xc, xh, xn, xb⟩) = true by simp [clashK, hn])
                go_wp2_with fail
                go_round
                case rel => exact ⟨i + 1, by go_num, by have := HLT.out; omega, by rw [M1.out, ME.out] <;> first | rfl | go_num, by rw [B1.out, BE.out] <;> rfl, by rw [H1.out, HE.out] <;> first | rfl | go_num⟩
                case measure => have := HLT.out; simp [intOf]; omega
              | false =>
                have BE := hid (show (false || clashK ⟨c, 0, n, false⟩ ⟨xc, xh, xn, xb⟩) = xb by simp [clashK, hn])
                go_wp2_with fail
                go_round
                case rel => exact ⟨i + 1, by go_num, by have := HLT.out; omega, by rw [M1.out, ME.out] <;> first | rfl | go_num, by rw [B1.out, BE.out] <;> rfl, by rw [H1.out, HE.out] <;> first | rfl | go_num⟩
                case measure => have := HLT.out; simp [intOf]; omega
            · have g1 : (xn == n) = false := by simpa using hn
              have BE := hid (show (false || clashK ⟨c, 0, n, b⟩ ⟨xc, xh, xn, xb⟩) = false by simp [clashK]; intro e; exact absurd e.symm hn)
              go_wp2_with fail
              go_round
              case rel => exact ⟨i + 1, by go_num, by have := HLT.out; omega, by rw [M1.out, ME.out] <;> first | rfl | go_num, by rw [B1.out, BE.out] <;> rfl, by rw [H1.out, HE.out] <;> first | rfl | go_num⟩
              case measure => have := HLT.out; simp [intOf]; omega
        · have k2 : (xh == (hh : Int)) = false := by simpa using hk
          have HE := hid (show hstep c hh ⟨xc, xh, xn, xb⟩ = hh from if_neg (fun e => hk e.2))
          clear hc hk
          cases bb with
          | true =>
            have BE := hid (show (true || clashK ⟨c, 0, n, b⟩ ⟨xc, xh, xn, xb⟩) = true from rfl)
            go_wp2_with fail
            go_round
            case rel => exact ⟨i + 1, by go_num, by have := HLT.out; omega, by rw [M1.out, ME.out] <;> first | rfl | go_num, by rw [B1.out, BE.out] <;> rfl, by rw [H1.out, HE.out] <;> first | rfl | go_num⟩
            case measure => have := HLT.out; simp [intOf]; omega
          | false =>
            by_cases hn : xn = n
            · have g1 : (xn == n) = true := by simp [hn]
              cases b with
              | true =>
                have BE := hid (show (false || clashK ⟨c, 0, n, true⟩ ⟨xc, xh, xn, xb⟩) = true by simp [clashK, hn])
                go_wp2_with fail
                go_round
                case rel => exact ⟨i + 1, by go_num, by have := HLT.out; omega, by rw [M1.out, ME.out] <;> first | rfl | go_num, by rw [B1.out, BE.out] <;> rfl, by rw [H1.out, HE.out] <;> first | rfl | go_num⟩
                case measure => have := HLT.out; simp [intOf]; omega
              | false =>
                have BE := hid (show (false || clashK ⟨c, 0, n, false⟩ ⟨xc, xh, xn, xb⟩) = xb by simp [clashK, hn])
                go_wp2_with fail
                go_round
                case rel => exact ⟨i + 1, by go_num, by have := HLT.out; omega, by rw [M1.out, ME.out] <;> first | rfl | go_num, by rw [B1.out, BE.out] <;> rfl, by rw [H1.out, HE.out] <;> first | rfl | go_num⟩
                case measure => have := HLT.out; simp [intOf]; omega
            · have g1 : (xn == n) = false := by simpa using hn
              have BE := hid (show (false || clashK ⟨c, 0, n, b⟩ ⟨xc, xh, xn, xb⟩) = false by simp [clashK]; intro e; exact absurd e.symm hn)
              go_wp2_with fail
              go_round
              case rel => exact ⟨i + 1, by go_num, by have := HLT.out; omega, by rw [M1.out, ME.out] <;> first | rfl | go_num, by rw [B1.out, BE.out] <;> rfl, by rw [H1.out, HE.out] <;> first | rfl | go_num⟩
              case measure => have := HLT.out; simp [intOf]; omega
      · have k1 : (xc == c) = false := by simpa using hc
        have ME := hid (if_neg hc : (if xc = c then 1 else 0) = 0)
        have HE := hid (show hstep c hh ⟨xc, xh, xn, xb⟩ = hh from if_neg (fun e => hc e.1))
        clear hc
        cases bb with
        | true =>
          have BE := hid (show (true || clashK ⟨c, 0, n, b⟩ ⟨xc, xh, xn, xb⟩) = true from rfl)
          go_wp2_with fail
          go_round
          case rel => exact ⟨i + 1, by go_num, by have := HLT.out; omega, by rw [M1.out, ME.out] <;> first | rfl | go_num, by rw [B1.out, BE.out] <;> rfl, by rw [H1.out, HE.out] <;> first | rfl | go_num⟩
          case measure => have := HLT.out; simp [intOf]; omega
        | false =>
          by_cases hn : xn = n
          · have g1 : (xn == n) = true := by simp [hn]
            cases b with
            | true =>
              have BE := hid (show (false || clashK ⟨c, 0, n, true⟩ ⟨xc, xh, xn, xb⟩) = true by simp [clashK, hn])
              go_wp2_with fail
              go_round
              case rel => exact ⟨i + 1, by go_num, by have := HLT.out; omega, by rw [M1.out, ME.out] <;> first | rfl | go_num, by rw [B1.out, BE.out] <;> rfl, by rw [H1.out, HE.out] <;> first | rfl | go_num⟩
              case measure => have := HLT.out; simp [intOf]; omega
            | false =>
              have BE := hid (show (false || clashK ⟨c, 0, n, false⟩ ⟨xc, xh, xn, xb⟩) = xb by simp [clashK, hn])
              go_wp2_with fail
              go_round
              case rel => exact ⟨i + 1, by go_num, by have := HLT.out; omega, by rw [M1.out, ME.out] <;> first | rfl | go_num, by rw [B1.out, BE.out] <;> rfl, by rw [H1.out, HE.out] <;> first | rfl | go_num⟩
              case measure => have := HLT.out; simp [intOf]; omega
          · have g1 : (xn == n) = false := by simpa using hn
            have BE := hid (show (false || clashK ⟨c, 0, n, b⟩ ⟨xc, xh, xn, xb⟩) = false by simp [clashK]; intro e; exact absurd e.symm hn)
            go_wp2_with fail
            go_round
            case rel => exact ⟨i + 1, by go_num, by have := HLT.out; omega, by rw [M1.out, ME.out] <;> first | rfl | go_num, by rw [B1.out, BE.out] <;> rfl, by rw [H1.out, HE.out] <;> first | rfl | go_num⟩
            case measure => have := HLT.out; simp [intOf]; omega
    · obtain rfl : i = rs.length := by omega
      have AN := hid (show (rs.take rs.length).any (clashK ⟨c, 0, n, b⟩) = rs.any (clashK ⟨c, 0, n, b⟩) by rw [List.take_length])
      rw [AN.out]
      have LR := hid (least_ref GG.out c)
      obtain ⟨mm, hmm⟩ : ∃ z, z = mineK rs c rs.length := ⟨_, rfl⟩
      obtain ⟨k, hk⟩ : ∃ z, z = hK rs c rs.length := ⟨_, rfl⟩
      obtain ⟨bb, hbb⟩ : ∃ z, z = rs.any (clashK ⟨c, 0, n, b⟩) := ⟨_, rfl⟩
      rw [← hmm, ← hk] at LR
      rw [← hmm, ← hk, ← hbb]
      have HBB := hid hbb
      clear hmm hk hbb
      rcases LR.out with ⟨h4, hl⟩ | ⟨h4, hl, hk4⟩
      · have f1 : decide ((4 : Int) ≤ (mm : Int)) = true := by simp; omega
        have RE := hid (show R = ((0, 5), rs) from HR.out.trans (by unfold openK; rw [if_pos MAY.out, hl]))
        clear h4 hl
        go_wp2_with fail
        go_ret2
        rw [RE.out]
        exact ⟨rfl, H.out, Keeps.refl _ _⟩
      · have f1 : decide ((4 : Int) ≤ (mm : Int)) = false := by simp; omega
        cases bb with
        | true =>
          have RE := hid (show R = ((0, 8), rs) from HR.out.trans (by unfold openK; rw [if_pos MAY.out, hl]; simp only; rw [if_pos (show rs.any (clashK ⟨c, (k : Int), n, b⟩) = true from HBB.out.symm)]))
          clear h4 hl
          go_wp2_with fail
          go_ret2
          rw [RE.out]
          exact ⟨rfl, H.out, Keeps.refl _ _⟩
        | false =>
          obtain ⟨r, hr⟩ : ∃ r : Rk, r = ⟨c, (k : Int), n, b⟩ := ⟨_, rfl⟩
          have RE := hid (show R = (((k : Int), 0), insK r rs) from HR.out.trans (by unfold openK; rw [if_pos MAY.out, hl, hr]; simp only; rw [if_neg (show ¬ rs.any (clashK ⟨c, (k : Int), n, b⟩) = true from fun e => Bool.noConfusion (HBB.out.trans (show rs.any (clashK ⟨c, 0, n, b⟩) = true from e)))]))
          have ka : Keeps [] w (w.alloc (.cells r.cells.toArray 62)) := (Keeps.refl [] w).alloc _
          have T1 := hid (HT.out.later ka)
          have RX := hid (rkrange_new w r.cells 62)
          have K1 := hid ka
          have HS1 := hid (show w.heap.size < (w.alloc (.cells r.cells.toArray 62)).heap.size by simp)
          have HRR := hid hr
          clear h4 hl ka hr
          go_wp2_with (first | (refine wpList_is rfl _ _ (exec_rk4' _ _ _ _ r rfl (by rw [HRR.out]; rfl) (by rw [HRR.out]; rfl) (by rw [HRR.out]; rfl) (by rw [HRR.out]; rfl)) ?_) | (refine wpList_allocRk rRk rfl rfl ?_) | (refine wpList_newRk rRk rfl w _ _ rfl rfl rfl r rfl ?_; refine Hid.out ?_) | fail)
          refine hid ?_
          clear cq f1
          generalize w.alloc (.cells r.cells.toArray 62) = w1 at T1 RX K1 HS1 ⊢
          have PLE := hid (posK_le r rs)
          go_wp2_with fail
          go_loopw [15, 16, 17, 18] (fun lv pv iv _ wr => ∃ (i : Nat) (ao : Option Addr) (co m : Nat), iv = .int .i64 (i : Int) ∧ i ≤ rs.length ∧ m ≤ i + 1 ∧ pv = .bool (decide (posK r rs < i)) ∧ lv = .slice ao m co ∧ Hid (m = (gL r rs i).length) ∧ Hid (OwnK wr w1.heap.size 62 [] (.slice ao m co) (gL r rs i)) ∧ Hid (Keeps [] w1 wr)) (fun _ _ iv _ _ => rs.length - (intOf iv).toNat)
          case atStart => exact ⟨0, none, 0, 0, rfl, by omega, by omega, by simp, rfl, hid (by simp [gL]), hid (by simpa [gL] using OwnK.nil w1 w1.heap.size 62 [] (by simp)), hid (Keeps.refl _ _)⟩
          case round =>
            obtain ⟨i, ao, co, m, rfl, hi, hm, rfl, rfl, HM, HO, HK⟩ := hrel
            rename World => wr
            have TW := T1.out.later HK.out
            obtain ⟨cq, fq⟩ := TW.cell
            by_cases hlt : i < rs.length
            · obtain ⟨g, off, e1, _, hcap, hg, hMM, hrr⟩ := TW.own.at.open (by omega)
              subst e1
              have R0 := range_rk hrr i hlt
              obtain ⟨y, hy⟩ : ∃ y, y = rs[i]'hlt := ⟨_, rfl⟩
              rw [← hy] at R0
              have RY := hid R0
              have HY := hid hy
              have HLT := hid hlt
              have PN := hid (fun hp => pos_not (r := r) hlt hp)
              have GP := hid (fun hp => gL_put (r := r) hlt hp)
              have GN := hid (fun hp => gL_now (r := r) hlt hp)
              have GLT := hid (fun hp => gL_later (r := r) hlt hp)
              rw [← hy] at PN GP GN GLT
              have ky : Keeps [] wr (wr.alloc (.cells y.cells.toArray 62)) := (Keeps.refl [] wr).alloc _
              have OY := hid (HO.out.later ky)
              have KY := hid (HK.out.trans ky)
              have CY := hid (rkrange_new wr y.cells 62)
              have SY := hid (show wr.heap.size < (wr.alloc (.cells y.cells.toArray 62)).heap.size by simp)
              have RXY := hid (rkrange_keep (rkrange_keep RX.out HK.out (by simp)) ky (by simp))
              have NOY := hid (show ∀ b, (Value.slice ao m co).ownBlock = some b → w1.heap.size ≤ b ∧ b < wr.heap.size from fun b hb => HO.out.blk b hb)
              have hrl : rs.length ≤ 1000 := hf
              clear hrr hcap hg hMM R0 hy fq ky TW
              go_wp2_with (first | (refine wpList_loadRk rRk rfl _ rfl g (off + i * 4) (by simp [Act.eval]) y RY.out ?_) | (refine wpList_allocRk rRk rfl rfl ?_) | (refine wpList_newRk rRk rfl wr _ _ rfl rfl rfl y rfl ?_; refine Hid.out ?_) | fail)
              refine hid ?_
              generalize wr.alloc (.cells y.cells.toArray 62) = wy at OY KY CY SY RXY ⊢
              go_upto_region 25 with fail
              go_cut [135] from 100 to 143 (fun t wx => t = .bool (decide (posK r rs = i)) ∧ wx = wy)
              case first =>
                obtain ⟨c0, c1, c2, c3⟩ := rkrange_at CY.out
                by_cases hp : posK r rs < i
                · have f1 : decide (posK r rs < i) = true := decide_eq_true hp
                  have f2 := hid (show decide (posK r rs = i) = false by simp; omega)
                  clear hp
                  go_wp2_with fail
                  go_meet
                  exact ⟨by rw [f2.out], rfl⟩
                · have f1 : decide (posK r rs < i) = false := decide_eq_false hp
                  have AP := hid (PN.out (by omega))
                  have ERC := hid (show r.c = c ∧ r.h = (k : Int) from ⟨by rw [HRR.out], by rw [HRR.out]⟩)
                  obtain ⟨yc, yh, yn, yb⟩ := y
                  simp only [Nat.zero_add] at c0 c1 c2 c3
                  by_cases hgt : c < yc
                  · have g1 : decide (c < yc) = true := decide_eq_true hgt
                    have f2 := hid (show decide (posK r rs = i) = true from decide_eq_true (AP.out.1 (aheadK_is.2 (Or.inl (by have := ERC.out.1; simp only; omega)))))
                    clear hp hgt
                    go_wp2_with fail
                    go_meet
                    exact ⟨by rw [f2.out], rfl⟩
                  · have g1 : decide (c < yc) = false := decide_eq_false hgt
                    by_cases heq : yc = c
                    · have g2 : (yc == c) = true := by simp [heq]
                      by_cases hgh : (k : Int) < yh
                      · have g3 : decide ((k : Int) < yh) = true := decide_eq_true hgh
                        have f2 := hid (show decide (posK r rs = i) = true from decide_eq_true (AP.out.1 (aheadK_is.2 (Or.inr (by have := ERC.out; simp only; omega)))))
                        clear hp hgt heq hgh
                        go_wp2_with fail
                        go_meet
                        exact ⟨by rw [f2.out], rfl⟩
                      · have g3 : decide ((k : Int) < yh) = false := decide_eq_false hgh
                        have f2 := hid (show decide (posK r rs = i) = false from decide_eq_false (fun e => by have := aheadK_is.1 (AP.out.2 e); have := ERC.out; simp only at *; omega))
                        clear hp hgt heq hgh
                        go_wp2_with fail
                        go_meet
                        exact ⟨by rw [f2.out], rfl⟩
                    · have g2 : (yc == c) = false := by simpa using heq
                      have f2 := hid (show decide (posK r rs = i) = false from decide_eq_false (fun e => by have := aheadK_is.1 (AP.out.2 e); have := ERC.out; simp only at *; omega))
                      clear hp hgt heq
                      go_wp2_with fail
                      go_meet
                      exact ⟨by rw [f2.out], rfl⟩
              case rest =>
                obtain ⟨rfl, hw2⟩ := hcut
                subst hw2
                by_cases hp : posK r rs = i
                · have f1 : decide (posK r rs = i) = true := decide_eq_true hp
                  have HP := hid hp
                  have ML := hid (show m ≤ i by rw [HM.out]; unfold gL; rw [if_neg (by omega), List.length_take]; omega)
                  have kx : Keeps [] wc (wc.alloc (.cells r.cells.toArray 62)) := (Keeps.refl [] wc).alloc _
                  obtain ⟨a3, c3, w8, hr2, o2, k2, n2⟩ := append_rk rRk (OY.out.later kx) wc.heap.size r (rkrange_new wc _ _) (by rw [← HM.out]; omega) (by have := KY.out.size; have := kx.size; omega) 42
                  rw [← HM.out] at hr2 o2
                  have RUN := hid hr2
                  have O8 := hid o2
                  have k8 : Keeps [] w1 w8 := (KY.out.trans kx).trans' k2 (fun j hj hm => by have := (NOY.out j (by simpa using hm)).1; omega)
                  have K8 := hid k8
                  have RY8 := hid (rkrange_keep (rkrange_keep CY.out kx (by simp)) k2 (by intro hm; have := (NOY.out _ (by simpa using hm)).2; omega))
                  have kz : Keeps [] w8 (w8.alloc (.cells y.cells.toArray 62)) := (Keeps.refl [] w8).alloc _
                  obtain ⟨a4, c4, w9, hr4, o4, k4, n4⟩ := append_rk rRk (O8.out.later kz) w8.heap.size y (rkrange_new w8 _ _) (by rw [List.length_append, ← HM.out]; simp; omega) (by have := K8.out.size; have := kz.size; omega) 42
                  rw [List.length_append, ← HM.out] at hr4 o4
                  have RUN4 := hid hr4
                  have O9 := hid o4
                  have K9 := hid ((K8.out.trans kz).trans' k4 (S := []) (fun j hj hm => by have := (O8.out.blk j (by simpa using hm)).1; omega))
                  clear hr2 o2 k2 n2 kx k8 kz hr4 o4 k4 n4 hp
                  go_wp2_with (first | (refine wpList_loadRk rRk rfl _ rfl w.heap.size 0 rfl r RXY.out ?_) | (refine wpList_is rfl _ _ (exec_oneRk rRk _ r rfl rfl) ?_) | (at_builtin; refine wpList_is rfl _ _ (exec_appendT 42 _ _ rfl rfl rfl RUN.out) ?_; refine Hid.out ?_) | fail)
                  refine hid ?_
                  go_wp2_with (first | (refine wpList_loadRk rRk rfl _ rfl wr.heap.size 0 rfl y RY8.out ?_) | (refine wpList_is rfl _ _ (exec_oneRk rRk _ y rfl rfl) ?_) | (at_builtin; refine wpList_is rfl _ _ (exec_appendT 42 _ _ rfl rfl rfl RUN4.out) ?_; refine Hid.out ?_) | fail)
                  refine hid ?_
                  go_wp2_with fail
                  go_roundw
                  case rel => exact ⟨i + 1, a4, c4, m + 1 + 1, by go_num, by have := HLT.out; omega, by have := ML.out; omega, by rw [decide_eq_true (show posK r rs < i + 1 by have := HP.out; omega)], rfl, hid (by rw [GN.out HP.out, List.length_append, List.length_append, ← HM.out]; rfl), hid (by rw [GN.out HP.out]; exact O9.out), K9⟩
                  case measure => have := HLT.out; simp [intOf]; omega
                · have f1 : decide (posK r rs = i) = false := decide_eq_false hp
                  have HP := hid hp
                  have GE := hid (show gL r rs (i + 1) = gL r rs i ++ [y] by
                    rcases Nat.lt_or_ge (posK r rs) i with h | h
                    · exact GP.out h
                    · exact GLT.out (by omega))
                  have kz : Keeps [] wc (wc.alloc (.cells y.cells.toArray 62)) := (Keeps.refl [] wc).alloc _
                  obtain ⟨a4, c4, w9, hr4, o4, k4, n4⟩ := append_rk rRk (OY.out.later kz) wc.heap.size y (rkrange_new wc _ _) (by rw [← HM.out]; omega) (by have := KY.out.size; have := kz.size; omega) 42
                  rw [← HM.out] at hr4 o4
                  have RUN4 := hid hr4
                  have O9 := hid o4
                  have K9 := hid ((KY.out.trans kz).trans' k4 (S := []) (fun j hj hm => by have := (NOY.out j (by simpa using hm)).1; omega))
                  clear kz hr4 o4 k4 n4 hp
                  go_wp2_with (first | (refine wpList_loadRk rRk rfl _ rfl wr.heap.size 0 rfl y CY.out ?_) | (refine wpList_is rfl _ _ (exec_oneRk rRk _ y rfl rfl) ?_) | (at_builtin; refine wpList_is rfl _ _ (exec_appendT 42 _ _ rfl rfl rfl RUN4.out) ?_; refine Hid.out ?_) | fail)
                  refine hid ?_
                  go_wp2_with fail
                  go_roundw
                  case rel => exact ⟨i + 1, a4, c4, m + 1, by go_num, by have := HLT.out; omega, by omega, by have := HP.out; simp; omega, rfl, hid (by rw [GE.out, List.length_append, ← HM.out]; rfl), hid (by rw [GE.out]; exact O9.out), K9⟩
                  case measure => have := HLT.out; simp [intOf]; omega
            · obtain rfl : i = rs.length := by omega
              have HQB := hid (show B ≤ w1.heap.size by have := HB.out; have := K1.out.size; omega)
              have GE := hid (gL_end (r := r) (rs := rs))
              have NQ : ∀ v2 : Value, (∀ b, v2.ownBlock = some b → w1.heap.size ≤ b) → v2.ownBlock ≠ some q := fun v2 hv2 e => by
                have := hv2 q e
                have := T1.out.lt
                omega
              by_cases hp : posK r rs < rs.length
              · have f1 : decide (posK r rs < rs.length) = true := decide_eq_true hp
                obtain ⟨ms, hms⟩ : ∃ z, z = insK r rs := ⟨_, rfl⟩
                have GI : gL r rs rs.length = ms := by rw [hms, GE.out, if_pos hp]
                have RE2 := hid (show R = (((k : Int), 0), ms) by rw [hms]; exact RE.out)
                have o9 := HO.out
                have m9 := HM.out
                rw [GI] at o9 m9
                subst m9
                have T9 := hid (TW.set (Keeps.refl [] wr) (by simp) (o9.weak HQB.out) (NQ _ (fun b hb => (o9.blk b hb).1)))
                have K9 := hid (((K1.out.trans HK.out).mono (S' := [q]) (by simp)).trans (set_keep (b := q) (i := 0) (u := .slice ao ms.length co)))
                clear TW o9 hms GI NQ hp
                go_wp2_with fail
                go_ret2
                rw [RE2.out]
                exact ⟨rfl, ⟨ao, co, T9.out⟩, K9.out⟩
              · have f1 : decide (posK r rs < rs.length) = false := decide_eq_false hp
                obtain ⟨ms, hms⟩ : ∃ z, z = insK r rs := ⟨_, rfl⟩
                have GI : gL r rs rs.length ++ [r] = ms := by rw [hms, GE.out, if_neg hp]
                have RE2 := hid (show R = (((k : Int), 0), ms) by rw [hms]; exact RE.out)
                have kx : Keeps [] wr (wr.alloc (.cells r.cells.toArray 62)) := (Keeps.refl [] wr).alloc _
                have RXW := hid (rkrange_keep RX.out HK.out (by simp))
                obtain ⟨a3, c3, w8, hr2, o2, k2, n2⟩ := append_rk rRk (HO.out.later kx) wr.heap.size r (rkrange_new wr _ _) (by rw [← HM.out]; omega) (by have := HK.out.size; have := kx.size; omega) 42
                rw [← HM.out] at hr2 o2
                rw [GI] at o2
                have lm : m + 1 = ms.length := by rw [← GI, List.length_append, ← HM.out]; rfl
                rw [lm] at hr2 o2
                have RUN := hid hr2
                have T8 := TW.keep ((kx.mono (S' := (Value.slice ao m co).ownBlock.toList) (by simp)).trans k2) (fun hm => by have := (HO.out.blk q (by simpa using hm)).1; have := T1.out.lt; omega) (fun b hb hm => by
                  have h1 := (HO.out.blk b (by simpa using hm)).1
                  have h2 := (T1.out.own.blk b hb).2
                  omega)
                have k8 : Keeps [] w1 w8 := (HK.out.trans kx).trans' k2 (fun j hj hm => by have := (HO.out.blk j (by simpa using hm)).1; omega)
                obtain ⟨cq8, fq8⟩ := T8.cell
                have T9 := hid (T8.set (Keeps.refl [] w8) (by simp) (o2.weak HQB.out) (NQ _ (fun b hb => (o2.blk b hb).1)))
                have K9 := hid (((K1.out.trans k8).mono (S' := [q]) (by simp)).trans (set_keep (b := q) (i := 0) (u := .slice a3 ms.length c3)))
                clear TW hms GI NQ hp kx hr2 o2 k2 n2 lm T8 k8
                go_wp2_with (first | (refine wpList_loadRk rRk rfl _ rfl w.heap.size 0 rfl r RXW.out ?_) | (refine wpList_is rfl _ _ (exec_oneRk rRk _ r rfl rfl) ?_) | (at_builtin; refine wpList_is rfl _ _ (exec_appendT 42 _ _ rfl rfl rfl RUN.out) ?_; refine Hid.out ?_) | fail)
                refine hid ?_
                go_wp2_with fail
                go_ret2
                rw [RE2.out]
                exact ⟨rfl, ⟨a3, c3, T9.out⟩, K9.out⟩
end Go.Proofs.Ytjohikekhgcepaa
