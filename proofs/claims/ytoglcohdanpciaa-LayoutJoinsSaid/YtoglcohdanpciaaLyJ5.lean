/- LyT, LyU, LyV, LyW. -/
import Derived.Test.YtoglcohdanpciaaLyJ4
import Derived.Test.YtoglcohdanpciaaShelfLy
/- layout: bytes.Join of rows; attempt of a row; what whole's rows are. -/
namespace Go.Proofs.Ytoglcohdanpciaa
open Go.RowKit Go.Shelf
set_option maxRecDepth 100000
set_option linter.unusedSimpArgs false
set_option linter.unusedVariables false

/-- What whole answers is as a stripe is cut. -/
theorem whole_rows {s : Spe} {ls : List (List Int)} {n : Int} {rows : List (List Int)} {z : Int} (hb : BytesL ls) (h : wholeL s ls n = .ok (rows, z)) :
    (ls.length : Int) = n ∧ 3 ≤ ls.length ∧ ls.length ≤ 16 ∧ rows.length = ls.length ∧ mayHv z n = true ∧ mayE s = true ∧ (∀ k, k < ls.length → (rows.getD k []).length = longN k z.toNat ls.length) ∧ BytesL rows := by
  unfold wholeL at h
  by_cases h1 : maySv n = true ∧ (ls.length : Int) = n
  · rw [if_pos h1] at h
    obtain ⟨hm, hl⟩ := h1
    obtain ⟨n3, n16⟩ := maySv_is.1 hm
    by_cases hbad : lookBad s ls.length ls = true
    · rw [if_pos hbad] at h; cases h
    · rw [if_neg hbad] at h
      have hbad' : lookBad s ls.length ls = false := by simpa using hbad
      have ok := lookOk_of hbad'
      have h3 : 3 ≤ ls.length := by omega
      match hms : missL ls, h with
      | [], h =>
        simp only at h
        by_cases hz : zeroB (xorL (rowsOf ls)) = true
        · rw [if_pos hz] at h
          injection h with h
          injection h with e1 e2
          subst e1; subst e2
          have hne : ∀ k, k < ls.length → ls.getD k [] ≠ [] := fun k hk he => by
            have : k ∈ missL ls := missL_mem.2 ⟨hk, he⟩
            rw [hms] at this
            cases this
          obtain ⟨q1, _, q3⟩ := ok.size hb (k := 0) (by omega) (hne 0 (by omega))
          rw [hl] at q1
          refine ⟨hl, h3, by omega, rowsOf_len ls, q1, q3, fun k hk => ?_, rowsOf_byte hb⟩
          rw [List.getD_eq_getElem?_getD, List.getElem?_eq_getElem (by rw [rowsOf_len]; exact hk)]
          simp only [Option.getD_some]
          rw [rowsOf_get]
          exact (ok.size hb hk (hne k hk)).2.1
        · rw [if_neg hz] at h; cases h
      | [i], h =>
        simp only at h
        injection h with h
        injection h with e1 e2
        subst e1; subst e2
        obtain ⟨p1, p2, p3, p4, p5⟩ := one_long ok hb h3 hms
        rw [hl] at p2
        refine ⟨hl, h3, by omega, by simp [rowsOf_len], p2, p3, fun k hk => ?_, fun r hr => ?_⟩
        · rw [List.getD_eq_getElem?_getD, List.getElem?_set]
          by_cases e : i = k
          · subst e
            rw [if_pos rfl, if_pos (by rw [rowsOf_len]; exact hk)]
            simp only [Option.getD_some]
            exact xorN_length _ _
          · rw [if_neg e, ← List.getD_eq_getElem?_getD]
            exact p4 k hk (fun h => e h.symm)
        · rcases List.mem_or_eq_of_mem_set hr with h1 | h1
          · exact rowsOf_byte hb r h1
          · rw [h1]
            exact xorN_byte _ _ (fun r hr => rowsOf_byte hb r (List.mem_of_mem_eraseIdx hr))
      | a :: b :: r, h => simp only at h; cases h
  · rw [if_neg h1] at h; cases h

theorem u8_inj {a b : Int} (ha : 0 ≤ a ∧ a ≤ 255) (hb : 0 ≤ b ∧ b ≤ 255) (h : UInt8.ofNat a.toNat = UInt8.ofNat b.toNat) : a = b := by
  have := congrArg UInt8.toNat h
  simp only [UInt8.toNat_ofNat'] at this
  omega
theorem bytesOf_inj : ∀ {a b : List Int}, (∀ z ∈ a, 0 ≤ z ∧ z ≤ 255) → (∀ z ∈ b, 0 ≤ z ∧ z ≤ 255) → Lib.bytesOf a = Lib.bytesOf b → a = b
  | [], [], _, _, _ => rfl
  | [], _ :: _, _, _, h => by simp [Lib.bytesOf] at h
  | _ :: _, [], _, _, h => by simp [Lib.bytesOf] at h
  | x :: a, y :: b, ha, hb, h => by
    simp only [Lib.bytesOf, List.map_cons, List.cons.injEq] at h
    rw [u8_inj (ha x (by simp)) (hb y (by simp)) h.1, bytesOf_inj (fun z hz => ha z (by simp [hz])) (fun z hz => hb z (by simp [hz])) h.2]
theorem u8_back {z : Int} (h : 0 ≤ z ∧ z ≤ 255) : ((UInt8.ofNat z.toNat).toNat : Int) = z := by
  rw [UInt8.toNat_ofNat']
  omega
theorem holds_row {w : World} {v : Value} {zs : List Int} (h : RowAt w v zs) : Lib.HoldsBytes w v (Lib.bytesOf zs) := by
  obtain ⟨a, cap, rfl, h1, h2, h3, h4, h5⟩ := h
  refine ⟨a, cap, by simp [Lib.bytesOf], fun e => ?_, fun ad had i x hx => ?_⟩
  · have := h3 e
    rw [List.eq_nil_of_length_eq_zero (show zs.length = 0 by omega)]; rfl
  · unfold Lib.bytesOf at hx
    rw [List.getElem?_map] at hx
    cases hz : zs[i]? with
    | none => rw [hz] at hx; cases hx
    | some z =>
      rw [hz] at hx
      simp only [Option.map_some, Option.some.injEq] at hx
      subst hx
      rw [u8_back (h4 z (List.mem_of_getElem? hz))]
      exact h5 ad had i _ (by rw [List.getElem?_map, hz]; rfl)
theorem join_flat (ls : List (List UInt8)) : Lib.join ls [] = ls.flatten := by
  cases ls with
  | nil => rfl
  | cons x r => rw [Lib.join_cons, Lib.joinTail]; simp
theorem flat_bytes (ls : List (List Int)) : (ls.map Lib.bytesOf).flatten = Lib.bytesOf ls.flatten := by
  unfold Lib.bytesOf
  rw [List.map_flatten]
theorem lens_bytes (ls : List (List Int)) : Lib.lens (ls.map Lib.bytesOf) = ls.flatten.length := by
  unfold Lib.lens
  rw [List.length_flatten, List.map_map]
  congr 1
  apply List.map_congr_left
  intro l _
  simp [Lib.bytesOf]
theorem bjoin_any (w : World) (g n c : Nat) (vs : List Value) (ls : List (List Int)) (h2 : 2 ≤ n) (hn : ls.length = n) (hv : vs.length = n) (hc : n ≤ c) (hcell : ∀ (i : Nat) u, vs[i]? = some u → w.cell? ⟨g, i, none⟩ = some u) (hr : ∀ j (h : j < vs.length), RowAt w vs[j] (ls.getD j [])) (hb : BytesL ls)
    (h16 : n ≤ 16) (hlen : ls.flatten.length ≤ 1000000) : Calls Try.prog 73 #[.slice (some ⟨g, 0, none⟩) n c, .slice none 0 0] w (RowPost w ls.flatten) := by
  have hfb : ∀ z ∈ ls.flatten, 0 ≤ z ∧ z ≤ 255 := fun z hz => by
    obtain ⟨l, hl, hz⟩ := List.mem_flatten.1 hz
    exact hb l hl z hz
  have hP : Lib.PartsAt w ⟨g, 0, none⟩ vs (ls.map Lib.bytesOf) := by
    refine ⟨by simp [hn, hv], fun i v hvi => ?_, fun i v l hvi hli => ?_⟩
    · rw [Addr.add_lit, Nat.zero_add]; exact hcell i v hvi
    · obtain ⟨hi, rfl⟩ := List.getElem?_eq_some_iff.1 hvi
      rw [List.getElem?_map] at hli
      have hi2 : i < ls.length := by omega
      rw [List.getElem?_eq_getElem hi2] at hli
      simp only [Option.map_some, Option.some.injEq] at hli
      subst hli
      have := hr i hi
      rw [List.getD_eq_getElem?_getD, List.getElem?_eq_getElem hi2] at this
      exact holds_row this
  have H := Any.bytes_Join_many Try.joinB g 0 n c vs (ls.map Lib.bytesOf) (.slice none 0 0) [] w (by simp [hn]) h2 hP hc ⟨none, 0, rfl, fun _ => rfl, fun a h => by cases h⟩ (by omega) (by rw [lens_bytes, List.length_nil, Nat.zero_mul]; omega)
  refine H.mono ?_
  rintro e w' ⟨v', rfl, ⟨g', cap, zs, rfl, hg, hlc, hcm, hzl, hzb, hbz, hcell', hfr⟩, hbel⟩
  rw [join_flat, flat_bytes] at hbz hlc ⊢
  have hl : (Lib.bytesOf ls.flatten).length = ls.flatten.length := List.length_map _
  rw [hl] at hbz hlc ⊢
  have hz : zs.take ls.flatten.length = ls.flatten := bytesOf_inj (fun z hz => by have := hzb z (List.mem_of_mem_take hz); omega) hfb hbz
  refine ⟨some ⟨g', 0, none⟩, cap, rfl, ⟨_, cap, rfl, hlc, hcm, by simp, hfb, ?_⟩, ?_, ⟨hbel.os, hbel.tape, hbel.output, hbel.size, fun k hk _ => hbel.block k hk⟩⟩
  · rintro ad had j u hu
    obtain rfl := Option.some.inj had
    rw [Addr.add_lit, Nat.zero_add]
    have hj : j < ls.flatten.length := by
      have := (List.getElem?_eq_some_iff.1 hu).1
      rw [List.length_map] at this
      exact this
    rw [hcell' j (by omega), ← hu, List.getElem?_map, ← hz, List.getElem?_take, if_pos hj, List.getElem?_eq_getElem (by omega), List.getD_eq_getElem?_getD, List.getElem?_eq_getElem (by omega)]
    rfl
  · rintro ad had
    obtain rfl := Option.some.inj had
    exact hg
theorem heads_cut (W : World) (g n k : Nat) (hk : k ≤ n) (hn : 1 ≤ n) : (Instr.sliceAt 26 (.slice (some ⟨g, 0, none⟩) n n) none (some (.int .i64 (k : Int))) none).run Try.prog W = .ok (.slice (some ⟨g, 0, none⟩) k n) W := by
  rw [run_sliceAt_slice W 26 _ _ _ _ rows_elem, run_slice_h W 26 _ n n rows_elem .i64 k (by omega) (by omega), rows_el, size_row]
  simp [Result.andThen, sliced, Addr.add]

/-- What a closure leaves that attempt is handed. -/
def BClo (w : World) (r : List Int × Int) (e : Ending) (w' : World) : Prop :=
  Keeps [] w w' ∧ ((r.2 = 0 ∧ ∃ a c, e = .returned (.slice a r.1.length c) ∧ RowAt w' (.slice a r.1.length c) r.1 ∧ ∀ ad, a = some ad → w.heap.size ≤ ad.block) ∨ (r.2 ≠ 0 ∧ r.1 = [] ∧ e = gaveUp r.2))
/-- What attempt answers. -/
def AtB (w : World) (r : List Int × Int) (e : Ending) (w' : World) : Prop :=
  Keeps [] w w' ∧ ∃ a c, e = .returned (.tuple #[.slice a r.1.length c, .int .i64 r.2]) ∧ RowAt w' (.slice a r.1.length c) r.1 ∧ ∀ ad, a = some ad → w.heap.size ≤ ad.block
end Go.Proofs.Ytoglcohdanpciaa


/- layout: attempt of a row. -/
namespace Go.Proofs.Ytoglcohdanpciaa
open Go.RowKit Go.Shelf
set_option maxRecDepth 100000
set_option linter.unusedSimpArgs false
set_option linter.unusedVariables false

set_option maxHeartbeats 800000 in
theorem catchB_panicking (b : Nat) (why : Int) (y : Value) (older : List PanicEntry) (w : World) (hb : w.heap[b]? = some (.cells #[y] 23 (0, 0))) :
    CallsD Try.prog 116 #[.pointer (some ⟨b, 0, none⟩)] (.panicking ({ v := .iface 23 (.int .i64 why), recovered := false } :: older)) w fun e u' w' =>
      e = .returned (.tuple #[]) ∧ u' = .panicking ({ v := .iface 23 (.int .i64 why), recovered := true } :: older) ∧ w' = w.setCell ⟨b, 0, none⟩ (.int .i64 why) := by
  have c0 : w.cell? ⟨b, 0, none⟩ = some y := by simp [World.cell?, hb]
  have f0 : w.frozen? ⟨b, 0, none⟩ = false := by simp [World.frozen?, hb]
  have t1 := ta_hit
  refine callsD_of_wpS Try.func116 rfl fun c₀ cs hu => ?_
  simp only [Try.ntmps116, List.size_toArray, List.length_cons, List.length_nil, Nat.reduceAdd, Nat.reduceSub, Array.replicate_succ,
     Array.replicate_zero, List.push_toArray, List.append_toArray, List.nil_append, List.cons_append]
  have hrec : recoverD (c₀ :: cs) = some (.iface 23 (.int .i64 why), { c₀ with mode := .panicking ({ v := .iface 23 (.int .i64 why), recovered := true } :: older) } :: cs) := by
    simp only [recoverD, hu]
  refine wpS_recover_lit rfl rfl (Or.inl hrec) ?_
  simp only [Act.put]
  go_wp2_with fail
  exact ⟨rfl, _, rfl, .tuple #[], results_none rfl _ _ _, rfl, rfl, rfl⟩
set_option maxHeartbeats 800000 in
theorem catchB_idle (p : Addr) (w : World) :
    CallsD Try.prog 116 #[.pointer (some p)] .returning w fun e u' w' => e = .returned (.tuple #[]) ∧ u' = .returning ∧ w' = w := by
  have t1 := ta_nil
  refine callsD_of_wpS Try.func116 rfl fun c₀ cs hu => ?_
  simp only [Try.ntmps116, List.size_toArray, List.length_cons, List.length_nil, Nat.reduceAdd, Nat.reduceSub, Array.replicate_succ,
     Array.replicate_zero, List.push_toArray, List.append_toArray, List.nil_append, List.cons_append]
  have hrec : recoverD (c₀ :: cs) = none := by simp only [recoverD, hu]
  refine wpS_recover_lit rfl rfl (Or.inr ⟨hrec, rfl, rfl⟩) ?_
  simp only [Act.put]
  go_wp2_with fail
  refine ⟨rfl, .returning, ?_, .tuple #[], results_none rfl _ _ _, rfl, rfl, rfl⟩
  rw [← hu]
theorem b_ret {fn : Func} {p q : Tmp} (hr : fn.results = #[.tmp p, .cell q 23]) {tmps : Array Value} {w : World} {d : Addr} {x y : Value} (hp : tmps.getD p undef = x) (hq : tmps.getD q undef = .pointer (some d)) (hd : w.cell? d = some y) : (results fn tmps).run Try.prog w = .ok (.tuple #[x, y]) w := by
  have hp' : tmps[p]?.getD undef = x := by simpa using hp
  have hq' : tmps[q]?.getD undef = .pointer (some d) := by simpa using hq
  have hw : (loadVar 23 d).run Try.prog w = .ok y w := loadErr13 hd
  simp [results, hr, hp', hq', asAddr, hw]
set_option maxHeartbeats 3200000 in
theorem attB_any (gf : Nat) (lb : Array Value) (w : World) (r : List Int × Int) (hgf : Enters Try.prog gf) (hc : ∀ W, Keeps [] w W → Calls Try.prog gf lb W (BClo W r)) :
    Calls Try.prog 70 #[.func (.func gf) #[] lb] w (AtB w r) := by
  have hmf : ∀ (fn : Fn) (first cap : Array Value) (w : World), (Instr.makeFunc fn first cap).run Try.prog w = .ok (.func fn first cap) w := fun _ _ _ _ => rfl
  have kb : Keeps [] w (w.alloc (.cells #[.int .i64 0] 23)) := (Keeps.refl [] w).alloc _
  have EB := hid (heap_alloc_new w (.cells #[.int .i64 0] 23))
  have KB := hid kb
  have HGF := hid hgf
  have A := hid (hc _ kb)
  clear hgf hc kb
  go_enter_defers Try.func70, Try.ntmps70
  go_wp2_with fail
  rw [HGF.out, Oper.upon_enter]
  first | refine A.out.mono ?_ | (rw [show (#[] ++ lb : Array Value) = lb from by simp]; refine A.out.mono ?_) | (simp only [List.append_toArray, List.nil_append, Array.empty_append]; refine A.out.mono ?_)
  rintro e w2 ⟨k2, ⟨h0, a, c, rfl, r1, r2⟩ | ⟨h0, hn, rfl⟩⟩
  · have K2 := hid (KB.out.trans k2)
    have E2 := hid ((k2.block w.heap.size (by simp) (by simp)).trans EB.out)
    have H0 := hid h0
    have N2 := hid r2
    have R2 := hid r1
    have SZ := hid (show w.heap.size + 1 ≤ w2.heap.size by have := k2.size; simpa using this)
    obtain ⟨cc, ff⟩ := five_cells E2.out 0
    simp only [List.getElem?_toArray, List.getElem?_cons_zero] at cc
    clear k2 h0 r1 r2
    go_wp2_with fail
    refine leaves_cons (f := 116) (args := #[.pointer (some ⟨w.heap.size, 0, none⟩)]) (by simp) (by simp [go_sem]) ?_
    refine (catchB_idle _ _).mono ?_
    rintro e u' w4 ⟨rfl, rfl, rfl⟩
    have sk : Keeps [w.heap.size] w2 (w2.setCell ⟨w.heap.size, 0, none⟩ (.int .i64 0)) := set_keep
    have q3 := set_five (i := 0) E2.out (.int .i64 0)
    have NN : ∀ ad, a = some ad → w.heap.size + 1 ≤ ad.block := fun ad had => by have := N2.out ad had; rw [World.size_alloc] at this; exact this
    refine ⟨_, b_ret rfl rfl rfl (five_cells q3 0).1, K2.out.trans' sk (fun i hi hm => by simp at hm; omega), a, c, ?_, ?_, fun ad had => by have := NN ad had; omega⟩
    · rw [H0.out]; rfl
    · exact R2.out.keep sk (by
        intro ad n c' e hne hm
        injection e with e _ _
        have := NN ad e
        simp at hm
        omega)
  · have K2 := hid (KB.out.trans k2)
    have E2 := hid ((k2.block w.heap.size (by simp) (by simp)).trans EB.out)
    have HN := hid hn
    clear k2 h0 hn
    unfold gaveUp
    go_wp2_with fail
    refine leaves_cons (f := 116) (args := #[.pointer (some ⟨w.heap.size, 0, none⟩)]) (by simp) (by simp [go_sem]) ?_
    refine (catchB_panicking w.heap.size _ _ [] w2 E2.out).mono ?_
    rintro e u' w4 ⟨rfl, rfl, rfl⟩
    have sk : Keeps [w.heap.size] w2 (w2.setCell ⟨w.heap.size, 0, none⟩ (.int .i64 r.2)) := set_keep
    have q3 := set_five (i := 0) E2.out (.int .i64 r.2)
    refine ⟨_, b_ret rfl rfl rfl (five_cells q3 0).1, K2.out.trans' sk (fun i hi hm => by simp at hm; omega), none, 0, ?_, ?_, by simp⟩
    · rw [HN.out]; rfl
    · rw [HN.out]; exact RowAt.nil _
end Go.Proofs.Ytoglcohdanpciaa


/- layout: Join and Mend. -/
namespace Go.Proofs.Ytoglcohdanpciaa
open Go.RowKit Go.Shelf
set_option maxRecDepth 100000
set_option linter.unusedSimpArgs false
set_option linter.unusedVariables false

theorem whole_err {s : Spe} {ls : List (List Int)} {n e : Int} (h : wholeL s ls n = .error e) : e ≠ 0 := by
  unfold wholeL at h
  split at h
  · split at h
    · injection h with h; omega
    · split at h
      · split at h
        · cases h
        · injection h with h; omega
      · cases h
      · injection h with h; omega
  · injection h with h; omega
theorem enters_joinC : Enters Try.prog 71 := enters_of Try.func71 (by kernel_rfl) rfl
theorem enters_mendC : Enters Try.prog 75 := enters_of Try.func75 (by kernel_rfl) rfl
/-- The rows of bytes alone are as a stripe is cut. -/
theorem canon_take {rows : List (List Int)} {z n : Nat} (hn : 1 ≤ n) (hl : rows.length = n) (h : ∀ k, k < n → (rows.getD k []).length = longN k z n) : Canon (rows.take (n - 1)) z n := by
  refine ⟨by rw [List.length_take]; omega, fun i hi => ?_⟩
  rw [List.length_take] at hi
  rw [List.getElem_take]
  have := h i (by omega)
  rw [List.getD_eq_getElem?_getD, List.getElem?_eq_getElem (by omega)] at this
  simp only [Option.getD_some] at this
  rw [this, longN_ne (by omega)]
set_option maxHeartbeats 3200000 in
theorem joinC_any (W : World) (bs bf bn : Nat) (s : Spe) (fv : Value) (ls : List (List Int)) (n : Int) (cs : W.rangeAt bs 0 s.cells) (cf : W.cell? ⟨bf, 0, none⟩ = some fv) (cn : W.cell? ⟨bn, 0, none⟩ = some (.int .i64 n)) (hr : RsAt W fv ls) (hfew : ∀ l ∈ ls, l.length ≤ 35184372088832) :
    Calls Try.prog 71 #[.pointer (some ⟨bs, 0, none⟩), .pointer (some ⟨bf, 0, none⟩), .pointer (some ⟨bn, 0, none⟩)] W (BClo W (joinL s ls n)) := by
  obtain ⟨fa, fc, hfv⟩ : ∃ a c, fv = .slice a ls.length c := by
    obtain ⟨rs, rfl, ⟨a, c, e, _⟩⟩ := hr
    exact ⟨a, c, by rw [e]; simp [raws]⟩
  subst hfv
  have BY := hid hr.byte
  have A := whole_any W s _ ls n hr hfew
  obtain ⟨r, hre⟩ : ∃ r, r = joinL s ls n := ⟨_, rfl⟩
  rw [← hre]
  unfold joinL at hre
  obtain ⟨x, hx⟩ : ∃ x, x = wholeL s ls n := ⟨_, rfl⟩
  rw [← hx] at hre A
  have HX := hid hx
  have CS := hid cs
  clear hx hr hfew cs
  match x with
  | .error e0 =>
    have HRE := hid hre
    have HE := hid (whole_err HX.out.symm)
    clear hre
    go_enter Try.func71, Try.ntmps71
    go_wp2_with (first | (refine wpList_isW rfl _ _ (exec_load _ _ _ _ rfl rfl (loadSpe _ bs 0 s CS.out)) ?_) | fail)
    refine A.mono ?_
    clear A
    rintro e w2 ⟨k2, he⟩
    simp only at he
    subst he
    have K2 := hid k2
    clear k2
    unfold gaveUp
    go_wp2_with fail
    refine ⟨rfl, K2.out, .inr ?_⟩
    rw [HRE.out]
    exact ⟨HE.out, rfl, rfl⟩
  | .ok (rows, z) =>
    have HRE := hid hre
    obtain ⟨wl, w3, w16, wr, wm, we, wk, wb⟩ := whole_rows BY.out HX.out.symm
    subst wl
    obtain ⟨⟨_, _⟩, z0, z1⟩ := mayHv_is.1 wm
    have hcan := canon_take (z := z.toNat) (by omega) wr wk
    have hflat := hcan.flat w3
    have HFL := hid (show (rows.take (ls.length - 1)).flatten.length ≤ 1000000 by rw [hflat]; omega)
    have WR := hid wr
    have WB := hid (show BytesL (rows.take (ls.length - 1)) from fun r hr => wb r (List.mem_of_mem_take hr))
    have hm1 : (ls.length : Int) - 1 = ((ls.length - 1 : Nat) : Int) := by omega
    have HM1 := hid hm1
    clear hre wm we wk wb z0 z1 hcan hflat wr hm1
    go_enter Try.func71, Try.ntmps71
    go_wp2_with (first | (refine wpList_isW rfl _ _ (exec_load _ _ _ _ rfl rfl (loadSpe _ bs 0 s CS.out)) ?_) | fail)
    refine A.mono ?_
    clear A
    rintro e w2 ⟨k2, g, vs, rfl, hb, hh, hg⟩
    have K2 := hid k2
    have HB := hid hb
    have HH := hid hh
    have LV := hid (show vs.length = ls.length from (show vs.length = rows.length from hh.len).trans WR.out)
    have SZ := hid k2.size
    have cn2 := k2.cell cn (by simp)
    have HC := hid (fun W => heads_cut W g ls.length (ls.length - 1) (by omega) (by omega))
    have BJ := bjoin_any w2 g (ls.length - 1) ls.length (vs.take (ls.length - 1)) (rows.take (ls.length - 1)) (by omega) (by rw [List.length_take, WR.out]; omega) (by rw [List.length_take, LV.out]; omega) (by omega)
      (fun i u hu => by
        rw [(five_cells hb i).1]
        simp only [List.getElem?_toArray]
        rw [List.getElem?_take] at hu
        split at hu
        · exact hu
        · cases hu)
      (fun j hj => by
        have hj' : j < ls.length - 1 := by rw [List.length_take] at hj; omega
        have := hh.row j (by have := LV.out; omega)
        rw [List.getElem_take, List.getD_eq_getElem?_getD, List.getElem?_take, if_pos hj', ← List.getD_eq_getElem?_getD]
        exact this) WB.out (by omega) HFL.out
    obtain ⟨fl, hfl⟩ : ∃ fl, fl = (rows.take (ls.length - 1)).flatten := ⟨_, rfl⟩
    rw [← hfl] at BJ
    have HRF := hid (show r = (fl, 0) by rw [HRE.out, hfl])
    clear k2 hb hh hg hfl
    go_wp2_with (first | (rw [HM1.out]) | (refine wpList_is rfl _ _ (exec_sliceK 26 _ _ _ _ _ rfl (by first | exact HC.out _ | (simp only [Option.map_some, Option.map_none]; rw [HM1.out]; exact HC.out _))) ?_) | fail)
    refine BJ.mono ?_
    clear BJ
    rintro e w4 ⟨a, c, rfl, r1, r2, k4⟩
    have R1 := hid r1
    have R2 := hid r2
    have K4 := hid k4
    clear r1 r2 k4
    go_wp2_with fail
    go_ret
    refine ⟨K2.out.trans K4.out, .inl ?_⟩
    rw [HRF.out]
    exact ⟨rfl, a, c, rfl, R1.out, fun ad had => by have := R2.out ad had; have := SZ.out; omega⟩

/-- Three boxes: a stripe, rows, a number. -/
theorem boxes3 (w : World) (s : Spe) (v : Value) (n : Int) (va : Option Addr) (vn vc : Nat) (hv : v = .slice va vn vc) :
    ∃ w3, w3 = ((w.alloc (.cells #[.int .i64 s.c, .int .i64 s.l, .int .i64 s.n] 30)).alloc (.cells #[.slice va vn vc] 26)).alloc (.cells #[.int .i64 n] 3) ∧ Keeps [] w w3 ∧ w3.rangeAt w.heap.size 0 s.cells ∧ w3.cell? ⟨w.heap.size + 1, 0, none⟩ = some v ∧ w3.cell? ⟨w.heap.size + 2, 0, none⟩ = some (.int .i64 n) ∧ w3.heap.size = w.heap.size + 3 := by
  subst hv
  have kk : ∀ (W : World) (o : Obj), Keeps [] W (W.alloc o) := fun W o => (Keeps.refl [] W).alloc o
  have hh : ∀ (W : World) (o : Obj) (n : Nat), W.heap.size = n → (W.alloc o).heap[n]? = some o := fun W o n h => by rw [← h]; exact heap_alloc_new W o
  have hold : ∀ (W : World) (o p : Obj) (n : Nat), W.heap[n]? = some p → (W.alloc o).heap[n]? = some p := fun W o p n h => ((kk W o).block n (lt_of_block h) (by simp)).trans h
  refine ⟨_, rfl, ((kk _ _).trans (kk _ _)).trans (kk _ _), range_cells (cs := s.cells) (hold _ _ _ _ (hold _ _ _ _ (hh _ _ _ rfl))), (five_cells (hold _ _ _ _ (hh _ _ _ (by simp))) 0).1, (five_cells (hh _ _ _ (by simp)) 0).1, by simp⟩
set_option maxHeartbeats 3200000 in
theorem lJoin_any (w : World) (s : Spe) (fv : Value) (ls : List (List Int)) (n : Int) (hr : RsAt w fv ls) (hfew : ∀ l ∈ ls, l.length ≤ 35184372088832) :
    Calls Try.prog 31 #[.agg #[.int .i64 s.c, .int .i64 s.l, .int .i64 s.n], fv, .int .i64 n] w (AtB w (joinL s ls n)) := by
  obtain ⟨fa, fn, fc, hfv⟩ : ∃ a n c, fv = .slice a n c := by
    obtain ⟨rs, rfl, ⟨a, c, e, _⟩⟩ := hr
    exact ⟨a, _, c, e⟩
  obtain ⟨w3, hw3, k3, c1, c2, c3, c4⟩ := boxes3 w s fv n fa fn fc hfv
  subst hfv
  have A := attB_any 71 #[.pointer (some ⟨w.heap.size, 0, none⟩), .pointer (some ⟨w.heap.size + 1, 0, none⟩), .pointer (some ⟨w.heap.size + 2, 0, none⟩)] w3 (joinL s ls n) enters_joinC
    (fun W k => joinC_any W w.heap.size (w.heap.size + 1) (w.heap.size + 2) s _ ls n (fun i v hv => k.cell (c1 i v hv) (by simp)) (k.cell c2 (by simp)) (k.cell c3 (by simp)) ((hr.keep k3).keep k) hfew)
  obtain ⟨r, hre⟩ : ∃ r, r = joinL s ls n := ⟨_, rfl⟩
  rw [← hre] at A ⊢
  have HW3 := hid hw3
  have K3 := hid k3
  have S3 := hid c4
  clear hw3 k3 c1 c2 c3 c4 hr hfew hre
  go_enter Try.func31, Try.ntmps31
  go_wp2_with fail
  rw [← HW3.out]
  refine A.mono ?_
  clear A
  rintro e w4 ⟨k4, a, c, rfl, r1, r2⟩
  have K4 := hid k4
  have R1 := hid r1
  have R2 := hid r2
  clear k4 r1 r2
  go_wp2_with fail
  go_ret2
  exact ⟨K3.out.trans K4.out, a, c, rfl, R1.out, fun ad had => by have := R2.out ad had; have := S3.out; omega⟩
end Go.Proofs.Ytoglcohdanpciaa


/- layout: Mend. -/
namespace Go.Proofs.Ytoglcohdanpciaa
open Go.RowKit Go.Shelf
set_option maxRecDepth 100000
set_option linter.unusedSimpArgs false
set_option linter.unusedVariables false

/-- Heads are copied. -/
theorem cloneRows_any (w : World) (v : Value) (ls : List (List Int)) (h : RsAt w v ls) (hne : 0 < ls.length) (hl : ls.length ≤ 1099511627776) :
    Calls Try.prog 76 #[v] w fun e w' => ∃ g c vs, e = .returned (.slice (some ⟨g, 0, none⟩) ls.length c) ∧ w'.ownsRow w.heap.size 34 1 (.slice (some ⟨g, 0, none⟩) ls.length c) ls.length vs ∧ vs.length = ls.length ∧ (∀ j (h : j < vs.length), RowAt w vs[j] (ls.getD j [])) ∧ Keeps [] w w' := by
  obtain ⟨rs, rfl, hr⟩ := h
  have hlen : (raws rs).length = rs.length := by simp [raws]
  rw [hlen] at hne hl ⊢
  obtain ⟨b, off, cap, rfl, hc, hcs⟩ := hr.open hne
  obtain ⟨i0, hi, hz0, hz1, hz2⟩ := info_parts info25
  have H := AnyE.slices_Clone Try.cloneR i0 (.slice none 0 0) 1 24 hi hz0 hz1 hz2 rfl (by omega) (fun w => size_row w) b off rs.length cap (rs.map fun r => r.1.1) w (by simp) (by unfold maxLen; omega) (by omega)
    (fun j u hu => by
      rw [List.getElem?_map] at hu
      cases hj : rs[j]? with
      | none => rw [hj] at hu; cases hu
      | some x =>
        rw [hj] at hu
        obtain ⟨hjl, rfl⟩ := List.getElem?_eq_some_iff.1 hj
        simp only [Option.map_some, Option.some.injEq] at hu
        subst hu
        exact hcs j hjl)
    (heads_one rs)
  refine H.mono ?_
  rintro e w' ⟨v', rfl, ho, hnn, hbel⟩
  obtain ⟨a, c, rfl⟩ := ownsRow_slice ho
  have : ∃ g, a = some ⟨g, 0, none⟩ := by
    rcases ho.2 with ⟨h', h0⟩ | ⟨g, cap', cur, h', _⟩
    · omega
    · injection h' with h' _ _; exact ⟨g, h'⟩
  obtain ⟨g, rfl⟩ := this
  have ho' : w'.ownsRow w.heap.size 34 1 (.slice (some ⟨g, 0, none⟩) rs.length c) rs.length (rs.map fun r => r.1.1) := ho
  refine ⟨g, c, rs.map fun r => r.1.1, rfl, ho', by simp, fun j hj => ?_, ⟨hbel.os, hbel.tape, hbel.output, hbel.size, fun k hk _ => hbel.block k hk⟩⟩
  have hj' : j < rs.length := by simpa using hj
  rw [List.getElem_map, List.getD_eq_getElem?_getD]
  unfold raws
  rw [List.getElem?_map, List.getElem?_eq_getElem hj']
  exact rs[j].2.1
/-- What Mend makes of what whole answers. -/
def mendR (s : Spe) (k : Nat) (n : Int) : Except Int (List (List Int) × Int) → List Int × Int
  | .ok x => (headB13 ⟨s, k, n, x.2⟩ ++ x.1.getD k [], 0)
  | .error e => ([], e)
theorem mendL_is {s : Spe} {ls : List (List Int)} {k : Nat} {n : Int} (hk : k < ls.length) : mendL s ls (k : Int) n = mendR s k n (wholeL s (ls.set k []) n) := by
  unfold mendL
  rw [if_pos (by omega), Int.toNat_natCast]
  cases wholeL s (ls.set k []) n with
  | ok x => rfl
  | error e => rfl
theorem mendL_no {s : Spe} {ls : List (List Int)} {i n : Int} (h : i < 0 ∨ (ls.length : Int) ≤ i) : mendL s ls i n = ([], 1) := by
  unfold mendL
  rw [if_neg (by omega)]
set_option maxHeartbeats 25600000 in
theorem mendC_any (W : World) (bi bf bs bn : Nat) (s : Spe) (fv : Value) (ls : List (List Int)) (i n : Int) (ci : W.cell? ⟨bi, 0, none⟩ = some (.int .i64 i)) (cf : W.cell? ⟨bf, 0, none⟩ = some fv) (cs : W.rangeAt bs 0 s.cells) (cn : W.cell? ⟨bn, 0, none⟩ = some (.int .i64 n)) (hbs : bs < W.heap.size) (hr : RsAt W fv ls) (hl : ls.length ≤ 1099511627776) (hfew : ∀ l ∈ ls, l.length ≤ 35184372088832) :
    Calls Try.prog 75 #[.pointer (some ⟨bi, 0, none⟩), .pointer (some ⟨bf, 0, none⟩), .pointer (some ⟨bs, 0, none⟩), .pointer (some ⟨bn, 0, none⟩)] W (BClo W (mendL s ls i n)) := by
  obtain ⟨fa, fc, hfv⟩ : ∃ a c, fv = .slice a ls.length c := by
    obtain ⟨rs, rfl, ⟨a, c, e, _⟩⟩ := hr
    exact ⟨a, c, by rw [e]; simp [raws]⟩
  subst hfv
  obtain ⟨r, hre⟩ : ∃ r, r = mendL s ls i n := ⟨_, rfl⟩
  rw [← hre]
  have HRE := hid hre
  have CS := hid cs
  have HR := hid hr
  have HFW := hid hfew
  clear hre cs hr hfew
  by_cases h0 : i < 0
  · go_enter Try.func75, Try.ntmps75
    go_wp2_with fail
    refine ⟨rfl, Keeps.refl _ _, .inr ?_⟩
    rw [HRE.out, mendL_no (.inl h0)]
    exact ⟨by decide, rfl, rfl⟩
  · by_cases h1 : (ls.length : Int) ≤ i
    · go_enter Try.func75, Try.ntmps75
      go_wp2_with fail
      refine ⟨rfl, Keeps.refl _ _, .inr ?_⟩
      rw [HRE.out, mendL_no (.inr h1)]
      exact ⟨by decide, rfl, rfl⟩
    · obtain ⟨k, rfl⟩ := Int.eq_ofNat_of_zero_le (show 0 ≤ i by omega)
      have hk : k < ls.length := by omega
      have HRE2 := hid (show r = mendR s k n (wholeL s (ls.set k []) n) by rw [HRE.out, mendL_is hk])
      clear HRE h0 h1
      go_enter Try.func75, Try.ntmps75
      go_wp2_with fail
      refine (cloneRows_any W _ ls HR.out (by omega) hl).mono ?_
      rintro e w1 ⟨g, c, vs, rfl, ho, hlv, hrow, k1⟩
      -- the heads, one of them gone
      have hg := ho.lt g rfl
      have ci1 := k1.cell ci (by simp)
      have cn1 := k1.cell cn (by simp)
      have hcg := ho.cellAt k (by omega)
      have hfg := ho.frozenAt k
      have hvk : vs[k]? = some (vs[k]'(by omega)) := List.getElem?_eq_getElem _
      rw [hvk] at hcg
      obtain ⟨oa, oc, hov, _⟩ := hrow k (by omega)
      rw [hov] at hcg
      have sk : Keeps [g] w1 (w1.setCell ⟨g, k, none⟩ (.slice none 0 0)) := set_keep
      have own2 := (ho.stored k (.slice none 0 0)).1
      have K2 := hid (k1.trans' sk (S := []) (fun j hj hm => by simp at hm; omega))
      have hset : ∀ j, j < (vs.set k (.slice none 0 0)).length → True := fun _ _ => trivial
      have RS2 := hid (show RsAt (w1.setCell ⟨g, k, none⟩ (.slice none 0 0)) (.slice (some ⟨g, 0, none⟩) ls.length c) (ls.set k []) from by
        refine rs_own own2 (by simp [hlv]) (by simp) (fun j hj => ?_) (fun l hl' => ?_)
        · have hj' : j < vs.length := by simpa using hj
          rw [List.getElem_set, List.getD_eq_getElem?_getD, List.getElem?_set]
          by_cases e : k = j
          · subst e
            rw [if_pos rfl, if_pos rfl, if_pos (by omega)]
            exact RowAt.nil _
          · rw [if_neg e, if_neg e, ← List.getD_eq_getElem?_getD]
            exact (hrow j hj').keep (K2.out) (by intro _ _ _ _ _; simp)
        · rcases List.mem_or_eq_of_mem_set hl' with h | h
          · exact Nat.le_trans (HFW.out l h) (by omega)
          · rw [h]; simp)
      have FW2 := hid (show ∀ l ∈ ls.set k [], l.length ≤ 35184372088832 from fun l hl' => by
        rcases List.mem_or_eq_of_mem_set hl' with h | h
        · exact HFW.out l h
        · rw [h]; simp)
      have ci2 := K2.out.cell ci (by simp)
      have cn2 := K2.out.cell cn (by simp)
      have CS2 := hid (show (w1.setCell ⟨g, k, none⟩ (.slice none 0 0)).rangeAt bs 0 s.cells from fun j v hv => K2.out.cell (CS.out j v hv) (by simp))
      obtain ⟨w2, hw2⟩ : ∃ x, x = w1.setCell ⟨g, k, none⟩ (.slice none 0 0) := ⟨_, rfl⟩
      rw [← hw2] at K2 RS2 CS2 ci2 cn2
      have HW2 := hid hw2
      have ls2 : (ls.set k []).length = ls.length := by simp
      have A := whole_any w2 s _ (ls.set k []) n RS2.out FW2.out
      rw [ls2] at A
      obtain ⟨x, hx⟩ : ∃ x, x = wholeL s (ls.set k []) n := ⟨_, rfl⟩
      rw [← hx] at A
      have HX := hid hx
      have HRE3 := hid (show r = mendR s k n x from HRE2.out.trans (by rw [hx]))
      have BY := hid RS2.out.byte
      have LS2 := hid ls2
      clear hx HRE2 hw2 hset ho hrow k1 hov hvk sk own2 hg ls2 hlv
      match x with
      | .error e0 =>
        have HRR := hid (show r = ([], e0) from HRE3.out)
        have HE := hid (whole_err HX.out.symm)
        go_wp2_with (first | (rw [← HW2.out]; refine wpList_isW rfl _ _ (exec_load _ _ _ _ rfl rfl (loadSpe w2 bs 0 s CS2.out)) ?_) | fail)
        refine A.mono ?_
        clear A
        rintro e w3 ⟨k3, he⟩
        simp only at he
        subst he
        have K3 := hid k3
        clear k3
        unfold gaveUp
        go_wp2_with fail
        refine ⟨rfl, K2.out.trans K3.out, .inr ?_⟩
        rw [HRR.out]
        exact ⟨HE.out, rfl, rfl⟩
      | .ok x =>
        have HRR := hid (show r = (headB13 ⟨s, k, n, x.2⟩ ++ x.1.getD k [], 0) from HRE3.out)
        obtain ⟨wl, w3', w16, wr, wm, we, wk, wb⟩ := whole_rows BY.out HX.out.symm
        rw [LS2.out] at wl w3' w16 wr wk
        subst wl
        obtain ⟨⟨_, _⟩, z0, z1⟩ := mayHv_is.1 wm
        have HFIT := hid (fitH_of (i := k) (n := ls.length) (z := x.2) we ⟨by omega, by omega, by omega, by omega, by omega, by omega⟩)
        have HLEN := hid (show (x.1.getD k []).length ≤ 65536 by
          rw [wk k hk]
          have := longN_le k x.2.toNat ls.length
          have := eN_le x.2.toNat ls.length
          omega)
        have WR := hid wr
        clear wm we wk wb z0 z1 wr
        go_wp2_with (first | (rw [← HW2.out]; refine wpList_isW rfl _ _ (exec_load _ _ _ _ rfl rfl (loadSpe w2 bs 0 s CS2.out)) ?_) | fail)
        refine A.mono ?_
        clear A
        rintro e w3 ⟨k3, g3, fs, rfl, hb, hh, hg3⟩
        have hh' := hh
        have K3 := hid (K2.out.trans k3)
        have LF := hid (show fs.length = ls.length from (show fs.length = x.1.length from hh.len).trans WR.out)
        have ci3 := hid (k3.cell ci2 (by simp))
        have cn3 := hid (k3.cell cn2 (by simp))
        have CS3 := hid (show w3.rangeAt bs 0 s.cells from fun j v hv => k3.cell (CS2.out j v hv) (by simp))
        have hkf : k < fs.length := by have := LF.out; omega
        obtain ⟨ua, un, uc, hu⟩ := hh.slices _ (List.getElem_mem hkf)
        have CU := hid (show w3.cell? ⟨g3, k, none⟩ = some (.slice ua un uc) by
          rw [(five_cells hb k).1]
          simp only [List.getElem?_toArray]
          rw [List.getElem?_eq_getElem hkf, hu])
        have RU := hid (show RowAt w3 (.slice ua un uc) (x.1.getD k []) by have := hh.row k hkf; rw [hu] at this; exact this)
        have LBS := hid (show bs < w3.heap.size by have := K3.out.size; omega)
        have LB := hid (show ∀ b i v, w3.cell? ⟨b, i, none⟩ = some v → b < w3.heap.size from fun b i v h => World.block_lt_of_cell? _ _ h)
        have SZ3 := hid K3.out.size
        clear hh hh' hb hg3 k3 hu hkf
        have fC := hid (show ∀ b i v, w3.cell? ⟨b, i, none⟩ = some v → ∀ W1, KpS [] w3.heap.size w3.drew W1 → W1.cell? ⟨b, i, none⟩ = some v from fun b i v hc W1 h => h.cell (by rw [World.cell?_drew]; exact hc) (LB.out _ _ _ hc) (by simp))
        have fS := hid (show ∀ W1, KpS [] w3.heap.size w3.drew W1 → W1.rangeAt bs 0 s.cells from fun W1 h i v hv => h.cell (by rw [World.cell?_drew]; exact CS3.out i v hv) LBS.out (by simp))
        go_wp2_with fail
        refine wp_region_any (by kernel_rfl) (wpAny_of_held (S := KpS [] w3.heap.size w3.drew) _ _ _ _ ?_)
        change wpAnyH _ _ _ _ _ _ _ _ w3.drew
        have s0 : KpS [] w3.heap.size w3.drew w3.drew := KpS.refl _ _ _
        refine held_take (i := 0) (v := .agg #[.int .i64 s.c, .int .i64 s.l, .int .i64 s.n]) rfl (by kernel_rfl) (by kernel_rfl) (by kernel_rfl) (fun _ _ _ h => h) rfl (fun W1 hW1 => exec_load _ _ _ _ rfl rfl (loadSpe W1 bs 0 s (fS.out W1 hW1))) (KpS.refl _ _ _) ?_
        simp only [Act.put, List.setIfInBounds_toArray, List.set_cons_zero, List.set_cons_succ]
        refine held_take (i := 1) (v := .int .i64 (k : Int)) rfl (by kernel_rfl) (by kernel_rfl) (by kernel_rfl) (fun _ _ _ h => h) rfl (fun W1 hW1 => exec_load _ _ _ _ rfl rfl (run_loadCell W1 _ _ _ (fC.out _ _ _ ci3.out W1 hW1) (agg_no _ (by kernel_rfl)))) (KpS.refl _ _ _) ?_
        simp only [Act.put, List.setIfInBounds_toArray, List.set_cons_zero, List.set_cons_succ]
        refine held_take (i := 2) (v := .int .i64 (ls.length : Int)) rfl (by kernel_rfl) (by kernel_rfl) (by kernel_rfl) (fun _ _ _ h => h) rfl (fun W1 hW1 => exec_load _ _ _ _ rfl rfl (run_loadCell W1 _ _ _ (fC.out _ _ _ cn3.out W1 hW1) (agg_no _ (by kernel_rfl)))) (KpS.refl _ _ _) ?_
        simp only [Act.put, List.setIfInBounds_toArray, List.set_cons_zero, List.set_cons_succ]
        refine held_take (i := 3) (v := .int .i64 x.2) rfl (by kernel_rfl) (by kernel_rfl) (by kernel_rfl) (fun _ _ _ h => h) rfl (fun W1 hW1 => by go_simp) (KpS.refl _ _ _) ?_
        simp only [Act.put, List.setIfInBounds_toArray, List.set_cons_zero, List.set_cons_succ]
        refine held_take (i := 4) (v := hdV13 ⟨s, k, ls.length, x.2⟩) rfl (by kernel_rfl) (by kernel_rfl) (by kernel_rfl) (fun _ _ _ h => h) rfl (fun W1 hW1 => exec_buildHd _ _ _ _ rfl s k ls.length x.2 rfl rfl rfl rfl) (KpS.refl _ _ _) ?_
        simp only [Act.put, List.setIfInBounds_toArray, List.set_cons_zero, List.set_cons_succ]
        refine held_take (i := 5) (v := .slice (some ⟨g3, 0, none⟩) ls.length ls.length) rfl (by kernel_rfl) (by kernel_rfl) (by kernel_rfl) (fun _ _ _ h => h) rfl (fun W1 hW1 => by go_simp) (KpS.refl _ _ _) ?_
        simp only [Act.put, List.setIfInBounds_toArray, List.set_cons_zero, List.set_cons_succ]
        refine held_take (i := 6) (v := .int .i64 (k : Int)) rfl (by kernel_rfl) (by kernel_rfl) (by kernel_rfl) (fun _ _ _ h => h) rfl (fun W1 hW1 => exec_load _ _ _ _ rfl rfl (run_loadCell W1 _ _ _ (fC.out _ _ _ ci3.out W1 hW1) (agg_no _ (by kernel_rfl)))) (KpS.refl _ _ _) ?_
        simp only [Act.put, List.setIfInBounds_toArray, List.set_cons_zero, List.set_cons_succ]
        refine held_take (i := 7) (v := .pointer (some ⟨g3, k, none⟩)) rfl (by kernel_rfl) (by kernel_rfl) (by kernel_rfl) (fun _ _ _ h => h) rfl (fun W1 hW1 => by go_simp) (KpS.refl _ _ _) ?_
        simp only [Act.put, List.setIfInBounds_toArray, List.set_cons_zero, List.set_cons_succ]
        refine held_take (i := 8) (v := .slice ua un uc) rfl (by kernel_rfl) (by kernel_rfl) (by kernel_rfl) (fun _ _ _ h => h) rfl (fun W1 hW1 => exec_load _ _ _ _ rfl rfl (run_loadCell W1 _ _ _ (fC.out _ _ _ CU.out W1 hW1) (agg_no _ (by kernel_rfl)))) (KpS.refl _ _ _) ?_
        simp only [Act.put, List.setIfInBounds_toArray, List.set_cons_zero, List.set_cons_succ]
        refine held_do (i := 9) (by kernel_rfl) rfl rfl (wp_enter (f := 59) (args := #[hdV13 ⟨s, k, ls.length, x.2⟩, .slice ua un uc]) (by go_simp) (lform_any w3.drew ⟨s, k, ls.length, x.2⟩ (.slice ua un uc) (x.1.getD k []) HFIT.out (RU.out.keep ((Keeps.refl [] w3).drew) (by intro _ _ _ _ _; simp)) HLEN.out) ?_)
        rintro e w4 ⟨a4, c4, rfl, r4, n4, k4⟩
        have sb : KpS [] w3.heap.size w3.drew w4 := KpS.keeps s0 k4 (Nat.le_refl _) (by simp)
        refine ⟨_, rfl, sb, ?_⟩
        simp only [Act.put, List.setIfInBounds_toArray, List.set_cons_zero, List.set_cons_succ]
        refine held_take (i := 10) (v := .slice a4 (headB13 ⟨s, k, ls.length, x.2⟩ ++ x.1.getD k []).length c4) rfl (by kernel_rfl) (by kernel_rfl) (by kernel_rfl) (fun _ _ _ h => h) rfl (fun W1 hW1 => exec_asg _ rfl rfl) (sb) ?_
        simp only [Act.put, List.setIfInBounds_toArray, List.set_cons_zero, List.set_cons_succ]
        refine wpAnyH_done (by kernel_rfl) ?_ _
        have K4 := hid (K3.out.drew.trans k4)
        have R4 := hid r4
        have N4 := hid n4
        clear s0 sb k4 r4 n4
        obtain ⟨fr, hfr⟩ : ∃ f, f = headB13 ⟨s, k, ls.length, x.2⟩ ++ x.1.getD k [] := ⟨_, rfl⟩
        rw [← hfr] at R4 ⊢
        have HRF := hid (show r = (fr, 0) by rw [HRR.out, hfr])
        clear hfr
        go_wp2_with fail
        go_ret
        refine ⟨K4.out, .inl ?_⟩
        rw [HRF.out]
        exact ⟨rfl, a4, c4, rfl, R4.out, fun ad had => by have h1 : w3.heap.size ≤ ad.block := N4.out ad had; have := SZ3.out; omega⟩
set_option maxHeartbeats 3200000 in
theorem lMend_any (w : World) (s : Spe) (fv : Value) (ls : List (List Int)) (i n : Int) (hr : RsAt w fv ls) (hl : ls.length ≤ 1099511627776) (hfew : ∀ l ∈ ls, l.length ≤ 35184372088832) :
    Calls Try.prog 33 #[.agg #[.int .i64 s.c, .int .i64 s.l, .int .i64 s.n], fv, .int .i64 i, .int .i64 n] w (AtB w (mendL s ls i n)) := by
  obtain ⟨fa, fn, fc, hfv⟩ : ∃ a n c, fv = .slice a n c := by
    obtain ⟨rs, rfl, ⟨a, c, e, _⟩⟩ := hr
    exact ⟨a, _, c, e⟩
  obtain ⟨w3, hw3, k3, c1, c2, c3, c4⟩ := boxes3 w s fv i fa fn fc hfv
  subst hfv
  have k4 : Keeps [] w3 (w3.alloc (.cells #[.int .i64 n] 3)) := (Keeps.refl [] w3).alloc _
  have c5 := (five_cells (heap_alloc_new w3 (.cells #[.int .i64 n] 3)) 0).1
  simp only [List.getElem?_toArray, List.getElem?_cons_zero] at c5
  rw [c4] at c5
  have A := attB_any 75 #[.pointer (some ⟨w.heap.size + 2, 0, none⟩), .pointer (some ⟨w.heap.size + 1, 0, none⟩), .pointer (some ⟨w.heap.size, 0, none⟩), .pointer (some ⟨w.heap.size + 3, 0, none⟩)] (w3.alloc (.cells #[.int .i64 n] 3)) (mendL s ls i n) enters_mendC
    (fun W k => mendC_any W (w.heap.size + 2) (w.heap.size + 1) w.heap.size (w.heap.size + 3) s _ ls i n (k.cell (k4.cell c3 (by simp)) (by simp)) (k.cell (k4.cell c2 (by simp)) (by simp)) (fun i v hv => k.cell (k4.cell (c1 i v hv) (by simp)) (by simp)) (k.cell c5 (by simp)) (by have := k.size; have := k4.size; omega) ((hr.keep (k3.trans k4)).keep k) hl hfew)
  obtain ⟨r, hre⟩ : ∃ r, r = mendL s ls i n := ⟨_, rfl⟩
  rw [← hre] at A ⊢
  have HW3 := hid hw3
  have K3 := hid (k3.trans k4)
  have S3 := hid c4
  clear hw3 k3 c1 c2 c3 c4 hr hfew hre k4 c5
  go_enter Try.func33, Try.ntmps33
  go_wp2_with fail
  rw [← HW3.out]
  refine A.mono ?_
  clear A
  rintro e w4 ⟨k4, a, c, rfl, r1, r2⟩
  have K4 := hid k4
  have R1 := hid r1
  have R2 := hid r2
  clear k4 r1 r2
  go_wp2_with fail
  go_ret2
  exact ⟨K3.out.trans K4.out, a, c, rfl, R1.out, fun ad had => by have := R2.out ad had; have := K3.out.size; omega⟩
end Go.Proofs.Ytoglcohdanpciaa
