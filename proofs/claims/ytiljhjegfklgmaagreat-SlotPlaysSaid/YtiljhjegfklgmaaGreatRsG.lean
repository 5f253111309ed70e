/- The reference's slots: Clear. -/
import Derived.Test.YtiljhjegfklgmaaGreatRsF
namespace Go.Proofs.YtiljhjegfklgmaaGreat
open Go.RowKit Go.Shelf
set_option maxRecDepth 100000
set_option linter.unusedSimpArgs false

/-- A disk's state that is within bounds. -/
structure DS.Fit (s : DS) (K : Nat) : Prop where
  ok : s.Ok K
  ll : s.loose.length ≤ K
theorem DS.Fit.mono {s : DS} {K K' : Nat} (h : s.Fit K) (hk : K ≤ K') : s.Fit K' := ⟨⟨h.ok.lo, h.ok.hi, h.ok.fz, ⟨h.ok.op.1, by have := h.ok.op.2; omega⟩, h.ok.at_, h.ok.eqs⟩, by have := h.ll; omega⟩
theorem DS.Fit.wrote {s : DS} {K : Nat} (h : s.Fit K) (n : Nat) (hn : n < s.cnt) (r : Row) : (s.wrote n r).Fit (K + 1) := by
  refine ⟨DS.wrote_ok h.ok n hn r, ?_⟩
  have := h.ll
  unfold DS.wrote
  split
  · show (s.loose ++ [(n, r)]).length ≤ _
    rw [List.length_append, List.length_singleton]; omega
  · show (s.loose ++ [(n, r)]).length ≤ _
    rw [List.length_append, List.length_singleton]; omega
theorem DS.Fit.writeS {s : DS} {K : Nat} (h : s.Fit K) (k : Int) (zs : List Int) : (writeS s k zs).Fit (K + 1) := by
  unfold Go.Proofs.YtiljhjegfklgmaaGreat.writeS
  split
  · rename_i ht
    exact h.wrote k.toNat (by have := ht.2.1; have := ht.2.2.1; omega) _
  · exact h.mono (by omega)
theorem DS.Fit.syncS {s : DS} {K : Nat} (h : s.Fit K) : (syncS s).Fit (K + 1) := by
  obtain ⟨ok, ll⟩ := h
  unfold Go.Proofs.YtiljhjegfklgmaaGreat.syncS
  split
  · exact (DS.Fit.mk ok ll).mono (by omega)
  · split
    · exact ⟨⟨ok.lo, ok.hi, ok.fz, ⟨ok.op.1, by have := ok.op.2; show s.ops ≤ _; omega⟩, ok.at_, ok.eqs⟩, by show s.loose.length ≤ _; omega⟩
    · refine ⟨⟨ok.lo, ok.hi, ?_, ⟨?_, ?_⟩, fun x hx => absurd hx (by simp [DS.synced, DS.spent]), fun i hi => rfl⟩, by simp [DS.synced, DS.spent]⟩
      · show -9223372036854775808 ≤ (if 0 < s.fuse then s.fuse - 1 else s.fuse) ∧ (if 0 < s.fuse then s.fuse - 1 else s.fuse) ≤ 9223372036854775807
        have := ok.fz
        split <;> omega
      · have := ok.op.1; show 0 ≤ s.ops + 1; omega
      · have := ok.op.2; show s.ops + 1 ≤ ((K + 1 : Nat) : Int); omega

/-- The reference's slots, and its disk. -/
structure RdAt (w : World) (q p first : Nat) (hs : List Hd) (s : DS) (M G : List Nat) (K : Nat) : Prop where
  sl : RsAt w q p first hs M
  dk : RefS w p s G
  dis : ∀ b ∈ M, b ∉ G
  fit : s.Fit K
  room : first + hs.length * 8 ≤ s.cnt
  ok : ∀ h ∈ hs, h.Ok
theorem RdAt.keep {w w' : World} {q p first : Nat} {hs : List Hd} {s : DS} {M G S : List Nat} {K : Nat} (h : RdAt w q p first hs s M G K) (k : Keeps S w w') (h1 : ∀ b ∈ M, b ∉ S) (h2 : ∀ b ∈ G, b ∉ S) : RdAt w' q p first hs s M G K :=
  ⟨h.sl.keep k h1, h.dk.keep k h2, h.dis, h.fit, h.room, h.ok⟩
def RdPost (w : World) (q p first : Nat) (hs : List Hd) (s : DS) (M G : List Nat) (K : Nat) (er : Int) (e : Ending) (w' : World) : Prop :=
  e = .returned (.int .i64 er) ∧ ∃ M' G', RdAt w' q p first hs s M' G' K ∧ Keeps (M ++ G) w w' ∧ Fresh w M M' ∧ Fresh w G G'

/-- The disk has gone on. -/
theorem RdAt.disk {w w' : World} {q p first : Nat} {hs : List Hd} {s s' : DS} {M G : List Nat} {K K' : Nat} (h : RdAt w q p first hs s M G K) (d : RDone w p s' G w') (f : s'.Fit K') (hc : s'.cnt = s.cnt) :
    ∃ G', RdAt w' q p first hs s' M G' K' ∧ Keeps (M ++ G) w w' ∧ Fresh w G G' := by
  obtain ⟨G', r, k, fr⟩ := d
  refine ⟨G', ⟨h.sl.keep k h.dis, r, fun b hb hg => ?_, f, by rw [hc]; exact h.room, h.ok⟩, k.mono (fun _ _ hm => List.mem_append.2 (.inr hm)), fr⟩
  rcases fr b hg with h1 | h1
  · exact h.dis b hb h1
  · have := h.sl.lt b hb; omega
theorem pad_nil : pad64 (headB hd0) = List.replicate 64 0 := rfl
theorem markS_fit {s : DS} {K : Nat} (h : s.Fit K) (n : Nat) (hd : Hd) : (markS s n hd).Fit (K + 2) := (h.writeS _ _).syncS

/-- A head is set. -/
theorem RslIn.setAt {w : World} {q p : Nat} {first : Int} {g c : Nat} {rs : List Rh} (h : RslIn w q p first (.slice (some ⟨g, 0, none⟩) rs.length c) rs) (i : Nat) (hi : i < rs.length) (r : Rh) (hr : RowAt w r.kv r.key)
    (hoff : ∀ b, r.blk = some b → b ≠ q ∧ g ≠ b ∧ b < w.heap.size) :
    RslIn (w.setCells g (i * 3) [.bool r.u, r.kv, .int .i64 r.n]) q p first (.slice (some ⟨g, 0, none⟩) rs.length c) (rs.set i r) ∧ w.there g (i * 3) 3 := by
  have hgq : g ≠ q := fun e => h.no (by rw [← e]; rfl)
  have hrow : ∀ x, x ∈ rs.set i r → RowAt w x.kv x.key ∧ ∀ b, x.blk = some b → b ≠ q ∧ g ≠ b ∧ b < w.heap.size := fun x hx => by
    rcases List.mem_or_eq_of_mem_set hx with hx | rfl
    · refine ⟨h.keys x hx, fun b e => ?_⟩
      obtain ⟨h1, h2, h3⟩ := h.off x hx b e
      exact ⟨h1, fun e2 => h2 (by rw [← e2]; rfl), h3⟩
    · exact ⟨hr, hoff⟩
  have hsz : (w.setCells g (i * 3) [.bool r.u, r.kv, .int .i64 r.n]).heap.size = w.heap.size := by
    show (((w.setCell _ _).setCell _ _).setCell _ _).heap.size = _
    simp [World.setCell]
  rcases h.own.2 with ⟨e, _⟩ | ⟨g1, cap, cur, e, hb, hg, hnc, hcm, hcs, ht⟩
  · cases e
  · injection e with e1 _ e3
    injection e1 with e1
    injection e1 with e1
    subst e1; subst e3
    have hcl := hcells_length rs
    have hnew : (w.setCells g (i * 3) [.bool r.u, r.kv, .int .i64 r.n]).heap[g]? = some (.cells (((cur.setIfInBounds (i * 3) (.bool r.u)).setIfInBounds (i * 3 + 1) r.kv).setIfInBounds (i * 3 + 2) (.int .i64 r.n)) 73 (0, 0)) :=
      heap_setCell_same _ g (i * 3 + 1 + 1) _ _ _ (heap_setCell_same _ g (i * 3 + 1) _ _ _ (heap_setCell_same w g (i * 3) _ _ _ hg))
    refine ⟨⟨by rw [set3_other _ _ _ _ _ _ (fun e => hgq e.symm)]; exact h.blk, ?_, fun x hx => ?_, fun x hx b e => ?_, h.no⟩, there_of hg _ _ (by omega)⟩
    · rw [List.length_set]
      refine ⟨by rw [hcells_length, List.length_set], .inr ⟨g, c, _, rfl, hb, hnew, hnc, hcm, by simpa using hcs, ?_⟩⟩
      rw [← hcells_set rs i r hi, ← ht]
      simp only [Array.toList_setIfInBounds, List.take_set, List.length_set]
    · obtain ⟨h1, h2⟩ := hrow x hx
      exact row_of_same h1 (fun hne b e => set3_other _ _ _ _ _ _ (fun e2 => (h2 b (Rh.blk_iff.2 ⟨hne, e⟩)).2.1 e2.symm))
    · obtain ⟨h1, h2, h3⟩ := (hrow x hx).2 b e
      exact ⟨h1, fun e2 => h2 (by injection e2), by rw [hsz]; exact h3⟩
theorem buildHeld0 {ρ : Operand → Value} {o : Oper} {w : World} (ho : o.op = .build 73 #[]) : (execOp ρ o).run Tryz.prog w = .ok (.value (.agg #[.bool false, .slice none 0 0, .int .i64 0])) w := by
  simp only [execOp, ho, List.map_toArray, List.map_nil, Sem.run_bind, run_buildHeld0, Result.andThen_ok, Sem.run_pure]

set_option maxHeartbeats 8000000 in
theorem rclear_any (w : World) (q p first : Nat) (hs : List Hd) (s : DS) (M G : List Nat) (K : Nat) (H : RdAt w q p first hs s M G K) (hK : K ≤ 90000) (i : Int) :
    Calls Tryz.prog 16 #[.pointer (some ⟨q, 0, none⟩), .int .i64 i] w (RdPost w q p first (clearH hs first s i) (clearS hs first s i) M G (K + 2) (clearE hs first s i)) := by
  have HH := hid H
  have hcnt := H.fit.ok.hi
  have hroom := H.room
  have d6 := H.dk.cells.2.1
  have SAME : ∀ er, Hid (clearS hs first s i = s) → Hid (clearH hs first s i = hs) → clearE hs first s i = er → RdPost w q p first (clearH hs first s i) (clearS hs first s i) M G (K + 2) er (.returned (.int .i64 er)) w := fun er h1 h2 _ => by
    rw [h1.out, h2.out]
    exact ⟨rfl, M, G, ⟨HH.out.sl, HH.out.dk, HH.out.dis, HH.out.fit.mono (by omega), HH.out.room, HH.out.ok⟩, Keeps.refl _ _, fun _ h => .inl h, fun _ h => .inl h⟩
  obtain ⟨Lv, rs, R, ehs, eM⟩ := H.sl
  have hlen : hs.length = rs.length := by rw [ehs, List.length_map]
  obtain ⟨la, lc, rfl⟩ := R.shape
  have c2 := R.c2
  have c0 := R.c0
  have c1 := R.c1
  have RR := hid R
  clear H
  rcases hasS_cases hs i with hno | ⟨k, rfl, hk, hyes⟩
  · have he : clearE hs first s i = 1 := by unfold clearE takeE; rw [if_neg (by simp [hno]), if_neg (by simp [hno])]
    have h1 : clearS hs first s i = s := by unfold clearS clearOk; rw [hno]; rfl
    have h2 : clearH hs first s i = hs := by unfold clearH clearOk; rw [hno]; rfl
    have POST := hid (SAME 1 (hid h1) (hid h2) he)
    rw [he]
    simp [hasS] at hno
    have hno2 : i < 0 ∨ (rs.length : Int) ≤ i := by omega
    clear SAME R ehs eM he h1 h2
    by_cases h0 : i < 0
    · go_enter Tryz.func16, Tryz.ntmps16
      go_wp2_with fail
      go_ret
      exact POST.out
    · have h1 : (rs.length : Int) ≤ i := by omega
      go_enter Tryz.func16, Tryz.ntmps16
      go_wp2_with fail
      go_ret
      exact POST.out
  · have hkr : k < rs.length := by omega
    have hkr' : (k : Int) < (rs.length : Int) := by omega
    obtain ⟨g, c, eL, d0, d1, d2, hgl⟩ := R.at k hkr
    injection eL with e1 _ e3
    subst e1; subst e3
    have hhk : headS hs (k : Int) = rs[k].hd := by rw [headS_at hk]; subst ehs; rw [List.getElem_map]
    have hus : usedS hs (k : Int) = rs[k].u := by unfold usedS; rw [hhk]; rfl
    have hte : takeE hs (k : Int) = if rs[k].u then 0 else 6 := by unfold takeE; rw [if_pos hyes, hus]
    have hco : clearOk hs (k : Int) = rs[k].u := by unfold clearOk; rw [hyes, hus]; rfl
    cases hu : rs[k].u with
    | false =>
      have he : clearE hs first s (k : Int) = 6 := by unfold clearE; rw [hte, hu]; rfl
      have h1 : clearS hs first s (k : Int) = s := by unfold clearS; rw [hco, hu]; rfl
      have h2 : clearH hs first s (k : Int) = hs := by unfold clearH; rw [hco, hu]; rfl
      have POST := hid (SAME 6 (hid h1) (hid h2) he)
      rw [he]
      rw [hu] at d0
      clear SAME R ehs eM he h1 h2 hte hco hus hhk d1 d2 hu
      go_enter Tryz.func16, Tryz.ntmps16
      go_wp2_with fail
      go_ret
      exact POST.out
    | true =>
      rw [hu] at d0
      cases hdd : s.dead with
      | true =>
        rw [hdd] at d6
        have hms : markS s (first + (k : Int).toNat * 8) hd0 = s := markS_dead hdd _ _
        have he : clearE hs first s (k : Int) = 14 := by unfold clearE; rw [hte, hu, hms]; simp [deadE, hdd]
        have h1 : clearS hs first s (k : Int) = s := by unfold clearS; rw [hms]; simp
        have h2 : clearH hs first s (k : Int) = hs := by unfold clearH; rw [hms, hdd]; simp
        have POST := hid (SAME 14 (hid h1) (hid h2) he)
        rw [he]
        clear SAME R ehs eM he h1 h2 hte hco hus hhk d1 d2 hu
        go_enter Tryz.func16, Tryz.ntmps16
        go_wp2_with fail
        go_ret
        exact POST.out
      | false =>
        rw [hdd] at d6
        obtain ⟨bg, hbg⟩ : ∃ bg : Nat, bg = first + k * 8 := ⟨_, rfl⟩
        have hbc : bg + 8 ≤ s.cnt := by omega
        obtain ⟨s1, hs1⟩ : ∃ s1, s1 = writeS s (bg : Int) (List.replicate 64 0) := ⟨_, rfl⟩
        have hms : markS s bg hd0 = syncS s1 := by rw [hs1]; rfl
        have hE1 : writeE s (bg : Int) (List.replicate 64 (0 : Int)).length = deadE s1 := by rw [hs1]; exact writeE_is (by omega) (by simp)
        have hcnt1 : s1.cnt = s.cnt := by rw [hs1, writeS_cnt]
        have hfit1 : s1.Fit (K + 1) := by rw [hs1]; exact HH.out.fit.writeS _ _
        have hce : clearE hs first s (k : Int) = deadE (syncS s1) := by unfold clearE; rw [hte, hu]; simp only [if_true, Int.toNat_natCast]; rw [← hbg, hms]
        have hcs : clearS hs first s (k : Int) = syncS s1 := by unfold clearS; rw [hco, hu]; simp only [if_true, Int.toNat_natCast]; rw [← hbg, hms]
        have hch : clearH hs first s (k : Int) = if (syncS s1).dead then hs else hs.set k hd0 := by
          unfold clearH
          rw [hco, hu]
          simp only [Int.toNat_natCast, Bool.true_and]
          rw [← hbg, hms]
          cases (syncS s1).dead <;> rfl
        obtain ⟨hF, ehF⟩ : ∃ hF, hF = if (syncS s1).dead then hs else hs.set k hd0 := ⟨_, rfl⟩
        obtain ⟨s2, es2⟩ : ∃ s2, s2 = syncS s1 := ⟨_, rfl⟩
        rw [hce, hcs, hch, ← ehF, ← es2]
        have HF := hid ehF
        have ES2 := hid es2
        clear ehF es2
        have HS1 := hid hs1
        have HE1 := hid hE1
        have C1 := hid hcnt1
        have F1 := hid hfit1
        have hbi : (first : Int) + (k : Int) * 8 = (bg : Int) := by omega
        have hb4 : (bg : Int) ≤ 4160 := by omega
        have EHS := hid ehs
        have EM := hid eM
        have dis : ∀ b ∈ rsl q (.slice (some ⟨g, 0, none⟩) rs.length lc) rs, b ∉ G := by rw [← eM]; exact HH.out.dis
        have hqG : q ∉ G := dis q ((mem_rsl q).2 (.inl rfl))
        have DIS := hid dis
        have hk0 : decide ((k : Int) < 0) = false := by simp
        have hw8 : IntKind.i64.wrap ((k : Int) * 8) = (k : Int) * 8 := by rw [IntKind.wrap_i64]; omega
        have hwb : IntKind.i64.wrap ((first : Int) + (k : Int) * 8) = (bg : Int) := by rw [hbi, IntKind.wrap_i64]; omega
        have HBG := hid hbg
        clear SAME R ehs eM hte hco hus hhk d1 d2 hu hms hs1 hE1 hcnt1 hfit1 hce hcs hch dis hbg hbi
        go_enter Tryz.func16, Tryz.ntmps16
        go_wp2_with fail
        refine wp_region_noPanic (wp_region_any (by kernel_rfl) (wpAny_of_held (S := KpS G w.heap.size w.drew) _ _ _ _ ?_))
        have kd : ∀ W1, KpS G w.heap.size w.drew W1 → Keeps G w W1 := fun W1 h => ⟨h.os, h.tape, h.output, h.size, fun k hk hs => h.block k hk hs⟩
        refine held_take (i := 0) (v := .pointer (some ⟨q, 0, none⟩)) rfl (by kernel_rfl) (by kernel_rfl) (by kernel_rfl) (fun _ _ _ h => h) rfl (fun W1 hW1 => rfl) (KpS.refl _ _ _) ?_
        simp only [Act.put, List.setIfInBounds_toArray, List.set_cons_zero, List.set_cons_succ]
        refine held_take (i := 1) (v := .pointer (some ⟨q, 0, none⟩)) rfl (by kernel_rfl) (by kernel_rfl) (by kernel_rfl) (fun _ _ _ h => h) rfl (fun W1 hW1 => by go_simp) (KpS.refl _ _ _) ?_
        simp only [Act.put, List.setIfInBounds_toArray, List.set_cons_zero, List.set_cons_succ]
        refine held_take (i := 2) (v := .pointer (some ⟨q, 0, none⟩)) rfl (by kernel_rfl) (by kernel_rfl) (by kernel_rfl) (fun _ _ _ h => h) rfl (fun W1 hW1 => by go_simp) (KpS.refl _ _ _) ?_
        simp only [Act.put, List.setIfInBounds_toArray, List.set_cons_zero, List.set_cons_succ]
        refine held_take (i := 3) (v := .pointer (some ⟨p, 0, none⟩)) rfl (by kernel_rfl) (by kernel_rfl) (by kernel_rfl) (fun _ _ _ h => h) rfl (fun W1 hW1 => exec_load _ _ _ _ rfl rfl (run_loadCell W1 _ _ _ (keeps_cell4 (kd W1 hW1) c0 hqG) (agg_no _ (by kernel_rfl)))) (KpS.refl _ _ _) ?_
        simp only [Act.put, List.setIfInBounds_toArray, List.set_cons_zero, List.set_cons_succ]
        refine held_take (i := 4) (v := .pointer (some ⟨q, 0, none⟩)) rfl (by kernel_rfl) (by kernel_rfl) (by kernel_rfl) (fun _ _ _ h => h) rfl (fun W1 hW1 => rfl) (KpS.refl _ _ _) ?_
        simp only [Act.put, List.setIfInBounds_toArray, List.set_cons_zero, List.set_cons_succ]
        refine held_take (i := 5) (v := .pointer (some ⟨q, 0, none⟩)) rfl (by kernel_rfl) (by kernel_rfl) (by kernel_rfl) (fun _ _ _ h => h) rfl (fun W1 hW1 => by go_simp) (KpS.refl _ _ _) ?_
        simp only [Act.put, List.setIfInBounds_toArray, List.set_cons_zero, List.set_cons_succ]
        refine held_take (i := 6) (v := .pointer (some ⟨q, 1, none⟩)) rfl (by kernel_rfl) (by kernel_rfl) (by kernel_rfl) (fun _ _ _ h => h) rfl (fun W1 hW1 => by go_simp) (KpS.refl _ _ _) ?_
        simp only [Act.put, List.setIfInBounds_toArray, List.set_cons_zero, List.set_cons_succ]
        refine held_take (i := 7) (v := .int .i64 first) rfl (by kernel_rfl) (by kernel_rfl) (by kernel_rfl) (fun _ _ _ h => h) rfl (fun W1 hW1 => exec_load _ _ _ _ rfl rfl (run_loadCell W1 _ _ _ (keeps_cell4 (kd W1 hW1) c1 hqG) (agg_no _ (by kernel_rfl)))) (KpS.refl _ _ _) ?_
        simp only [Act.put, List.setIfInBounds_toArray, List.set_cons_zero, List.set_cons_succ]
        refine held_take (i := 8) (v := .int .i64 k) rfl (by kernel_rfl) (by kernel_rfl) (by kernel_rfl) (fun _ _ _ h => h) rfl (fun W1 hW1 => rfl) (KpS.refl _ _ _) ?_
        simp only [Act.put, List.setIfInBounds_toArray, List.set_cons_zero, List.set_cons_succ]
        refine held_take (i := 9) (v := .int .i64 ((k : Int) * 8)) rfl (by kernel_rfl) (by kernel_rfl) (by kernel_rfl) (fun _ _ _ h => h) rfl (fun W1 hW1 => by go_simp) (KpS.refl _ _ _) ?_
        simp only [Act.put, List.setIfInBounds_toArray, List.set_cons_zero, List.set_cons_succ]
        refine held_take (i := 10) (v := .int .i64 bg) rfl (by kernel_rfl) (by kernel_rfl) (by kernel_rfl) (fun _ _ _ h => h) rfl (fun W1 hW1 => by go_simp) (KpS.refl _ _ _) ?_
        simp only [Act.put, List.setIfInBounds_toArray, List.set_cons_zero, List.set_cons_succ]
        refine held_do (i := 11) (by kernel_rfl) rfl rfl (wp_value (exec_mk (.const (.int .i64 64)) (.const (.int .i64 64)) rfl rfl rfl (mk64 _)) ?_)
        have s5 : KpS G w.heap.size w.drew (w.drew.alloc (.cells zrow.cells.toArray 5)) := (KpS.refl _ _ w.drew).alloc (Nat.le_refl _) _
        refine ⟨s5, ?_⟩
        simp only [Act.put, List.setIfInBounds_toArray, List.set_cons_zero, List.set_cons_succ]
        have k5 : Keeps [] w (w.drew.alloc (.cells zrow.cells.toArray 5)) := ((Keeps.refl [] w).drew).alloc _
        have HHd := HH.out.keep k5 (by simp) (by simp)
        have row5 : RowAt (w.drew.alloc (.cells zrow.cells.toArray 5)) (.slice (some ⟨w.drew.heap.size, 0, none⟩) 64 64) (List.replicate 64 0) := by
          refine ⟨some ⟨w.drew.heap.size, 0, none⟩, 64, by simp, by simp, by unfold maxLen; omega, by simp, (fun z hz => by rw [List.eq_of_mem_replicate hz]; omega), fun ad had j u hu => ?_⟩
          obtain rfl := Option.some.inj had
          rw [Addr.add_mid, Nat.zero_add, cell_of_row _ _ j _ _ (0, 0) (heap_alloc_new w.drew _)]
          have ez : zrow.cells = (List.replicate 64 (0 : Int)).map (Value.int .u8) := rfl
          rw [ez]
          simpa using hu
        have off5 : Off G (.slice (some ⟨w.drew.heap.size, 0, none⟩) 64 64) (List.replicate 64 0) := fun ad n c e _ hm => by
          injection e with e _ _
          injection e with e
          subst e
          have := HH.out.dk.lt _ hm
          simp only [World.size_drew] at this
          omega
        refine held_do (i := 12) (by kernel_rfl) rfl rfl (wp_enter (f := 38) (args := #[.pointer (some ⟨p, 0, none⟩), .int .i64 bg, .slice (some ⟨w.drew.heap.size, 0, none⟩) 64 64]) (by go_simp) (rw_any _ p s G HHd.dk K HHd.fit.ok (by omega) (by have := HHd.fit.ll; omega) (bg : Int) _ _ row5 off5) ?_)
        rintro e W2 ⟨rfl, R1⟩
        rw [← HS1.out] at R1
        rw [HE1.out]
        obtain ⟨G2, H2, k2, fr2⟩ := HHd.disk R1 F1.out C1.out
        obtain ⟨_, _, kx, _⟩ := id R1
        have s6 : KpS G w.heap.size w.drew W2 := s5.keeps kx (by simp) (fun i hi _ => hi)
        refine ⟨_, rfl, s6, ?_⟩
        simp only [Act.put, List.setIfInBounds_toArray, List.set_cons_zero, List.set_cons_succ]
        refine held_take (i := 13) (v := .int .i64 (deadE s1)) rfl (by kernel_rfl) (by kernel_rfl) (by kernel_rfl) (fun _ _ _ h => h) rfl (fun W1 hW1 => rfl) (s6) ?_
        simp only [Act.put, List.setIfInBounds_toArray, List.set_cons_zero, List.set_cons_succ]
        refine wpAnyH_done (by kernel_rfl) (NoPanic.normal ?_) _
        have R2 := hid (RR.out.keep (kd _ s6) DIS.out)
        have H2' := hid H2
        have K2 := hid ((k5.mono (by simp)).trans k2)
        have FR2 : Hid (Fresh w G G2) := hid (fun b hb => (fr2 b hb).imp id (fun h => by have := k5.size; omega))
        clear R1 H2 k2 fr2 kx s6 s5 k5 HHd row5 off5 kd
        cases hd1 : s1.dead with
        | true =>
          have hde : deadE s1 = 14 := by unfold deadE; rw [hd1]; rfl
          have es : s2 = s1 := by rw [ES2.out, syncS_dead hd1]
          have ehF : hF = hs := by rw [HF.out, ← ES2.out, es, if_pos hd1]
          subst es
          subst ehF
          rw [hde]
          have POST : Hid (RdPost w q p first hF s2 M G (K + 2) 14 (.returned (.int .i64 14)) W2) := hid ⟨rfl, M, G2, ⟨H2'.out.sl, H2'.out.dk, H2'.out.dis, H2'.out.fit.mono (by omega), H2'.out.room, H2'.out.ok⟩, K2.out, fun _ h => .inl h, FR2.out⟩
          go_wp2_with fail
          go_ret
          rw [hde]
          exact POST.out
        | false =>
          have hde : deadE s1 = 0 := by unfold deadE; rw [hd1]; rfl
          rw [hde]
          have c0' := R2.out.c0
          go_wp2_with fail
          refine (rs_any W2 p s1 G2 H2'.out.dk _ H2'.out.fit.ok (by omega)).mono ?_
          rintro e W3 ⟨rfl, R3'⟩
          rw [← ES2.out] at R3'
          have hE2 : syncE s1 = deadE s2 := by rw [ES2.out]; exact syncE_is s1
          rw [hE2]
          have hcnt2 : s2.cnt = s1.cnt := by rw [ES2.out, syncS_cnt]
          have hfit2 : s2.Fit (K + 1 + 1) := by rw [ES2.out]; exact H2'.out.fit.syncS
          obtain ⟨G3, H3, k3, fr3⟩ := H2'.out.disk R3' hfit2 hcnt2
          obtain ⟨_, _, kx, _⟩ := id R3'
          have R3 := hid (R2.out.keep kx (by have := H2'.out.dis; rw [EM.out] at this; exact this))
          have H3' := hid H3
          have hz2 := K2.out.size
          have K3 := hid (K2.out.trans' k3 (fun i hi hm => by
            rcases List.mem_append.1 hm with h | h
            · exact List.mem_append.2 (.inl h)
            · rcases FR2.out i h with h | h
              · exact List.mem_append.2 (.inr h)
              · omega))
          have FR3 : Hid (Fresh w G G3) := hid (fun b hb => by
            rcases fr3 b hb with h | h
            · exact FR2.out b h
            · exact .inr (by omega))
          clear R3' H3 k3 fr3 kx hcnt2 hfit2 hE2 hz2
          cases hd2 : s2.dead with
          | true =>
            have hde2 : deadE s2 = 14 := by unfold deadE; rw [hd2]; rfl
            have ehF : hF = hs := by rw [HF.out, ← ES2.out, if_pos hd2]
            subst ehF
            rw [hde2]
            have POST : Hid (RdPost w q p first hF s2 M G (K + 2) 14 (.returned (.int .i64 14)) W3) := hid ⟨rfl, M, G3, H3'.out, K3.out, fun _ h => .inl h, FR3.out⟩
            go_wp2_with fail
            go_ret
            rw [hde2]
            exact POST.out
          | false =>
            have hde2 : deadE s2 = 0 := by unfold deadE; rw [hd2]; rfl
            have ehF : hF = hs.set k hd0 := by rw [HF.out, ← ES2.out, if_neg (by rw [hd2]; decide)]
            rw [hde2]
            obtain ⟨RN, th⟩ := R3.out.setAt k hkr ⟨false, .slice none 0 0, [], 0⟩ (RowAt.nil _) (fun b e => by cases e)
            have hgM : g ∈ M := by rw [EM.out]; exact (mem_rsl g).2 (.inr (.inl rfl))
            have POST : Hid (RdPost w q p first hF s2 M G (K + 2) 0 (.returned (.int .i64 0)) (W3.setCells g (k * 3) [.bool false, .slice none 0 0, .int .i64 0])) := hid ⟨rfl, rsl q (.slice (some ⟨g, 0, none⟩) rs.length lc) (rs.set k ⟨false, .slice none 0 0, [], 0⟩), G3, by
              have hsub : ∀ b ∈ rsl q (.slice (some ⟨g, 0, none⟩) rs.length lc) (rs.set k ⟨false, .slice none 0 0, [], 0⟩), b ∈ M := fun b hb => by
                rw [EM.out]
                rcases (mem_rsl b).1 hb with rfl | e | ⟨r, hr, e⟩
                · exact (mem_rsl _).2 (.inl rfl)
                · exact (mem_rsl b).2 (.inr (.inl e))
                · rcases List.mem_or_eq_of_mem_set hr with hr | rfl
                  · exact (mem_rsl b).2 (.inr (.inr ⟨r, hr, e⟩))
                  · cases e
              refine ⟨⟨⟨_, _, RN, ?_, rfl⟩, H3'.out.dk.keep (S := [g]) (set3_keeps (Keeps.refl _ _) _ _ _ (.inl (by simp))) (fun b hb hm => ?_), fun b hb => H3'.out.dis b (hsub b hb), H3'.out.fit, ?_, fun h hh => ?_⟩, set3_keeps K3.out _ _ _ (.inl (List.mem_append.2 (.inl hgM))), fun b hb => .inl (hsub b hb), FR3.out⟩
              · rw [ehF, EHS.out, List.map_set]; rfl
              · simp at hm; subst hm; exact H3'.out.dis _ hgM hb
              · rw [ehF, List.length_set]; exact H3'.out.room
              · rw [ehF] at hh
                rcases List.mem_or_eq_of_mem_set hh with hh | rfl
                · exact H3'.out.ok h hh
                · exact ⟨by simp [hd0], by simp [hd0], by simp [hd0], fun _ => rfl⟩⟩
            have c2' := R3.out.c2
            clear RN ehF
            go_wp2_with (first | (refine wpList_storeHeld rfl _ _ rfl g (k * 3) false (.slice none 0 0) 0 rfl rfl rfl th ?_) | fail)
            go_ret
            rw [hde2]
            exact POST.out
end Go.Proofs.YtiljhjegfklgmaaGreat
