/- The reference's slots: padded. -/
import Derived.Test.YtiljhjegfklgmaaGreatRsD
namespace Go.Proofs.YtiljhjegfklgmaaGreat
open Go.RowKit Go.Shelf
set_option maxRecDepth 100000
set_option linter.unusedSimpArgs false

/-- A row is put behind an outer row. -/
theorem RowsOwn.push {w : World} {v : Value} {us : List Value} {rs : List (List Int)} (h : RowsOwn w v us rs) (a : Option Addr) (n c : Nat) (zs : List Int) (hr : RowAt w (.slice a n c) zs)
    (hnot : ∀ b ∈ (us ++ [Value.slice a n c]).filterMap Value.ownBlock, v.ownBlock ≠ some b ∧ b < w.heap.size) (hlen : us.length ≤ 1000000) :
    ∃ va vc w', (Builtin.append_ #[51, 51] 51 #[v, .slice (some ⟨w.heap.size, 0, none⟩) 1 1]).run Tryz.prog (w.alloc (.cells #[.slice a n c] 38)) = .ok (.slice va (us.length + 1) vc) w' ∧
      Keeps v.ownBlock.toList w w' ∧ RowsOwn w' (.slice va (us.length + 1) vc) (us ++ [.slice a n c]) (rs ++ [zs]) ∧
      (∀ b, (Value.slice va (us.length + 1) vc).ownBlock = some b → v.ownBlock = some b ∨ w.heap.size ≤ b) := by
  obtain ⟨ie, hie, hz, hsz, hby⟩ := info_parts infoT28
  have hsA : (w.alloc (.cells #[.slice a n c] 38)).heap.size = w.heap.size + 1 := by simp
  obtain ⟨va, vc, w', hrun, ho, hg, hnw⟩ := run_append_newT (P := Tryz.prog) (w.alloc (.cells #[.slice a n c] 38)) 0 51 51 38 ie _ 24 Tryz.underlying51 hie hz hsz hby (by omega) (by rfl) v _ _ (h.own.alloc _) ⟨w.heap.size, 0, none⟩ 1 1 [.slice a n c] rfl
    (fun j u hu => by rw [Addr.add_mid, Nat.zero_add, cell_of_row _ _ j _ _ (0, 0) (heap_alloc_new w _)]; simpa using hu) (by simp [Value.oneCell']) (by omega) (by omega)
  have hk : ∀ k, k < w.heap.size → v.ownBlock ≠ some k → w'.heap[k]? = w.heap[k]? := fun k hk hne => (hg.block k (by omega) (fun e => hne e.symm)).trans (Below.heap_alloc _ _ _ hk)
  have hszw : w.heap.size ≤ w'.heap.size := by have := hg.size; omega
  have hbb : ∀ b, (Value.slice va (us.length + 1) vc).ownBlock = some b → v.ownBlock = some b ∨ w.heap.size ≤ b := fun b e => by
    rcases hnw with h3 | h3
    · exact .inl (h3 ▸ e)
    · exact .inr (by have := h3 b e; omega)
  refine ⟨va, vc, w', hrun, ⟨hg.os, hg.tape, hg.output, hszw, fun k hk2 hm => hk k hk2 (fun e => hm (by rw [e]; simp))⟩, ⟨by simpa using ho, by simp [h.len], fun i hi => ?_⟩, hbb⟩
  have hkeep : ∀ (u : Value) (ys : List Int), RowAt w u ys → u ∈ us ++ [Value.slice a n c] → RowAt w' u ys := fun u ys hu hm => by
    obtain ⟨a1, cap, e, r1, r2, r3, r4, r5⟩ := hu
    refine ⟨a1, cap, e, r1, r2, r3, r4, fun ad had j x hx => ?_⟩
    have hm2 : ad.block ∈ (us ++ [Value.slice a n c]).filterMap Value.ownBlock := List.mem_filterMap.2 ⟨u, hm, by rw [e, had]; rfl⟩
    obtain ⟨h2, h3⟩ := hnot ad.block hm2
    rw [World.cell?_of_block (w := w) (a := ad.add j) (by rw [Addr.add_block]; exact hk ad.block h3 h2)]
    exact r5 ad had j x hx
  by_cases hlt : i < us.length
  · rw [List.getElem_append_left hlt]
    have := h.rows i hlt
    rw [List.getD_eq_getElem?_getD, List.getElem?_append_left (by rw [← h.len]; exact hlt), ← List.getD_eq_getElem?_getD]
    exact hkeep _ _ this (List.mem_append_left _ (List.getElem_mem hlt))
  · have hi2 : i = us.length := by simp at hi; omega
    subst hi2
    rw [List.getElem_append_right (Nat.le_refl _)]
    have e : (rs ++ [zs]).getD us.length [] = zs := by rw [h.len]; simp
    rw [e]
    simp only [Nat.sub_self, List.getElem_cons_zero]
    exact hkeep _ _ hr (by simp)

/-- The first k parts of b, each with noughts behind it. -/
def padR (b : List Int) (k : Nat) : List (List Int) := (List.range k).map fun j => pad64 (chk b j)
theorem padR_succ (b : List Int) (k : Nat) : padR b (k + 1) = padR b k ++ [pad64 (chk b k)] := by unfold padR; rw [List.range_succ, List.map_append]; rfl
theorem padR_len (b : List Int) (k : Nat) : (padR b k).length = k := by simp [padR]

theorem mk64 (w : World) : (Instr.makeSlice 38 (.int .i64 64) (.int .i64 64)).run Tryz.prog w = .ok (.slice (some ⟨w.heap.size, 0, none⟩) 64 64) (w.alloc (.cells zrow.cells.toArray 5)) := by
  obtain ⟨i0, hi, hz0, hz1, hz2⟩ := info_parts info5
  have := run_makeSlice (P := Tryz.prog) w 38 5 i0 (.int .u8 0) Tryz.underlying38 hi hz0 .i64 .i64 64 64 (by omega) (by omega) (by rw [hz1]; omega) (by rw [hz2]; omega) (by omega)
  rw [this, hz1]
  have e : madeCells (Value.int .u8 0).cells ((64 : Int).toNat * 1) = zrow.cells.toArray := by
    apply Array.ext'
    have e2 : madeCells (Value.int .u8 0).cells ((64 : Int).toNat * 1) = madeCells #[Value.int .u8 0] 64 := rfl
    rw [e2, toList_madeCells_one (Value.int .u8 0)]
    rfl
  rw [e]
  rfl

/-- The rows lie in memory made since w. -/
def NewRows (w w' : World) (lv : Value) (us : List Value) : Prop := ∀ x, lv.ownBlock = some x ∨ x ∈ us.filterMap Value.ownBlock → w.heap.size ≤ x ∧ x < w'.heap.size

set_option maxHeartbeats 4000000 in
theorem rpadded_any (w : World) (v : Value) (b : List Int) (h : RowAt w v b) (hl : b.length ≤ 100000) :
    Calls Tryz.prog 37 #[v] w fun e w' => ∃ lv us, e = .returned lv ∧ RowsOwn w' lv us (padR b (nch b.length)) ∧ NewRows w w' lv us ∧ Keeps [] w w' := by
  have HR := hid h
  obtain ⟨a, cap, rfl, z⟩ := id h
  clear z h
  go_enter Tryz.func37, Tryz.ntmps37
  go_wp2_with fail
  go_loopw [3, 4] (fun o v wr => ∃ (k m : Nat) (la : Option Addr) (lc : Nat) (us : List Value), v = .int .i64 (m : Int) ∧ o = .slice la us.length lc ∧ Hid (m = k * 64) ∧ k ≤ nch b.length ∧ Hid (RowsOwn wr (.slice la us.length lc) us (padR b k)) ∧
      Hid (∀ x ∈ us.filterMap Value.ownBlock, (Value.slice la us.length lc).ownBlock ≠ some x) ∧ Hid (∀ x, (Value.slice la us.length lc).ownBlock = some x ∨ x ∈ us.filterMap Value.ownBlock → w.heap.size ≤ x ∧ x < wr.heap.size) ∧ Hid (Keeps [] w wr)) (fun _ v _ => b.length + 64 - (intOf v).toNat)
  case atStart => exact ⟨0, 0, none, 0, [], rfl, rfl, hid rfl, by omega, hid ⟨World.ownsRow_nil _ _ _ _, rfl, fun i hi => absurd hi (by simp)⟩, hid (by simp), hid (by simp [Value.ownBlock]), hid (Keeps.refl _ _)⟩
  case round =>
    obtain ⟨k, m, la, lc, us, rfl, rfl, HM, hk, RO, DIS, NEW, KK⟩ := hrel
    by_cases hlt : m < b.length
    · have hm' : (m : Int) < (b.length : Int) := by omega
      have hmle : m ≤ b.length := by omega
      obtain ⟨g, off, cp, e1, _, hc⟩ := HR.out.open (by omega)
      injection e1 with e1 _ e3
      subst e1; subst e3
      have hgw : g < w.heap.size := World.block_lt_of_cell? _ _ (hc m hlt)
      have CS := hid hc
      have HGW := hid hgw
      have FACT : Hid (∀ w2, Hid (w2.heap[wr.heap.size]? = some (.cells (splice zrow.cells 0 ((chk b k).map (Value.int .u8))).toArray 5 (0, 0))) → Below wr.heap.size wr w2 →
          ∃ va vc w5, (Builtin.append_ #[51, 51] 51 #[.slice la us.length lc, .slice (some ⟨w2.heap.size, 0, none⟩) 1 1]).run Tryz.prog (w2.alloc (.cells #[.slice (some ⟨wr.heap.size, 0, none⟩) 64 64] 38)) = .ok (.slice va (us.length + 1) vc) w5 ∧
            Hid (RowsOwn w5 (.slice va (us ++ [Value.slice (some ⟨wr.heap.size, 0, none⟩) 64 64]).length vc) (us ++ [.slice (some ⟨wr.heap.size, 0, none⟩) 64 64]) (padR b (k + 1))) ∧
            Hid (∀ x ∈ (us ++ [Value.slice (some ⟨wr.heap.size, 0, none⟩) 64 64]).filterMap Value.ownBlock, (Value.slice va (us ++ [Value.slice (some ⟨wr.heap.size, 0, none⟩) 64 64]).length vc).ownBlock ≠ some x) ∧
            Hid (∀ x, (Value.slice va (us ++ [Value.slice (some ⟨wr.heap.size, 0, none⟩) 64 64]).length vc).ownBlock = some x ∨ x ∈ (us ++ [Value.slice (some ⟨wr.heap.size, 0, none⟩) 64 64]).filterMap Value.ownBlock → w.heap.size ≤ x ∧ x < w5.heap.size) ∧ Hid (Keeps [] w w5)) := hid (by
        intro w2 h2 hb2
        have hcl := chk_le b k
        have kw2 : Keeps [] wr w2 := ⟨hb2.os, hb2.tape, hb2.output, hb2.size, fun k hk _ => hb2.block k hk⟩
        have hlt2 : wr.heap.size < w2.heap.size := lt_of_block h2.out
        have rowN : RowAt w2 (.slice (some ⟨wr.heap.size, 0, none⟩) 64 64) (pad64 (chk b k)) := by
          have h2' := h2.out
          rw [splice_pad] at h2'
          refine ⟨some ⟨wr.heap.size, 0, none⟩, 64, by rw [pad64_len hcl], by rw [pad64_len hcl]; omega, by unfold maxLen; omega, by simp, pad64_byte (fun z hz => HR.out.bytes z (List.mem_of_mem_drop (List.mem_of_mem_take hz))), fun ad had j u hu => ?_⟩
          obtain rfl := Option.some.inj had
          rw [Addr.add_mid, Nat.zero_add, cell_of_row _ _ j _ _ (0, 0) h2']
          simpa using hu
        have ro2 : RowsOwn w2 (.slice la us.length lc) us (padR b k) := RO.out.same (fun x e => kw2.block x (NEW.out x (.inl e)).2 (by simp)) (fun x hx => kw2.block x (NEW.out x (.inr hx)).2 (by simp))
        have hus : ∀ x ∈ (us ++ [Value.slice (some ⟨wr.heap.size, 0, none⟩) 64 64]).filterMap Value.ownBlock, x = wr.heap.size ∨ x ∈ us.filterMap Value.ownBlock := fun x hx => by
          rw [List.filterMap_append, List.mem_append] at hx
          rcases hx with hx | hx
          · exact .inr hx
          · simp [Value.ownBlock] at hx; exact .inl hx
        have hkl : us.length = k := by have := RO.out.len; rw [padR_len] at this; exact this
        obtain ⟨va, vc, w5, r1, r2, r3, r4⟩ := ro2.push (some ⟨wr.heap.size, 0, none⟩) 64 64 _ rowN (fun x hx => by
          rcases hus x hx with rfl | hx
          · refine ⟨fun e => ?_, hlt2⟩
            have := (NEW.out _ (.inl e)).2
            omega
          · exact ⟨DIS.out x hx, by have := (NEW.out x (.inr hx)).2; omega⟩) (by rw [hkl]; unfold nch at hk; omega)
        have e1 : (us ++ [Value.slice (some ⟨wr.heap.size, 0, none⟩) 64 64]).length = us.length + 1 := by simp
        rw [e1]
        have hz5 := r2.size
        have hzr := KK.out.size
        have hdis5 : ∀ x, (Value.slice va (us.length + 1) vc).ownBlock = some x → (Value.slice la us.length lc).ownBlock = some x ∨ w2.heap.size ≤ x := r4
        have hlt5 := fun x e => (r3.own.lt x e).2
        refine ⟨va, vc, w5, r1, hid (by rw [padR_succ]; exact r3), hid (fun x hx e => ?_), hid (fun x hx => ?_), hid ((KK.out.trans kw2).trans' r2 (fun i hi hm => by have := (NEW.out i (.inl (by simpa using hm))).1; omega))⟩
        · rcases hus x hx with rfl | hx
          · rcases hdis5 _ e with h | h
            · have := (NEW.out _ (.inl h)).2; omega
            · omega
          · rcases hdis5 x e with h | h
            · exact DIS.out x hx h
            · have := (NEW.out x (.inr hx)).2; omega
        · rcases hx with e | hx
          · refine ⟨?_, hlt5 x e⟩
            rcases hdis5 x e with h | h
            · exact (NEW.out x (.inl h)).1
            · omega
          · rcases hus x hx with rfl | hx
            · exact ⟨hzr, by omega⟩
            · have := NEW.out x (.inr hx); exact ⟨this.1, by omega⟩)
      have CHK : Hid (∀ j v, ((chk b k).map (Value.int .u8))[j]? = some v → (wr.alloc (.cells zrow.cells.toArray 5)).cell? ((⟨g, off + m, none⟩ : Addr).add j) = some v) := hid (fun j v hv => by
        have hjl : j < (chk b k).length := by have := (List.getElem?_eq_some_iff.1 hv).1; simpa using this
        have hjb : k * 64 + j < b.length := by rw [chk_len] at hjl; unfold csz at hjl; omega
        have e9 : v = .int .u8 (b.getD (k * 64 + j) 0) := by
          rw [List.getElem?_map, List.getElem?_eq_getElem hjl] at hv
          simp only [Option.map_some, Option.some.injEq] at hv
          rw [← hv, List.getD_eq_getElem?_getD, List.getElem?_eq_getElem hjb]
          simp [chk]
        have h3 := CS.out (k * 64 + j) hjb
        rw [Addr.add_mid, World.cell?_of_block (w := wr) (Below.heap_alloc _ _ _ (Nat.lt_of_lt_of_le HGW.out KK.out.size)), World.cell?_of_block (w := w) (KK.out.block g HGW.out (by simp)), e9, ← h3, HM.out, Nat.add_assoc])
      have LEN : Hid (((chk b k).map (Value.int .u8)).length = Nat.min (b.length - m) 64) := hid (by
        rw [List.length_map, chk_len]
        unfold csz
        have := HM.out
        show min 64 (b.length - k * 64) = min (b.length - m) 64
        omega)
      have FIT : Hid (0 + ((chk b k).map (Value.int .u8)).length ≤ zrow.cells.length) := hid (by
        have := chk_le b k
        have e64 : zrow.cells.length = 64 := by simp [Row.cells, zrow]
        rw [List.length_map, e64]
        omega)
      clear hc hgw
      go_wp2_with (first | (refine wpList_is rfl _ _ (exec_mk (.const (.int .i64 64)) (.const (.int .i64 64)) rfl rfl rfl (mk64 _)) ?_) | (refine wpList_copy_splice (o := ⟨some 17, _, _, _, _, _⟩) rfl (.tmp 13) (.tmp 16) 38 38 rfl 5 Tryz.underlying38 (by kernel_rfl) (some ⟨wr.heap.size, 0, none⟩) (some ⟨g, off + m, none⟩) 64 64 (b.length - m) (cap - m) rfl rfl wr.heap.size 0 zrow.cells 5 (heap_alloc_new _ _) ((chk b k).map (Value.int .u8)) LEN.out (fun h0 => ⟨rfl, _, rfl, CHK.out⟩) FIT.out (by intro v hv; simp at hv; obtain ⟨z, _, rfl⟩ := hv; rfl) wr.heap.size wr ((Below.refl _ _).alloc (Nat.le_refl _) _) (Nat.le_refl _) ?_; intro w2 h2 hb2; obtain ⟨va, vc, w5, run5, RO5, DIS5, NEW5, KK5⟩ := FACT.out w2 h2 hb2; clear h2 hb2) | (refine wpList_is rfl _ _ (exec_oneRow _ _ _ _ rfl rfl) ?_) | (at_builtin; refine wpList_is rfl _ _ (exec_appendT 51 _ _ rfl rfl rfl run5) ?_) | fail)
      go_roundw
      case rel => exact ⟨k + 1, m + 64, va, vc, us ++ [.slice (some ⟨wr.heap.size, 0, none⟩) 64 64], by go_num, by simp, hid (by have := HM.out; omega), by have := HM.out; unfold nch; omega, RO5, DIS5, NEW5, KK5⟩
      case measure => simp [intOf]; omega
    · have hke : k = nch b.length := by have := HM.out; unfold nch at hk ⊢; omega
      subst hke
      have hlt' : ¬ (m : Int) < (b.length : Int) := by omega
      go_wp2_with fail
      go_ret
      exact ⟨.slice la us.length lc, rfl, us, RO.out, NEW.out, KK.out⟩
end Go.Proofs.YtiljhjegfklgmaaGreat
