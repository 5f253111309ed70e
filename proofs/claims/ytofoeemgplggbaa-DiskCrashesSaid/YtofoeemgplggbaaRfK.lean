/- The reference's disk: Crash. -/
import Derived.Test.YtofoeemgplggbaaRfJ
namespace Go.Proofs.Ytofoeemgplggbaa
open Go.RowKit Go.Shelf
set_option maxRecDepth 100000

/-- A disk that is being made: these rows in Now, these in Lasts. -/
def Ck (l0 l1 : List (List Int)) : RSt := ⟨fun i => if i = 0 then l0 else if i = 1 then l1 else [], [], 0, -1, false⟩

theorem and_u8 : ∀ n : Fin 256, bits .and .u8 (n.val : Int) 1 = (n.val : Int) % 2 := by decide
theorem and_byte {z : Int} (h : 0 ≤ z ∧ z ≤ 255) : bits .and .u8 z 1 = z % 2 := by
  have := and_u8 ⟨z.toNat, by omega⟩
  rwa [show ((z.toNat : Nat) : Int) = z by omega] at this

def lasRows (s : DS) : List (List Int) := (List.range s.cnt).map fun j => (s.las j).1
/-- The rows behind the first k writes of which some are left. -/
def leftRows (s : DS) (ch : List Int) (k : Nat) : List (List Int) := (List.range s.cnt).map fun j => (((keptBy ch (s.loose.take k)).foldl (fun g x => upd g x.1 x.2) s.las) j).1
theorem leftRows_zero (s : DS) (ch : List Int) : leftRows s ch 0 = lasRows s := by simp [leftRows, lasRows, keptBy]
theorem leftRows_skip (s : DS) (ch : List Int) (k : Nat) (hk : k < s.loose.length) (h : isLeft ch k = false) : leftRows s ch (k + 1) = leftRows s ch k := by
  unfold leftRows
  rw [keptBy_take ch s.loose k hk, h]
  simp
theorem leftRows_put (s : DS) (ch : List Int) (k : Nat) (hk : k < s.loose.length) (h : isLeft ch k = true) : leftRows s ch (k + 1) = (leftRows s ch k).set (s.loose[k]).1 (s.loose[k]).2.1 := by
  unfold leftRows
  rw [keptBy_take ch s.loose k hk, h]
  simp only [if_true, List.foldl_append, List.foldl_cons, List.foldl_nil]
  exact map_upd _ _ _ _
theorem leftRows_all (s : DS) (ch : List Int) : leftRows s ch s.loose.length = (List.range s.cnt).map fun j => (crashRow s ch j).1 := by
  unfold leftRows crashRow
  rw [List.take_length]
theorem leftRows_len (s : DS) (ch : List Int) (k : Nat) : (leftRows s ch k).length = s.cnt := by simp [leftRows]
theorem leftRows_64 (s : DS) (ch : List Int) (k : Nat) : ∀ r ∈ leftRows s ch k, r.length = 64 := by
  intro r hr
  obtain ⟨j, _, rfl⟩ := List.mem_map.1 hr
  exact (((keptBy ch (s.loose.take k)).foldl (fun g x => upd g x.1 x.2) s.las) j).2.1
theorem lasRows_64 (s : DS) : ∀ r ∈ lasRows s, r.length = 64 := by rw [← leftRows_zero s []]; exact leftRows_64 s [] 0

theorem map_at {α β : Type} (f : α → β) (l : List α) (k : Nat) (h : k < (l.map f).length) : (l.map f)[k] = f (l[k]'(by simpa using h)) := List.getElem_map _

theorem row_of_own64 {w : World} {B n : Nat} {e : TypeId} {v : Value} {zs : List Int} (h : w.ownsRow B e 1 v n (zs.map (Value.int .u8))) (hl : zs.length = n) (hz : ∀ z ∈ zs, 0 ≤ z ∧ z ≤ 255) : RowAt w v zs := by
  subst hl
  exact row_of_own h hz

/-- The rows of an outer row of what is read. -/
theorem RowsOwn.at {w : World} {v : Value} {us : List Value} {rs : List (List Int)} (h : RowsOwn w v us rs) (k : Nat) (hk : k < rs.length) :
    ∃ g c a uc, v = .slice (some ⟨g, 0, none⟩) rs.length c ∧ w.cell? ⟨g, k, none⟩ = some (.slice a rs[k].length uc) ∧ RowAt w (.slice a rs[k].length uc) rs[k] ∧ g < w.heap.size := by
  have hl := h.len
  obtain ⟨g, c, e, _, hcs⟩ := h.open (by omega)
  have hr := h.rows k (by omega)
  rw [List.getD_eq_getElem?_getD, List.getElem?_eq_getElem hk] at hr
  obtain ⟨a, uc, ue, _⟩ := id hr
  have hc := hcs k (by omega)
  simp only [Option.getD_some] at hr ue
  rw [ue] at hr hc
  exact ⟨g, c, a, uc, by rw [e, hl], hc, hr, World.block_lt_of_cell? _ _ hc⟩

theorem ck_crashed {w : World} {q : Nat} {s : DS} {ch : List Int} {vf : Nat → Value} {uf : Nat → List Value} (h : RefIn w q (Ck ((leftRows s ch s.loose.length).take s.cnt) (leftRows s ch s.loose.length)) vf uf) : RefIn w q (s.crashed ch).ref vf uf :=
  h.congr (fun i hi h2 => by
    have e : (leftRows s ch s.loose.length).take s.cnt = leftRows s ch s.loose.length := by rw [List.take_of_length_le]; rw [leftRows_len]; exact Nat.le_refl _
    have : i = 0 ∨ i = 1 ∨ i = 3 := by omega
    rcases this with rfl | rfl | rfl
    · show (List.range s.cnt).map (fun j => (crashRow s ch j).1) = (leftRows s ch s.loose.length).take s.cnt
      rw [e, leftRows_all]
    · show (List.range s.cnt).map (fun j => (crashRow s ch j).1) = leftRows s ch s.loose.length
      rw [leftRows_all]
    · rfl) rfl ⟨rfl, rfl, rfl⟩

/-- What stands behind a row that has been put behind an outer row of the disk that is being made. -/
theorem app_fresh {w wr w4 w5 : World} {p f : Nat} {VF : Nat → Value} {UF : Nat → List Value} {v u : Value} (hp : p = w.heap.size) (K : Keeps [] w wr) (FR : ∀ b, RB p VF UF b → w.heap.size ≤ b) (hf : f < 4) (h4 : Keeps [] wr w4) (k5 : Keeps (VF f).ownBlock.toList w4 w5) (hb : ∀ b, v.ownBlock = some b → (VF f).ownBlock = some b ∨ w4.heap.size ≤ b) (hu : ∀ b, u.ownBlock = some b → wr.heap.size ≤ b) :
    Keeps [] w (w5.setCell ⟨p, f, none⟩ v) ∧ ∀ b, RB p (upd VF f v) (upd UF f (UF f ++ [u])) b → w.heap.size ≤ b := by
  subst hp
  have hw := K.size
  have hw4 := h4.size
  refine ⟨((K.trans' h4 (by simp)).trans' k5 (fun b hb hm => ?_)).setCell (.inr (Nat.le_refl _)) _, fun b hb' => ?_⟩
  · have := FR b (.inr ⟨f, hf, .inl (by simpa using hm)⟩); omega
  · rcases rb_upd hb' with h | h | h
    · exact FR b h
    · rcases hb b h with h | h
      · exact FR b (.inr ⟨f, hf, .inl h⟩)
      · omega
    · rw [List.filterMap_append, List.mem_append] at h
      rcases h with h | h
      · exact FR b (.inr ⟨f, hf, .inr h⟩)
      · simp only [List.filterMap_cons, List.filterMap_nil] at h
        cases e : u.ownBlock with
        | none => rw [e] at h; simp at h
        | some b2 =>
          rw [e] at h
          simp at h
          subst h
          have := hu b e
          omega

set_option maxHeartbeats 16000000 in
theorem rcrash_any (w : World) (q : Nat) (s : DS) (vf : Nat → Value) (uf : Nat → List Value) (h : RefIn w q s.ref vf uf) (hc : s.cnt ≤ 4160) (hl : s.loose.length ≤ 100000) (hin : ∀ x ∈ s.loose, x.1 < s.cnt) (cv : Value) (ch : List Int) (hcv : RowAt w cv ch) :
    Calls Try.prog 11 #[.pointer (some ⟨q, 0, none⟩), cv] w fun e w' => ∃ p G', e = .returned (.pointer (some ⟨p, 0, none⟩)) ∧ RefAt w' p (s.crashed ch) G' ∧ (∀ b ∈ G', w.heap.size ≤ b) ∧ Keeps [] w w' := by
  have RI0 := hid h
  have CV := hid hcv
  obtain ⟨ca, cc, ce, _, chm, _⟩ := id hcv
  subst ce
  have R00 := hid (RefIn.start w)
  have HIN := hid hin
  have hlenL : (lasRows s).length = s.cnt := by simp [lasRows]
  have HLL := hid hlenL
  have row1 := h.row 1 (by decide) (by decide)
  rw [show s.ref.rf 1 = lasRows s from rfl] at row1
  have ROW1 := hid row1
  have LTq := hid (h.lt')
  unfold maxLen at chm
  have hch : ch.length ≤ 9223372036854775807 := by
    obtain ⟨_, _, e, h1, h2, _⟩ := hcv
    injection e with _ e2 e3
    unfold maxLen at h2; omega
  obtain ⟨l1a, l1c, l1e⟩ := ownsRow_slice row1.own
  rw [row1.len, hlenL] at l1e
  have C1 := hid h.c1
  rw [l1e] at C1
  clear h hcv row1 hlenL hin chm l1e
  go_enter Try.func11, Try.ntmps11
  go_wp2_with fail
  go_loopw [6] (fun i wr => ∃ (k : Nat) (VF : Nat → Value) (UF : Nat → List Value), k ≤ s.cnt ∧ i = .int .i64 k ∧ Hid (RefIn wr w.heap.size (Ck [] ((lasRows s).take k)) VF UF) ∧ Hid (∀ b, RB w.heap.size VF UF b → w.heap.size ≤ b) ∧ Hid (Keeps [] w wr)) (fun i _ => s.cnt - (intOf i).toNat)
  case atStart =>
    refine ⟨0, _, _, Nat.zero_le _, rfl, R00.out.congr (fun i hi h2 => ?_) rfl ⟨rfl, rfl, rfl⟩, fun b hb => ?_, (Keeps.refl _ _).alloc _⟩
    · have : i = 0 ∨ i = 1 ∨ i = 3 := by omega
      rcases this with rfl | rfl | rfl <;> rfl
    · rcases hb with rfl | ⟨_, _, e | e⟩
      · exact Nat.le_refl _
      · cases e
      · simp at e
  case round =>
    obtain ⟨k, VF, UF, hk, rfl, R, FR, K⟩ := hrel
    have c1 : wr.cell? ⟨q, 1, none⟩ = some (.slice l1a s.cnt l1c) := keeps_cell4 K.out C1.out (by simp)
    by_cases hlt : k < s.cnt
    · have hkL : k < (lasRows s).length := by rw [HLL.out]; exact hlt
      have RQ := RI0.out.keep K.out (by simp)
      obtain ⟨g1, x1, ua, uc, ev, hcell, hrow, hg1⟩ := RowsOwn.at (rs := lasRows s) (RQ.row 1 (by decide) (by decide)) k hkL
      have hr64 : (lasRows s)[k].length = 64 := lasRows_64 s _ (List.getElem_mem _)
      rw [hr64] at hcell hrow
      have hsrc : wr.cell? ⟨q, 1, none⟩ = some (.slice (some ⟨g1, 0, none⟩) s.cnt x1) := by rw [RQ.c1, ev, HLL.out]
      have hnq : q ∉ (VF 1).ownBlock.toList := fun hm => by
        have := FR.out q (.inr ⟨1, by decide, .inl (by simpa using hm)⟩)
        have := LTq.out q (.inl rfl)
        omega
      have hng : g1 ∉ (VF 1).ownBlock.toList := fun hm => by
        have := FR.out g1 (.inr ⟨1, by decide, .inl (by simpa using hm)⟩)
        have := LTq.out g1 (.inr ⟨1, by decide, .inl (by rw [ev]; rfl)⟩)
        omega
      have hqlt : q < wr.heap.size := RQ.lt' q (.inl rfl)
      have hS1 : (Ck [] ((lasRows s).take (k + 1))).rf 1 = (Ck [] ((lasRows s).take k)).rf 1 ++ [(lasRows s)[k]] := List.take_succ_eq_append_getElem hkL
      have hS2 : ∀ j, j < 4 → j ≠ 1 → j ≠ 2 → (Ck [] ((lasRows s).take (k + 1))).rf j = (Ck [] ((lasRows s).take k)).rf j := fun j hj h1 h2 => by
        have : j = 0 ∨ j = 3 := by omega
        rcases this with rfl | rfl <;> rfl
      have hUL : (UF 1).length = k := by
        rw [(R.out.row 1 (by decide) (by decide)).len]
        show ((lasRows s).take k).length = k
        rw [List.length_take]; omega
      generalize (lasRows s)[k]'hkL = rv at hcell hrow hr64 hS1
      have SRC := hid hsrc
      have CELL := hid hcell
      have ROW := hid hrow
      have R64 := hid hr64
      have HNQ := hid hnq
      have HNG := hid hng
      have HQ := hid hqlt
      have HG := hid hg1
      have S1 := hid hS1
      have S2 := hid hS2
      have UL := hid hUL
      have LTp := hid (R.out.lt')
      have CD := hid (show wr.cell? ⟨w.heap.size, 1, none⟩ = some (VF 1) from R.out.c1)
      obtain ⟨da, dc, de⟩ := ownsRow_slice (R.out.row 1 (by decide) (by decide)).own
      have DE := hid de
      have hnp : w.heap.size ∉ (VF 1).ownBlock.toList := by
        have := R.out.no 1 (by decide)
        simpa using this
      have HNP := hid hnp
      clear hsrc hcell hrow hr64 hnq hng hqlt hg1 hS1 hS2 hUL ev de hnp RQ hkL
      go_wp2_with fail
      refine wp_region_any (by kernel_rfl) (wpAny_of_late (late := [17]) (S := KpS (VF 1).ownBlock.toList wr.heap.size wr.drew) _ _ _ _ ?_)
      change wpAnyT _ _ _ _ _ _ _ _ _ wr.drew
      have cP : ∀ W1, KpS (VF 1).ownBlock.toList wr.heap.size wr.drew W1 → W1.cell? ⟨w.heap.size, 1, none⟩ = some (VF 1) ∧ W1.cell? ⟨q, 1, none⟩ = some (.slice (some ⟨g1, 0, none⟩) s.cnt x1) ∧ W1.cell? ⟨g1, k, none⟩ = some (.slice ua 64 uc) := fun W1 h => ⟨h.cell (by rw [World.cell?_drew]; exact CD.out) (LTp.out _ (.inl rfl)) HNP.out, h.cell (by rw [World.cell?_drew]; exact SRC.out) HQ.out HNQ.out, h.cell (by rw [World.cell?_drew]; exact CELL.out) HG.out HNG.out⟩
      refine late_take (i := 0) (v := .pointer (some ⟨w.heap.size, 0, none⟩)) rfl (by kernel_rfl) (by kernel_rfl) (by kernel_rfl) (by kernel_rfl) (by kernel_rfl) (fun _ _ _ h => h) rfl (fun W1 hW1 => rfl) (KpS.refl _ _ _) ?_
      simp only [Act.put, List.setIfInBounds_toArray, List.set_cons_zero, List.set_cons_succ]
      refine late_take (i := 1) (v := .pointer (some ⟨w.heap.size, 0, none⟩)) rfl (by kernel_rfl) (by kernel_rfl) (by kernel_rfl) (by kernel_rfl) (by kernel_rfl) (fun _ _ _ h => h) rfl (fun W1 hW1 => rfl) (KpS.refl _ _ _) ?_
      simp only [Act.put, List.setIfInBounds_toArray, List.set_cons_zero, List.set_cons_succ]
      refine late_take (i := 2) (v := .pointer (some ⟨w.heap.size, 0, none⟩)) rfl (by kernel_rfl) (by kernel_rfl) (by kernel_rfl) (by kernel_rfl) (by kernel_rfl) (fun _ _ _ h => h) rfl (fun W1 hW1 => by go_simp) (KpS.refl _ _ _) ?_
      simp only [Act.put, List.setIfInBounds_toArray, List.set_cons_zero, List.set_cons_succ]
      refine late_take (i := 3) (v := .pointer (some ⟨w.heap.size, 1, none⟩)) rfl (by kernel_rfl) (by kernel_rfl) (by kernel_rfl) (by kernel_rfl) (by kernel_rfl) (fun _ _ _ h => h) rfl (fun W1 hW1 => by go_simp) (KpS.refl _ _ _) ?_
      simp only [Act.put, List.setIfInBounds_toArray, List.set_cons_zero, List.set_cons_succ]
      refine late_take (i := 4) (v := VF 1) rfl (by kernel_rfl) (by kernel_rfl) (by kernel_rfl) (by kernel_rfl) (by kernel_rfl) (fun _ _ _ h => h) rfl (fun W1 hW1 => exec_load _ _ _ _ rfl rfl (run_loadCell W1 _ _ _ ((cP W1 hW1).1) (agg_no _ (by kernel_rfl)))) (KpS.refl _ _ _) ?_
      simp only [Act.put, List.setIfInBounds_toArray, List.set_cons_zero, List.set_cons_succ]
      refine late_take (i := 5) (v := .pointer (some ⟨q, 0, none⟩)) rfl (by kernel_rfl) (by kernel_rfl) (by kernel_rfl) (by kernel_rfl) (by kernel_rfl) (fun _ _ _ h => h) rfl (fun W1 hW1 => rfl) (KpS.refl _ _ _) ?_
      simp only [Act.put, List.setIfInBounds_toArray, List.set_cons_zero, List.set_cons_succ]
      refine late_take (i := 6) (v := .pointer (some ⟨q, 0, none⟩)) rfl (by kernel_rfl) (by kernel_rfl) (by kernel_rfl) (by kernel_rfl) (by kernel_rfl) (fun _ _ _ h => h) rfl (fun W1 hW1 => by go_simp) (KpS.refl _ _ _) ?_
      simp only [Act.put, List.setIfInBounds_toArray, List.set_cons_zero, List.set_cons_succ]
      refine late_take (i := 7) (v := .pointer (some ⟨q, 1, none⟩)) rfl (by kernel_rfl) (by kernel_rfl) (by kernel_rfl) (by kernel_rfl) (by kernel_rfl) (fun _ _ _ h => h) rfl (fun W1 hW1 => by go_simp) (KpS.refl _ _ _) ?_
      simp only [Act.put, List.setIfInBounds_toArray, List.set_cons_zero, List.set_cons_succ]
      refine late_take (i := 8) (v := .slice (some ⟨g1, 0, none⟩) s.cnt x1) rfl (by kernel_rfl) (by kernel_rfl) (by kernel_rfl) (by kernel_rfl) (by kernel_rfl) (fun _ _ _ h => h) rfl (fun W1 hW1 => exec_load _ _ _ _ rfl rfl (run_loadCell W1 _ _ _ ((cP W1 hW1).2.1) (agg_no _ (by kernel_rfl)))) (KpS.refl _ _ _) ?_
      simp only [Act.put, List.setIfInBounds_toArray, List.set_cons_zero, List.set_cons_succ]
      refine late_take (i := 9) (v := .int .i64 (k : Int)) rfl (by kernel_rfl) (by kernel_rfl) (by kernel_rfl) (by kernel_rfl) (by kernel_rfl) (fun _ _ _ h => h) rfl (fun W1 hW1 => rfl) (KpS.refl _ _ _) ?_
      simp only [Act.put, List.setIfInBounds_toArray, List.set_cons_zero, List.set_cons_succ]
      refine late_take (i := 10) (v := .pointer (some ⟨g1, k, none⟩)) rfl (by kernel_rfl) (by kernel_rfl) (by kernel_rfl) (by kernel_rfl) (by kernel_rfl) (fun _ _ _ h => h) rfl (fun W1 hW1 => by go_simp) (KpS.refl _ _ _) ?_
      simp only [Act.put, List.setIfInBounds_toArray, List.set_cons_zero, List.set_cons_succ]
      refine late_take (i := 11) (v := .slice ua 64 uc) rfl (by kernel_rfl) (by kernel_rfl) (by kernel_rfl) (by kernel_rfl) (by kernel_rfl) (fun _ _ _ h => h) rfl (fun W1 hW1 => exec_load _ _ _ _ rfl rfl (run_loadCell W1 _ _ _ ((cP W1 hW1).2.2) (agg_no _ (by kernel_rfl)))) (KpS.refl _ _ _) ?_
      simp only [Act.put, List.setIfInBounds_toArray, List.set_cons_zero, List.set_cons_succ]
      refine late_do (i := 12) (by kernel_rfl) rfl rfl (wp_enter (f := 32) (args := #[.slice ua 64 uc]) (by go_simp) (copy4_any wr.drew _ rv (by have := ROW.out.keep ((Keeps.refl [] wr).drew) (by intro _ _ _ _ _; simp); exact this) (by rw [R64.out]; omega)) ?_)
      rintro e w4 ⟨a4, c4, rfl, ow4, k4⟩
      rw [R64.out] at ow4
      have s4 : KpS (VF 1).ownBlock.toList wr.heap.size wr.drew w4 := (KpS.refl _ _ _).keeps k4 (by simp) (by simp)
      rw [R64.out]
      refine ⟨_, rfl, Or.inr s4, ?_⟩
      simp only [Act.put, List.setIfInBounds_toArray, List.set_cons_zero, List.set_cons_succ]
      have k4' : Keeps [] wr w4 := (Keeps.refl [] wr).drew.trans k4
      have R4 := R.out.keep k4' (by simp)
      have h34 : wr.heap.size ≤ w4.heap.size := k4'.size
      have hnew : ∀ b, (Value.slice a4 64 c4).ownBlock = some b → wr.heap.size ≤ b ∧ b < w4.heap.size := fun b e => by
        have h1 := ow4.lt b e
        simp only [World.size_drew] at h1
        exact h1
      obtain ⟨v5a, v5c, w5, run5, kp5, hq5, r5, hb5⟩ := R4.app (s' := (Ck [] ((lasRows s).take (k + 1)))) 1 (by decide) (by decide) a4 64 c4 rv (row_of_own64 ow4 R64.out ROW.out.bytes)
        (fun b e => by
          obtain ⟨h1, h2⟩ := hnew b e
          refine ⟨fun e2 => ?_, fun j hj e2 => ?_, h2⟩
          · have := LTp.out w.heap.size (.inl rfl); omega
          · have := LTp.out b (.inr ⟨j, hj, .inl e2⟩); omega)
        S1.out S2.out rfl ⟨rfl, rfl, rfl⟩ (by rw [UL.out]; omega)
      refine late_do (i := 13) (by kernel_rfl) rfl rfl (wp_value (exec_oneRow _ a4 64 c4 rfl rfl) ?_)
      have s5 : KpS (VF 1).ownBlock.toList wr.heap.size wr.drew (w4.alloc (.cells #[.slice a4 64 c4] 34)) := s4.alloc h34 _
      refine ⟨Or.inr s5, ?_⟩
      simp only [Act.put, List.setIfInBounds_toArray, List.set_cons_zero, List.set_cons_succ]
      refine late_do (i := 14) (by kernel_rfl) rfl rfl (wp_value (exec_appendT 39 _ _ rfl rfl rfl run5) ?_)
      have s6 : KpS (VF 1).ownBlock.toList wr.heap.size wr.drew w5 := s4.keeps kp5 h34 (fun b hb _ => hb)
      refine ⟨Or.inr s6, ?_⟩
      simp only [Act.put, List.setIfInBounds_toArray, List.set_cons_zero, List.set_cons_succ]
      refine late_take (i := 15) (v := .pointer (some ⟨w.heap.size, 0, none⟩)) rfl (by kernel_rfl) (by kernel_rfl) (by kernel_rfl) (by kernel_rfl) (by kernel_rfl) (fun _ _ _ h => h) rfl (fun W1 hW1 => by go_simp) (s6) ?_
      simp only [Act.put, List.setIfInBounds_toArray, List.set_cons_zero, List.set_cons_succ]
      refine late_take (i := 16) (v := .pointer (some ⟨w.heap.size, 1, none⟩)) rfl (by kernel_rfl) (by kernel_rfl) (by kernel_rfl) (by kernel_rfl) (by kernel_rfl) (fun _ _ _ h => h) rfl (fun W1 hW1 => by go_simp) (s6) ?_
      simp only [Act.put, List.setIfInBounds_toArray, List.set_cons_zero, List.set_cons_succ]
      have c5 : w5.cell? ⟨w.heap.size, 1, none⟩ = some (VF 1) := (cP w5 s6).1
      have f5 : w5.frozen? ⟨w.heap.size, 1, none⟩ = false := by
        simp only [World.frozen?]
        rw [hq5]
        exact R4.fr 1
      have DE' := DE.out
      rw [DE'] at c5
      refine late_do (i := 17) (by kernel_rfl) rfl rfl (wp_storedD (w' := w5.setCell ⟨w.heap.size, 1, none⟩ (.slice v5a ((UF 1).length + 1) v5c)) (by go_simp) ⟨Or.inl rfl, ?_⟩)
      simp only [Act.put]
      refine wpAnyT_done (by kernel_rfl) ?_ _
      obtain ⟨K5, FR5⟩ := app_fresh rfl K.out FR.out (f := 1) (by decide) k4' kp5 hb5 (fun b e => (hnew b e).1)
      have K6 := hid K5
      have FR6 := hid FR5
      have R6 := hid r5
      clear cP s4 k4' R4 run5 kp5 hq5 r5 hb5 s5 s6 c5 f5 DE' ow4 k4 K5 FR5 hnew h34
      go_wp2_with fail
      go_roundw
      case rel => exact ⟨k + 1, _, _, by omega, by go_num, R6, FR6, K6⟩
      case measure => simp [intOf]; omega
    · have hke : k = s.cnt := by omega
      subst hke
      rw [List.take_of_length_le (by rw [HLL.out]; exact Nat.le_refl _), ← leftRows_zero s ch] at R
      have hatl : s.ref.ats.length = s.loose.length := by simp [DS.ref]
      have HATL := hid hatl
      have Q2 := hid RI0.out.c2
      have Q3 := hid RI0.out.c3
      obtain ⟨l2a, l2c, l2e⟩ := ownsRow_slice RI0.out.at_
      rw [l2e, hatl] at Q2
      have L2E := hid l2e
      have C3 := hid (show True from trivial)
      clear hatl l2e
      go_wp2_with fail
      clear c1 hlt
      have R1 := hid R.out
      have FR1 := hid FR.out
      have K1 := hid K.out
      generalize hWW : wr = wa at R FR K R1 FR1 K1 ⊢
      go_loopw [7] (fun i wr => ∃ (k : Nat) (VF : Nat → Value) (UF : Nat → List Value), k ≤ s.loose.length ∧ i = .int .i64 k ∧ Hid (RefIn wr w.heap.size (Ck [] (leftRows s ch k)) VF UF) ∧ Hid (∀ b, RB w.heap.size VF UF b → w.heap.size ≤ b) ∧ Hid (Keeps [] w wr)) (fun i _ => s.loose.length - (intOf i).toNat)
      case atStart => exact ⟨0, VF, UF, Nat.zero_le _, rfl, R1.out, FR1.out, K1.out⟩
      case round =>
        clear R FR K R1 FR1 K1 VF UF
        obtain ⟨k, VF, UF, hk, rfl, R, FR, K⟩ := hrel
        have c2 : wr.cell? ⟨q, 2, none⟩ = some (.slice l2a s.loose.length l2c) := keeps_cell4 K.out Q2.out (by simp)
        by_cases hlt : k < s.loose.length
        · have tst : (isLeft ch k = false ∧ ∃ hc : k < ch.length, ∃ (g o : Nat) (z : Int), ca = some ⟨g, o, none⟩ ∧ wr.cell? ⟨g, o + k, none⟩ = some (.int .u8 z) ∧ ((bits .and .u8 z 1 : Int) == 1) = false) ∨ (isLeft ch k = true ∧ (ch.length ≤ k ∨ ∃ hc : k < ch.length, ∃ (g o : Nat) (z : Int), ca = some ⟨g, o, none⟩ ∧ wr.cell? ⟨g, o + k, none⟩ = some (.int .u8 z) ∧ ((bits .and .u8 z 1 : Int) == 1) = true)) := by
            by_cases hcl : ch.length ≤ k
            · exact Or.inr ⟨by simp [isLeft, hcl], Or.inl hcl⟩
            · have hcl' : k < ch.length := by omega
              obtain ⟨g, o, cap, e1, _, hcs⟩ := CV.out.open (by omega)
              injection e1 with e1 _ _
              have hz : 0 ≤ ch.getD k 0 ∧ ch.getD k 0 ≤ 255 := CV.out.bytes _ (by rw [List.getD_eq_getElem?_getD, List.getElem?_eq_getElem hcl']; exact List.getElem_mem _)
              have hce := keeps_cell4 K.out (hcs k hcl') (by simp)
              have hand := and_byte hz
              by_cases hodd : (ch.getD k 0 % 2 == 1) = true
              · refine Or.inr ⟨by simp only [isLeft, hodd, Bool.or_true], Or.inr ⟨hcl', g, o, _, e1, hce, by rw [hand]; exact hodd⟩⟩
              · refine Or.inl ⟨?_, hcl', g, o, _, e1, hce, by rw [hand]; simpa using hodd⟩
                have h1 : decide (ch.length ≤ k) = false := by simpa using hcl'
                have h2 : (ch.getD k 0 % 2 == 1) = false := by simpa using hodd
                simp only [isLeft, h1, h2, Bool.or_false]
          have R64 := hid (leftRows_64 s ch)
          rcases tst with ⟨hno, hc, g, o, z, eca, hcell, hb⟩ | ⟨hyes, tst⟩
          · subst eca
            have hck : (k : Int) < ch.length := by omega
            have HNO := hid (leftRows_skip s ch k hlt hno)
            clear hno
            go_wp2_with fail
            go_roundw
            case rel => exact ⟨k + 1, VF, UF, by omega, by go_num, by rw [HNO.out]; exact R.out, FR.out, K.out⟩
            case measure => simp [intOf]; omega
          · have hmem : s.loose[k] ∈ s.loose := List.getElem_mem hlt
            have hm : (s.loose[k]).1 < s.cnt := HIN.out _ hmem
            have hPUT := hid (leftRows_put s ch k hlt hyes)
            have RQ := RI0.out.keep K.out (by simp)
            have wl : (s.ref.rf 3).length = s.loose.length := by show (List.map _ s.loose).length = _; rw [List.length_map]
            obtain ⟨g3, x3, ua, uc, ev3, hc3, hrow3, hg3⟩ := RowsOwn.at (rs := s.ref.rf 3) (RQ.row 3 (by decide) (by decide)) k (by rw [wl]; exact hlt)
            have e3r : (s.ref.rf 3)[k]'(by rw [wl]; exact hlt) = (s.loose[k]).2.1 := by
              exact map_at (fun x : Nat × Row => x.2.1) s.loose k _
            rw [e3r] at hc3 hrow3
            have r64 := (s.loose[k]).2.2.1
            rw [r64] at hc3 hrow3
            have s3 : wr.cell? ⟨q, 3, none⟩ = some (.slice (some ⟨g3, 0, none⟩) s.loose.length x3) := by rw [RQ.c3, ev3, wl]
            have s2 : wr.cell? ⟨q, 2, none⟩ = some (.slice l2a s.loose.length l2c) := c2
            obtain ⟨g2, h2, hat⟩ : ∃ g2, l2a = some ⟨g2, 0, none⟩ ∧ wr.cell? ⟨g2, k, none⟩ = some (.int .i64 ((s.loose[k]).1 : Int)) := by
              have ho := RQ.at_
              rw [L2E.out, HATL.out] at ho
              rcases ho.2 with ⟨h0, h1⟩ | ⟨g2, c2', cur, h0, _, hgg, hnc, _⟩
              · omega
              · injection h0 with h0 _ _
                refine ⟨g2, h0, ?_⟩
                subst h0
                have := ho.cells (g := g2) rfl k (.int .i64 ((s.loose[k]).1 : Int)) (by
                  show (List.map (Value.int .i64) (s.loose.map fun x => (x.1 : Int)))[k]? = _
                  simp [List.getElem?_eq_getElem hlt])
                rwa [Addr.add_mid, Nat.zero_add] at this
            have u1l : (UF 1).length = s.cnt := by
              rw [(R.out.row 1 (by decide) (by decide)).len]
              show (leftRows s ch k).length = _
              exact leftRows_len s ch k
            obtain ⟨g1, x1, ev1, _, hcs1⟩ := (R.out.row 1 (by decide) (by decide)).open (by omega)
            have s1 : wr.cell? ⟨w.heap.size, 1, none⟩ = some (.slice (some ⟨g1, 0, none⟩) s.cnt x1) := by rw [R.out.c1, ev1, u1l]
            have hqlt : q < wr.heap.size := RQ.lt' q (.inl rfl)
            have hplt : w.heap.size < wr.heap.size := R.out.lt' _ (.inl rfl)
            have hg2 : g2 < wr.heap.size := World.block_lt_of_cell? _ _ hat
            have X1 := hid s1
            have X2 := hid s2
            have X3 := hid s3
            have Y2 := hid hat
            have Y3 := hid hc3
            have ROW := hid hrow3
            have N64 := hid r64
            have EV1 := hid ev1
            have U1L := hid u1l
            have ZQ := hid hqlt
            have ZP := hid hplt
            have Z2 := hid hg2
            have Z3 := hid hg3
            have LTp := hid (R.out.lt')
            have HMI : ((s.loose[k]).1 : Int) < s.cnt := by omega
            have HM := hid hm
            subst h2
            generalize hxk : s.loose[k] = xk at *
            clear hmem hm RQ wl ev3 hc3 hrow3 hg3 e3r r64 s3 s2 hat u1l ev1 hcs1 s1 hqlt hplt hg2 hyes hxk
            rcases tst with tst | ⟨hc, g, o, z, eca, hcell, hb⟩
            · have tst' := tst
              go_wp2_with fail
              refine wp_region_any (by kernel_rfl) (wpAny_of_late (late := [20]) (S := KpS [] wr.heap.size wr.drew) _ _ _ _ ?_)
              change wpAnyT _ _ _ _ _ _ _ _ _ wr.drew
              have cP : ∀ W1, KpS [] wr.heap.size wr.drew W1 → W1.cell? ⟨w.heap.size, 1, none⟩ = some (.slice (some ⟨g1, 0, none⟩) s.cnt x1) ∧ W1.cell? ⟨q, 2, none⟩ = some (.slice (some ⟨g2, 0, none⟩) s.loose.length l2c) ∧ W1.cell? ⟨q, 3, none⟩ = some (.slice (some ⟨g3, 0, none⟩) s.loose.length x3) ∧ W1.cell? ⟨g2, k, none⟩ = some (.int .i64 (xk.1 : Int)) ∧ W1.cell? ⟨g3, k, none⟩ = some (.slice ua 64 uc) := fun W1 h => ⟨h.cell (by rw [World.cell?_drew]; exact X1.out) ZP.out (by simp), h.cell (by rw [World.cell?_drew]; exact X2.out) ZQ.out (by simp), h.cell (by rw [World.cell?_drew]; exact X3.out) ZQ.out (by simp), h.cell (by rw [World.cell?_drew]; exact Y2.out) Z2.out (by simp), h.cell (by rw [World.cell?_drew]; exact Y3.out) Z3.out (by simp)⟩
              refine late_take (i := 0) (v := .pointer (some ⟨w.heap.size, 0, none⟩)) rfl (by kernel_rfl) (by kernel_rfl) (by kernel_rfl) (by kernel_rfl) (by kernel_rfl) (fun _ _ _ h => h) rfl (fun W1 hW1 => rfl) (KpS.refl _ _ _) ?_
              simp only [Act.put, List.setIfInBounds_toArray, List.set_cons_zero, List.set_cons_succ]
              refine late_take (i := 1) (v := .pointer (some ⟨w.heap.size, 0, none⟩)) rfl (by kernel_rfl) (by kernel_rfl) (by kernel_rfl) (by kernel_rfl) (by kernel_rfl) (fun _ _ _ h => h) rfl (fun W1 hW1 => by go_simp) (KpS.refl _ _ _) ?_
              simp only [Act.put, List.setIfInBounds_toArray, List.set_cons_zero, List.set_cons_succ]
              refine late_take (i := 2) (v := .pointer (some ⟨w.heap.size, 1, none⟩)) rfl (by kernel_rfl) (by kernel_rfl) (by kernel_rfl) (by kernel_rfl) (by kernel_rfl) (fun _ _ _ h => h) rfl (fun W1 hW1 => by go_simp) (KpS.refl _ _ _) ?_
              simp only [Act.put, List.setIfInBounds_toArray, List.set_cons_zero, List.set_cons_succ]
              refine late_take (i := 3) (v := .slice (some ⟨g1, 0, none⟩) s.cnt x1) rfl (by kernel_rfl) (by kernel_rfl) (by kernel_rfl) (by kernel_rfl) (by kernel_rfl) (fun _ _ _ h => h) rfl (fun W1 hW1 => exec_load _ _ _ _ rfl rfl (run_loadCell W1 _ _ _ ((cP W1 hW1).1) (agg_no _ (by kernel_rfl)))) (KpS.refl _ _ _) ?_
              simp only [Act.put, List.setIfInBounds_toArray, List.set_cons_zero, List.set_cons_succ]
              refine late_take (i := 4) (v := .pointer (some ⟨q, 0, none⟩)) rfl (by kernel_rfl) (by kernel_rfl) (by kernel_rfl) (by kernel_rfl) (by kernel_rfl) (fun _ _ _ h => h) rfl (fun W1 hW1 => rfl) (KpS.refl _ _ _) ?_
              simp only [Act.put, List.setIfInBounds_toArray, List.set_cons_zero, List.set_cons_succ]
              refine late_take (i := 5) (v := .pointer (some ⟨q, 0, none⟩)) rfl (by kernel_rfl) (by kernel_rfl) (by kernel_rfl) (by kernel_rfl) (by kernel_rfl) (fun _ _ _ h => h) rfl (fun W1 hW1 => by go_simp) (KpS.refl _ _ _) ?_
              simp only [Act.put, List.setIfInBounds_toArray, List.set_cons_zero, List.set_cons_succ]
              refine late_take (i := 6) (v := .pointer (some ⟨q, 2, none⟩)) rfl (by kernel_rfl) (by kernel_rfl) (by kernel_rfl) (by kernel_rfl) (by kernel_rfl) (fun _ _ _ h => h) rfl (fun W1 hW1 => by go_simp) (KpS.refl _ _ _) ?_
              simp only [Act.put, List.setIfInBounds_toArray, List.set_cons_zero, List.set_cons_succ]
              refine late_take (i := 7) (v := .slice (some ⟨g2, 0, none⟩) s.loose.length l2c) rfl (by kernel_rfl) (by kernel_rfl) (by kernel_rfl) (by kernel_rfl) (by kernel_rfl) (fun _ _ _ h => h) rfl (fun W1 hW1 => exec_load _ _ _ _ rfl rfl (run_loadCell W1 _ _ _ ((cP W1 hW1).2.1) (agg_no _ (by kernel_rfl)))) (KpS.refl _ _ _) ?_
              simp only [Act.put, List.setIfInBounds_toArray, List.set_cons_zero, List.set_cons_succ]
              refine late_take (i := 8) (v := .int .i64 (k : Int)) rfl (by kernel_rfl) (by kernel_rfl) (by kernel_rfl) (by kernel_rfl) (by kernel_rfl) (fun _ _ _ h => h) rfl (fun W1 hW1 => rfl) (KpS.refl _ _ _) ?_
              simp only [Act.put, List.setIfInBounds_toArray, List.set_cons_zero, List.set_cons_succ]
              refine late_take (i := 9) (v := .pointer (some ⟨g2, k, none⟩)) rfl (by kernel_rfl) (by kernel_rfl) (by kernel_rfl) (by kernel_rfl) (by kernel_rfl) (fun _ _ _ h => h) rfl (fun W1 hW1 => by go_simp) (KpS.refl _ _ _) ?_
              simp only [Act.put, List.setIfInBounds_toArray, List.set_cons_zero, List.set_cons_succ]
              refine late_take (i := 10) (v := .int .i64 (xk.1 : Int)) rfl (by kernel_rfl) (by kernel_rfl) (by kernel_rfl) (by kernel_rfl) (by kernel_rfl) (fun _ _ _ h => h) rfl (fun W1 hW1 => exec_load _ _ _ _ rfl rfl (run_loadCell W1 _ _ _ ((cP W1 hW1).2.2.2.1) (agg_no _ (by kernel_rfl)))) (KpS.refl _ _ _) ?_
              simp only [Act.put, List.setIfInBounds_toArray, List.set_cons_zero, List.set_cons_succ]
              refine late_take (i := 11) (v := .pointer (some ⟨q, 0, none⟩)) rfl (by kernel_rfl) (by kernel_rfl) (by kernel_rfl) (by kernel_rfl) (by kernel_rfl) (fun _ _ _ h => h) rfl (fun W1 hW1 => rfl) (KpS.refl _ _ _) ?_
              simp only [Act.put, List.setIfInBounds_toArray, List.set_cons_zero, List.set_cons_succ]
              refine late_take (i := 12) (v := .pointer (some ⟨q, 0, none⟩)) rfl (by kernel_rfl) (by kernel_rfl) (by kernel_rfl) (by kernel_rfl) (by kernel_rfl) (fun _ _ _ h => h) rfl (fun W1 hW1 => by go_simp) (KpS.refl _ _ _) ?_
              simp only [Act.put, List.setIfInBounds_toArray, List.set_cons_zero, List.set_cons_succ]
              refine late_take (i := 13) (v := .pointer (some ⟨q, 3, none⟩)) rfl (by kernel_rfl) (by kernel_rfl) (by kernel_rfl) (by kernel_rfl) (by kernel_rfl) (fun _ _ _ h => h) rfl (fun W1 hW1 => by go_simp) (KpS.refl _ _ _) ?_
              simp only [Act.put, List.setIfInBounds_toArray, List.set_cons_zero, List.set_cons_succ]
              refine late_take (i := 14) (v := .slice (some ⟨g3, 0, none⟩) s.loose.length x3) rfl (by kernel_rfl) (by kernel_rfl) (by kernel_rfl) (by kernel_rfl) (by kernel_rfl) (fun _ _ _ h => h) rfl (fun W1 hW1 => exec_load _ _ _ _ rfl rfl (run_loadCell W1 _ _ _ ((cP W1 hW1).2.2.1) (agg_no _ (by kernel_rfl)))) (KpS.refl _ _ _) ?_
              simp only [Act.put, List.setIfInBounds_toArray, List.set_cons_zero, List.set_cons_succ]
              refine late_take (i := 15) (v := .int .i64 (k : Int)) rfl (by kernel_rfl) (by kernel_rfl) (by kernel_rfl) (by kernel_rfl) (by kernel_rfl) (fun _ _ _ h => h) rfl (fun W1 hW1 => rfl) (KpS.refl _ _ _) ?_
              simp only [Act.put, List.setIfInBounds_toArray, List.set_cons_zero, List.set_cons_succ]
              refine late_take (i := 16) (v := .pointer (some ⟨g3, k, none⟩)) rfl (by kernel_rfl) (by kernel_rfl) (by kernel_rfl) (by kernel_rfl) (by kernel_rfl) (fun _ _ _ h => h) rfl (fun W1 hW1 => by go_simp) (KpS.refl _ _ _) ?_
              simp only [Act.put, List.setIfInBounds_toArray, List.set_cons_zero, List.set_cons_succ]
              refine late_take (i := 17) (v := .slice ua 64 uc) rfl (by kernel_rfl) (by kernel_rfl) (by kernel_rfl) (by kernel_rfl) (by kernel_rfl) (fun _ _ _ h => h) rfl (fun W1 hW1 => exec_load _ _ _ _ rfl rfl (run_loadCell W1 _ _ _ ((cP W1 hW1).2.2.2.2) (agg_no _ (by kernel_rfl)))) (KpS.refl _ _ _) ?_
              simp only [Act.put, List.setIfInBounds_toArray, List.set_cons_zero, List.set_cons_succ]
              refine late_do (i := 18) (by kernel_rfl) rfl rfl (wp_enter (f := 32) (args := #[.slice ua 64 uc]) (by go_simp) (copy4_any wr.drew _ xk.2.1 (by have := ROW.out.keep ((Keeps.refl [] wr).drew) (by intro _ _ _ _ _; simp); exact this) (by rw [N64.out]; omega)) ?_)
              rintro e w7 ⟨a7, c7, rfl, ow7, k7⟩
              have s7 : KpS [] wr.heap.size wr.drew w7 := (KpS.refl _ _ _).keeps k7 (by simp) (by simp)
              refine ⟨_, rfl, Or.inr s7, ?_⟩
              simp only [Act.put, List.setIfInBounds_toArray, List.set_cons_zero, List.set_cons_succ]
              refine late_take (i := 19) (v := .pointer (some ⟨g1, xk.1, none⟩)) rfl (by kernel_rfl) (by kernel_rfl) (by kernel_rfl) (by kernel_rfl) (by kernel_rfl) (fun _ _ _ h => h) rfl (fun W1 hW1 => by go_simp) (s7) ?_
              simp only [Act.put, List.setIfInBounds_toArray, List.set_cons_zero, List.set_cons_succ]
              have k7' : Keeps [] wr w7 := (Keeps.refl [] wr).drew.trans k7
              have R7 := R.out.keep k7' (by simp)
              have h67 : wr.heap.size ≤ w7.heap.size := k7'.size
              have GV : VF 1 = .slice (some ⟨g1, 0, none⟩) (UF 1).length x1 := EV1.out
              have rsw := R7.swap (s' := Ck [] (leftRows s ch (k + 1))) 1 (by decide) (by decide) xk.1 (by rw [U1L.out]; exact HM.out) (.slice a7 xk.2.1.length c7) rfl xk.2.1 (row_of_own ow7 ROW.out.bytes)
                (fun b e => by
                  have h1 := ow7.lt b e
                  simp only [World.size_drew] at h1
                  refine ⟨fun e2 => ?_, fun j hj e2 => ?_, h1.2⟩
                  · have := LTp.out _ (.inl rfl); omega
                  · have := LTp.out b (.inr ⟨j, hj, .inl e2⟩); omega)
                (by exact hPUT.out) (fun j hj h1 h2 => by
                  have : j = 0 ∨ j = 3 := by omega
                  rcases this with rfl | rfl <;> rfl) rfl ⟨rfl, rfl, rfl⟩ g1 x1 GV
              obtain ⟨gx, cx, ex, _, hcx⟩ := (R7.row 1 (by decide) (by decide)).open (by rw [U1L.out]; have := HM.out; omega)
              have eg : gx = g1 := by
                rw [GV] at ex
                injection ex with ex _ _
                injection ex with ex
                injection ex with ex
                exact ex.symm
              subst eg
              have cgi := hcx xk.1 (by rw [U1L.out]; exact HM.out)
              have fgi : w7.frozen? ⟨gx, xk.1, none⟩ = false := by
                have ho := (R7.row 1 (by decide) (by decide)).own
                rw [GV] at ho
                exact ho.frozenAt _
              generalize (UF 1)[xk.1]'(by rw [U1L.out]; exact HM.out) = ug at cgi
              refine late_do (i := 20) (by kernel_rfl) rfl rfl (wp_storedD (w' := w7.setCell ⟨gx, xk.1, none⟩ (.slice a7 xk.2.1.length c7)) (by go_simp) ⟨Or.inl rfl, ?_⟩)
              simp only [Act.put]
              refine wpAnyT_done (by kernel_rfl) ?_ _
              have GM : w.heap.size ≤ gx := FR.out gx (.inr ⟨1, by decide, .inl (by rw [GV]; rfl)⟩)
              have K8 := hid ((K.out.trans' (S' := []) k7' (by simp)).setCell (p := ⟨gx, xk.1, none⟩) (.inr GM) (.slice a7 xk.2.1.length c7))
              have R8 := hid rsw
              have FR8 : Hid (∀ b, RB w.heap.size VF (upd UF 1 ((UF 1).set xk.1 (.slice a7 xk.2.1.length c7))) b → w.heap.size ≤ b) := hid (fun b hb => by
                have hw6 : w.heap.size ≤ wr.heap.size := K.out.size
                rcases hb with rfl | ⟨j, hj, e | e⟩
                · exact Nat.le_refl _
                · exact FR.out b (.inr ⟨j, hj, .inl e⟩)
                · by_cases hj0 : j = 1
                  · subst hj0
                    rw [upd_same] at e
                    obtain ⟨x, hx, ex⟩ := List.mem_filterMap.1 e
                    rcases List.mem_or_eq_of_mem_set hx with hx | hx
                    · exact FR.out b (.inr ⟨1, hj, .inr (List.mem_filterMap.2 ⟨x, hx, ex⟩)⟩)
                    · subst hx
                      have h1 := ow7.lt b ex
                      simp only [World.size_drew] at h1
                      omega
                  · rw [upd_ne _ _ hj0] at e
                    exact FR.out b (.inr ⟨j, hj, .inr e⟩))
              clear cP s7 k7' R7 rsw ow7 k7 cgi fgi GV
              go_wp2_with fail
              go_roundw
              case rel => exact ⟨k + 1, VF, _, by omega, by go_num, R8, FR8, K8⟩
              case measure => simp [intOf]; omega
            · subst eca
              have hck : (k : Int) < ch.length := by omega
              go_wp2_with fail
              refine wp_region_any (by kernel_rfl) (wpAny_of_late (late := [20]) (S := KpS [] wr.heap.size wr.drew) _ _ _ _ ?_)
              change wpAnyT _ _ _ _ _ _ _ _ _ wr.drew
              have cP : ∀ W1, KpS [] wr.heap.size wr.drew W1 → W1.cell? ⟨w.heap.size, 1, none⟩ = some (.slice (some ⟨g1, 0, none⟩) s.cnt x1) ∧ W1.cell? ⟨q, 2, none⟩ = some (.slice (some ⟨g2, 0, none⟩) s.loose.length l2c) ∧ W1.cell? ⟨q, 3, none⟩ = some (.slice (some ⟨g3, 0, none⟩) s.loose.length x3) ∧ W1.cell? ⟨g2, k, none⟩ = some (.int .i64 (xk.1 : Int)) ∧ W1.cell? ⟨g3, k, none⟩ = some (.slice ua 64 uc) := fun W1 h => ⟨h.cell (by rw [World.cell?_drew]; exact X1.out) ZP.out (by simp), h.cell (by rw [World.cell?_drew]; exact X2.out) ZQ.out (by simp), h.cell (by rw [World.cell?_drew]; exact X3.out) ZQ.out (by simp), h.cell (by rw [World.cell?_drew]; exact Y2.out) Z2.out (by simp), h.cell (by rw [World.cell?_drew]; exact Y3.out) Z3.out (by simp)⟩
              refine late_take (i := 0) (v := .pointer (some ⟨w.heap.size, 0, none⟩)) rfl (by kernel_rfl) (by kernel_rfl) (by kernel_rfl) (by kernel_rfl) (by kernel_rfl) (fun _ _ _ h => h) rfl (fun W1 hW1 => rfl) (KpS.refl _ _ _) ?_
              simp only [Act.put, List.setIfInBounds_toArray, List.set_cons_zero, List.set_cons_succ]
              refine late_take (i := 1) (v := .pointer (some ⟨w.heap.size, 0, none⟩)) rfl (by kernel_rfl) (by kernel_rfl) (by kernel_rfl) (by kernel_rfl) (by kernel_rfl) (fun _ _ _ h => h) rfl (fun W1 hW1 => by go_simp) (KpS.refl _ _ _) ?_
              simp only [Act.put, List.setIfInBounds_toArray, List.set_cons_zero, List.set_cons_succ]
              refine late_take (i := 2) (v := .pointer (some ⟨w.heap.size, 1, none⟩)) rfl (by kernel_rfl) (by kernel_rfl) (by kernel_rfl) (by kernel_rfl) (by kernel_rfl) (fun _ _ _ h => h) rfl (fun W1 hW1 => by go_simp) (KpS.refl _ _ _) ?_
              simp only [Act.put, List.setIfInBounds_toArray, List.set_cons_zero, List.set_cons_succ]
              refine late_take (i := 3) (v := .slice (some ⟨g1, 0, none⟩) s.cnt x1) rfl (by kernel_rfl) (by kernel_rfl) (by kernel_rfl) (by kernel_rfl) (by kernel_rfl) (fun _ _ _ h => h) rfl (fun W1 hW1 => exec_load _ _ _ _ rfl rfl (run_loadCell W1 _ _ _ ((cP W1 hW1).1) (agg_no _ (by kernel_rfl)))) (KpS.refl _ _ _) ?_
              simp only [Act.put, List.setIfInBounds_toArray, List.set_cons_zero, List.set_cons_succ]
              refine late_take (i := 4) (v := .pointer (some ⟨q, 0, none⟩)) rfl (by kernel_rfl) (by kernel_rfl) (by kernel_rfl) (by kernel_rfl) (by kernel_rfl) (fun _ _ _ h => h) rfl (fun W1 hW1 => rfl) (KpS.refl _ _ _) ?_
              simp only [Act.put, List.setIfInBounds_toArray, List.set_cons_zero, List.set_cons_succ]
              refine late_take (i := 5) (v := .pointer (some ⟨q, 0, none⟩)) rfl (by kernel_rfl) (by kernel_rfl) (by kernel_rfl) (by kernel_rfl) (by kernel_rfl) (fun _ _ _ h => h) rfl (fun W1 hW1 => by go_simp) (KpS.refl _ _ _) ?_
              simp only [Act.put, List.setIfInBounds_toArray, List.set_cons_zero, List.set_cons_succ]
              refine late_take (i := 6) (v := .pointer (some ⟨q, 2, none⟩)) rfl (by kernel_rfl) (by kernel_rfl) (by kernel_rfl) (by kernel_rfl) (by kernel_rfl) (fun _ _ _ h => h) rfl (fun W1 hW1 => by go_simp) (KpS.refl _ _ _) ?_
              simp only [Act.put, List.setIfInBounds_toArray, List.set_cons_zero, List.set_cons_succ]
              refine late_take (i := 7) (v := .slice (some ⟨g2, 0, none⟩) s.loose.length l2c) rfl (by kernel_rfl) (by kernel_rfl) (by kernel_rfl) (by kernel_rfl) (by kernel_rfl) (fun _ _ _ h => h) rfl (fun W1 hW1 => exec_load _ _ _ _ rfl rfl (run_loadCell W1 _ _ _ ((cP W1 hW1).2.1) (agg_no _ (by kernel_rfl)))) (KpS.refl _ _ _) ?_
              simp only [Act.put, List.setIfInBounds_toArray, List.set_cons_zero, List.set_cons_succ]
              refine late_take (i := 8) (v := .int .i64 (k : Int)) rfl (by kernel_rfl) (by kernel_rfl) (by kernel_rfl) (by kernel_rfl) (by kernel_rfl) (fun _ _ _ h => h) rfl (fun W1 hW1 => rfl) (KpS.refl _ _ _) ?_
              simp only [Act.put, List.setIfInBounds_toArray, List.set_cons_zero, List.set_cons_succ]
              refine late_take (i := 9) (v := .pointer (some ⟨g2, k, none⟩)) rfl (by kernel_rfl) (by kernel_rfl) (by kernel_rfl) (by kernel_rfl) (by kernel_rfl) (fun _ _ _ h => h) rfl (fun W1 hW1 => by go_simp) (KpS.refl _ _ _) ?_
              simp only [Act.put, List.setIfInBounds_toArray, List.set_cons_zero, List.set_cons_succ]
              refine late_take (i := 10) (v := .int .i64 (xk.1 : Int)) rfl (by kernel_rfl) (by kernel_rfl) (by kernel_rfl) (by kernel_rfl) (by kernel_rfl) (fun _ _ _ h => h) rfl (fun W1 hW1 => exec_load _ _ _ _ rfl rfl (run_loadCell W1 _ _ _ ((cP W1 hW1).2.2.2.1) (agg_no _ (by kernel_rfl)))) (KpS.refl _ _ _) ?_
              simp only [Act.put, List.setIfInBounds_toArray, List.set_cons_zero, List.set_cons_succ]
              refine late_take (i := 11) (v := .pointer (some ⟨q, 0, none⟩)) rfl (by kernel_rfl) (by kernel_rfl) (by kernel_rfl) (by kernel_rfl) (by kernel_rfl) (fun _ _ _ h => h) rfl (fun W1 hW1 => rfl) (KpS.refl _ _ _) ?_
              simp only [Act.put, List.setIfInBounds_toArray, List.set_cons_zero, List.set_cons_succ]
              refine late_take (i := 12) (v := .pointer (some ⟨q, 0, none⟩)) rfl (by kernel_rfl) (by kernel_rfl) (by kernel_rfl) (by kernel_rfl) (by kernel_rfl) (fun _ _ _ h => h) rfl (fun W1 hW1 => by go_simp) (KpS.refl _ _ _) ?_
              simp only [Act.put, List.setIfInBounds_toArray, List.set_cons_zero, List.set_cons_succ]
              refine late_take (i := 13) (v := .pointer (some ⟨q, 3, none⟩)) rfl (by kernel_rfl) (by kernel_rfl) (by kernel_rfl) (by kernel_rfl) (by kernel_rfl) (fun _ _ _ h => h) rfl (fun W1 hW1 => by go_simp) (KpS.refl _ _ _) ?_
              simp only [Act.put, List.setIfInBounds_toArray, List.set_cons_zero, List.set_cons_succ]
              refine late_take (i := 14) (v := .slice (some ⟨g3, 0, none⟩) s.loose.length x3) rfl (by kernel_rfl) (by kernel_rfl) (by kernel_rfl) (by kernel_rfl) (by kernel_rfl) (fun _ _ _ h => h) rfl (fun W1 hW1 => exec_load _ _ _ _ rfl rfl (run_loadCell W1 _ _ _ ((cP W1 hW1).2.2.1) (agg_no _ (by kernel_rfl)))) (KpS.refl _ _ _) ?_
              simp only [Act.put, List.setIfInBounds_toArray, List.set_cons_zero, List.set_cons_succ]
              refine late_take (i := 15) (v := .int .i64 (k : Int)) rfl (by kernel_rfl) (by kernel_rfl) (by kernel_rfl) (by kernel_rfl) (by kernel_rfl) (fun _ _ _ h => h) rfl (fun W1 hW1 => rfl) (KpS.refl _ _ _) ?_
              simp only [Act.put, List.setIfInBounds_toArray, List.set_cons_zero, List.set_cons_succ]
              refine late_take (i := 16) (v := .pointer (some ⟨g3, k, none⟩)) rfl (by kernel_rfl) (by kernel_rfl) (by kernel_rfl) (by kernel_rfl) (by kernel_rfl) (fun _ _ _ h => h) rfl (fun W1 hW1 => by go_simp) (KpS.refl _ _ _) ?_
              simp only [Act.put, List.setIfInBounds_toArray, List.set_cons_zero, List.set_cons_succ]
              refine late_take (i := 17) (v := .slice ua 64 uc) rfl (by kernel_rfl) (by kernel_rfl) (by kernel_rfl) (by kernel_rfl) (by kernel_rfl) (fun _ _ _ h => h) rfl (fun W1 hW1 => exec_load _ _ _ _ rfl rfl (run_loadCell W1 _ _ _ ((cP W1 hW1).2.2.2.2) (agg_no _ (by kernel_rfl)))) (KpS.refl _ _ _) ?_
              simp only [Act.put, List.setIfInBounds_toArray, List.set_cons_zero, List.set_cons_succ]
              refine late_do (i := 18) (by kernel_rfl) rfl rfl (wp_enter (f := 32) (args := #[.slice ua 64 uc]) (by go_simp) (copy4_any wr.drew _ xk.2.1 (by have := ROW.out.keep ((Keeps.refl [] wr).drew) (by intro _ _ _ _ _; simp); exact this) (by rw [N64.out]; omega)) ?_)
              rintro e w7 ⟨a7, c7, rfl, ow7, k7⟩
              have s7 : KpS [] wr.heap.size wr.drew w7 := (KpS.refl _ _ _).keeps k7 (by simp) (by simp)
              refine ⟨_, rfl, Or.inr s7, ?_⟩
              simp only [Act.put, List.setIfInBounds_toArray, List.set_cons_zero, List.set_cons_succ]
              refine late_take (i := 19) (v := .pointer (some ⟨g1, xk.1, none⟩)) rfl (by kernel_rfl) (by kernel_rfl) (by kernel_rfl) (by kernel_rfl) (by kernel_rfl) (fun _ _ _ h => h) rfl (fun W1 hW1 => by go_simp) (s7) ?_
              simp only [Act.put, List.setIfInBounds_toArray, List.set_cons_zero, List.set_cons_succ]
              have k7' : Keeps [] wr w7 := (Keeps.refl [] wr).drew.trans k7
              have R7 := R.out.keep k7' (by simp)
              have h67 : wr.heap.size ≤ w7.heap.size := k7'.size
              have GV : VF 1 = .slice (some ⟨g1, 0, none⟩) (UF 1).length x1 := EV1.out
              have rsw := R7.swap (s' := Ck [] (leftRows s ch (k + 1))) 1 (by decide) (by decide) xk.1 (by rw [U1L.out]; exact HM.out) (.slice a7 xk.2.1.length c7) rfl xk.2.1 (row_of_own ow7 ROW.out.bytes)
                (fun b e => by
                  have h1 := ow7.lt b e
                  simp only [World.size_drew] at h1
                  refine ⟨fun e2 => ?_, fun j hj e2 => ?_, h1.2⟩
                  · have := LTp.out _ (.inl rfl); omega
                  · have := LTp.out b (.inr ⟨j, hj, .inl e2⟩); omega)
                (by exact hPUT.out) (fun j hj h1 h2 => by
                  have : j = 0 ∨ j = 3 := by omega
                  rcases this with rfl | rfl <;> rfl) rfl ⟨rfl, rfl, rfl⟩ g1 x1 GV
              obtain ⟨gx, cx, ex, _, hcx⟩ := (R7.row 1 (by decide) (by decide)).open (by rw [U1L.out]; have := HM.out; omega)
              have eg : gx = g1 := by
                rw [GV] at ex
                injection ex with ex _ _
                injection ex with ex
                injection ex with ex
                exact ex.symm
              subst eg
              have cgi := hcx xk.1 (by rw [U1L.out]; exact HM.out)
              have fgi : w7.frozen? ⟨gx, xk.1, none⟩ = false := by
                have ho := (R7.row 1 (by decide) (by decide)).own
                rw [GV] at ho
                exact ho.frozenAt _
              generalize (UF 1)[xk.1]'(by rw [U1L.out]; exact HM.out) = ug at cgi
              refine late_do (i := 20) (by kernel_rfl) rfl rfl (wp_storedD (w' := w7.setCell ⟨gx, xk.1, none⟩ (.slice a7 xk.2.1.length c7)) (by go_simp) ⟨Or.inl rfl, ?_⟩)
              simp only [Act.put]
              refine wpAnyT_done (by kernel_rfl) ?_ _
              have GM : w.heap.size ≤ gx := FR.out gx (.inr ⟨1, by decide, .inl (by rw [GV]; rfl)⟩)
              have K8 := hid ((K.out.trans' (S' := []) k7' (by simp)).setCell (p := ⟨gx, xk.1, none⟩) (.inr GM) (.slice a7 xk.2.1.length c7))
              have R8 := hid rsw
              have FR8 : Hid (∀ b, RB w.heap.size VF (upd UF 1 ((UF 1).set xk.1 (.slice a7 xk.2.1.length c7))) b → w.heap.size ≤ b) := hid (fun b hb => by
                have hw6 : w.heap.size ≤ wr.heap.size := K.out.size
                rcases hb with rfl | ⟨j, hj, e | e⟩
                · exact Nat.le_refl _
                · exact FR.out b (.inr ⟨j, hj, .inl e⟩)
                · by_cases hj0 : j = 1
                  · subst hj0
                    rw [upd_same] at e
                    obtain ⟨x, hx, ex⟩ := List.mem_filterMap.1 e
                    rcases List.mem_or_eq_of_mem_set hx with hx | hx
                    · exact FR.out b (.inr ⟨1, hj, .inr (List.mem_filterMap.2 ⟨x, hx, ex⟩)⟩)
                    · subst hx
                      have h1 := ow7.lt b ex
                      simp only [World.size_drew] at h1
                      omega
                  · rw [upd_ne _ _ hj0] at e
                    exact FR.out b (.inr ⟨j, hj, .inr e⟩))
              clear cP s7 k7' R7 rsw ow7 k7 cgi fgi GV
              go_wp2_with fail
              go_roundw
              case rel => exact ⟨k + 1, VF, _, by omega, by go_num, R8, FR8, K8⟩
              case measure => simp [intOf]; omega
        · have hke : k = s.loose.length := by omega
          subst hke
          go_wp2_with fail
          clear c2 hlt
          have hLL : (leftRows s ch s.loose.length).length = s.cnt := leftRows_len s ch _
          have L64 := hid (leftRows_64 s ch s.loose.length)
          have KEY := hid (fun (W : World) (q' : Nat) (vf' : Nat → Value) (uf' : Nat → List Value) (h : RefIn W q' (Ck ((leftRows s ch s.loose.length).take s.cnt) (leftRows s ch s.loose.length)) vf' uf') => ck_crashed h)
          have KEEPR := hid R.out
          generalize leftRows s ch s.loose.length = LL at hLL L64 KEY KEEPR
          have HLL2 := hid hLL
          have FR1 := hid FR.out
          have K1 := hid K.out
          clear R FR K hLL
          go_loopw [8] (fun i wr => ∃ (k : Nat) (VF : Nat → Value) (UF : Nat → List Value), k ≤ s.cnt ∧ i = .int .i64 k ∧ Hid (RefIn wr w.heap.size (Ck (LL.take k) LL) VF UF) ∧ Hid (∀ b, RB w.heap.size VF UF b → w.heap.size ≤ b) ∧ Hid (Keeps [] w wr)) (fun i _ => s.cnt - (intOf i).toNat)
          case atStart => exact ⟨0, VF, UF, Nat.zero_le _, rfl, KEEPR.out, FR1.out, K1.out⟩
          case round =>
            clear KEEPR FR1 K1 VF UF
            obtain ⟨k, VF, UF, hk, rfl, R, FR, K⟩ := hrel
            have row1 := R.out.row 1 (by decide) (by decide)
            obtain ⟨b1, d1, f1⟩ := ownsRow_slice row1.own
            have c1 := R.out.c1
            rw [f1, row1.len, show (Ck (LL.take k) LL).rf 1 = LL from rfl, HLL2.out] at c1
            clear row1 f1
            by_cases hlt : k < s.cnt
            · have hkL : k < LL.length := by rw [HLL2.out]; exact hlt
              obtain ⟨g1, x1, ua, uc, ev, hcell, hrow, hg1⟩ := RowsOwn.at (rs := LL) (R.out.row 1 (by decide) (by decide)) k hkL
              have hr64 : LL[k].length = 64 := L64.out _ (List.getElem_mem _)
              rw [hr64] at hcell hrow
              have hsrc : wr.cell? ⟨w.heap.size, 1, none⟩ = some (.slice (some ⟨g1, 0, none⟩) s.cnt x1) := by rw [R.out.c1, ev, HLL2.out]
              have hnq : w.heap.size ∉ (VF 0).ownBlock.toList := by
                have := R.out.no 0 (by decide)
                simpa using this
              have hng : g1 ∉ (VF 0).ownBlock.toList := fun hm => by
                have := R.out.apart 1 0 (by decide) (by decide) (by decide) g1 (by rw [ev]; rfl)
                exact this (by simpa using hm)
              have hqlt : w.heap.size < wr.heap.size := R.out.lt' _ (.inl rfl)
              have hS1 : (Ck (LL.take (k + 1)) LL).rf 0 = (Ck (LL.take k) LL).rf 0 ++ [LL[k]] := List.take_succ_eq_append_getElem hkL
              have hS2 : ∀ j, j < 4 → j ≠ 0 → j ≠ 2 → (Ck (LL.take (k + 1)) LL).rf j = (Ck (LL.take k) LL).rf j := fun j hj h1 h2 => by
                have : j = 1 ∨ j = 3 := by omega
                rcases this with rfl | rfl <;> rfl
              have hUL : (UF 0).length = k := by
                rw [(R.out.row 0 (by decide) (by decide)).len]
                show (LL.take k).length = k
                rw [List.length_take, HLL2.out]; omega
              generalize (LL)[k]'hkL = rv at hcell hrow hr64 hS1
              have SRC := hid hsrc
              have CELL := hid hcell
              have ROW := hid hrow
              have R64 := hid hr64
              have HNQ := hid hnq
              have HNG := hid hng
              have HQ := hid hqlt
              have HG := hid hg1
              have S1 := hid hS1
              have S2 := hid hS2
              have UL := hid hUL
              have LTp := hid (R.out.lt')
              have CD := hid (show wr.cell? ⟨w.heap.size, 0, none⟩ = some (VF 0) from R.out.c0)
              obtain ⟨da, dc, de⟩ := ownsRow_slice (R.out.row 0 (by decide) (by decide)).own
              have DE := hid de
              have hnp : w.heap.size ∉ (VF 0).ownBlock.toList := by
                have := R.out.no 0 (by decide)
                simpa using this
              have HNP := hid hnp
              clear hsrc hcell hrow hr64 hnq hng hqlt hg1 hS1 hS2 hUL ev de hnp hkL
              go_wp2_with fail
              refine wp_region_any (by kernel_rfl) (wpAny_of_late (late := [17]) (S := KpS (VF 0).ownBlock.toList wr.heap.size wr.drew) _ _ _ _ ?_)
              change wpAnyT _ _ _ _ _ _ _ _ _ wr.drew
              have cP : ∀ W1, KpS (VF 0).ownBlock.toList wr.heap.size wr.drew W1 → W1.cell? ⟨w.heap.size, 0, none⟩ = some (VF 0) ∧ W1.cell? ⟨w.heap.size, 1, none⟩ = some (.slice (some ⟨g1, 0, none⟩) s.cnt x1) ∧ W1.cell? ⟨g1, k, none⟩ = some (.slice ua 64 uc) := fun W1 h => ⟨h.cell (by rw [World.cell?_drew]; exact CD.out) (LTp.out _ (.inl rfl)) HNP.out, h.cell (by rw [World.cell?_drew]; exact SRC.out) HQ.out HNQ.out, h.cell (by rw [World.cell?_drew]; exact CELL.out) HG.out HNG.out⟩
              refine late_take (i := 0) (v := .pointer (some ⟨w.heap.size, 0, none⟩)) rfl (by kernel_rfl) (by kernel_rfl) (by kernel_rfl) (by kernel_rfl) (by kernel_rfl) (fun _ _ _ h => h) rfl (fun W1 hW1 => rfl) (KpS.refl _ _ _) ?_
              simp only [Act.put, List.setIfInBounds_toArray, List.set_cons_zero, List.set_cons_succ]
              refine late_take (i := 1) (v := .pointer (some ⟨w.heap.size, 0, none⟩)) rfl (by kernel_rfl) (by kernel_rfl) (by kernel_rfl) (by kernel_rfl) (by kernel_rfl) (fun _ _ _ h => h) rfl (fun W1 hW1 => rfl) (KpS.refl _ _ _) ?_
              simp only [Act.put, List.setIfInBounds_toArray, List.set_cons_zero, List.set_cons_succ]
              refine late_take (i := 2) (v := .pointer (some ⟨w.heap.size, 0, none⟩)) rfl (by kernel_rfl) (by kernel_rfl) (by kernel_rfl) (by kernel_rfl) (by kernel_rfl) (fun _ _ _ h => h) rfl (fun W1 hW1 => by go_simp) (KpS.refl _ _ _) ?_
              simp only [Act.put, List.setIfInBounds_toArray, List.set_cons_zero, List.set_cons_succ]
              refine late_take (i := 3) (v := .pointer (some ⟨w.heap.size, 0, none⟩)) rfl (by kernel_rfl) (by kernel_rfl) (by kernel_rfl) (by kernel_rfl) (by kernel_rfl) (fun _ _ _ h => h) rfl (fun W1 hW1 => by go_simp) (KpS.refl _ _ _) ?_
              simp only [Act.put, List.setIfInBounds_toArray, List.set_cons_zero, List.set_cons_succ]
              refine late_take (i := 4) (v := VF 0) rfl (by kernel_rfl) (by kernel_rfl) (by kernel_rfl) (by kernel_rfl) (by kernel_rfl) (fun _ _ _ h => h) rfl (fun W1 hW1 => exec_load _ _ _ _ rfl rfl (run_loadCell W1 _ _ _ ((cP W1 hW1).1) (agg_no _ (by kernel_rfl)))) (KpS.refl _ _ _) ?_
              simp only [Act.put, List.setIfInBounds_toArray, List.set_cons_zero, List.set_cons_succ]
              refine late_take (i := 5) (v := .pointer (some ⟨w.heap.size, 0, none⟩)) rfl (by kernel_rfl) (by kernel_rfl) (by kernel_rfl) (by kernel_rfl) (by kernel_rfl) (fun _ _ _ h => h) rfl (fun W1 hW1 => rfl) (KpS.refl _ _ _) ?_
              simp only [Act.put, List.setIfInBounds_toArray, List.set_cons_zero, List.set_cons_succ]
              refine late_take (i := 6) (v := .pointer (some ⟨w.heap.size, 0, none⟩)) rfl (by kernel_rfl) (by kernel_rfl) (by kernel_rfl) (by kernel_rfl) (by kernel_rfl) (fun _ _ _ h => h) rfl (fun W1 hW1 => by go_simp) (KpS.refl _ _ _) ?_
              simp only [Act.put, List.setIfInBounds_toArray, List.set_cons_zero, List.set_cons_succ]
              refine late_take (i := 7) (v := .pointer (some ⟨w.heap.size, 1, none⟩)) rfl (by kernel_rfl) (by kernel_rfl) (by kernel_rfl) (by kernel_rfl) (by kernel_rfl) (fun _ _ _ h => h) rfl (fun W1 hW1 => by go_simp) (KpS.refl _ _ _) ?_
              simp only [Act.put, List.setIfInBounds_toArray, List.set_cons_zero, List.set_cons_succ]
              refine late_take (i := 8) (v := .slice (some ⟨g1, 0, none⟩) s.cnt x1) rfl (by kernel_rfl) (by kernel_rfl) (by kernel_rfl) (by kernel_rfl) (by kernel_rfl) (fun _ _ _ h => h) rfl (fun W1 hW1 => exec_load _ _ _ _ rfl rfl (run_loadCell W1 _ _ _ ((cP W1 hW1).2.1) (agg_no _ (by kernel_rfl)))) (KpS.refl _ _ _) ?_
              simp only [Act.put, List.setIfInBounds_toArray, List.set_cons_zero, List.set_cons_succ]
              refine late_take (i := 9) (v := .int .i64 (k : Int)) rfl (by kernel_rfl) (by kernel_rfl) (by kernel_rfl) (by kernel_rfl) (by kernel_rfl) (fun _ _ _ h => h) rfl (fun W1 hW1 => rfl) (KpS.refl _ _ _) ?_
              simp only [Act.put, List.setIfInBounds_toArray, List.set_cons_zero, List.set_cons_succ]
              refine late_take (i := 10) (v := .pointer (some ⟨g1, k, none⟩)) rfl (by kernel_rfl) (by kernel_rfl) (by kernel_rfl) (by kernel_rfl) (by kernel_rfl) (fun _ _ _ h => h) rfl (fun W1 hW1 => by go_simp) (KpS.refl _ _ _) ?_
              simp only [Act.put, List.setIfInBounds_toArray, List.set_cons_zero, List.set_cons_succ]
              refine late_take (i := 11) (v := .slice ua 64 uc) rfl (by kernel_rfl) (by kernel_rfl) (by kernel_rfl) (by kernel_rfl) (by kernel_rfl) (fun _ _ _ h => h) rfl (fun W1 hW1 => exec_load _ _ _ _ rfl rfl (run_loadCell W1 _ _ _ ((cP W1 hW1).2.2) (agg_no _ (by kernel_rfl)))) (KpS.refl _ _ _) ?_
              simp only [Act.put, List.setIfInBounds_toArray, List.set_cons_zero, List.set_cons_succ]
              refine late_do (i := 12) (by kernel_rfl) rfl rfl (wp_enter (f := 32) (args := #[.slice ua 64 uc]) (by go_simp) (copy4_any wr.drew _ rv (by have := ROW.out.keep ((Keeps.refl [] wr).drew) (by intro _ _ _ _ _; simp); exact this) (by rw [R64.out]; omega)) ?_)
              rintro e w4 ⟨a4, c4, rfl, ow4, k4⟩
              rw [R64.out] at ow4
              have s4 : KpS (VF 0).ownBlock.toList wr.heap.size wr.drew w4 := (KpS.refl _ _ _).keeps k4 (by simp) (by simp)
              rw [R64.out]
              refine ⟨_, rfl, Or.inr s4, ?_⟩
              simp only [Act.put, List.setIfInBounds_toArray, List.set_cons_zero, List.set_cons_succ]
              have k4' : Keeps [] wr w4 := (Keeps.refl [] wr).drew.trans k4
              have R4 := R.out.keep k4' (by simp)
              have h34 : wr.heap.size ≤ w4.heap.size := k4'.size
              have hnew : ∀ b, (Value.slice a4 64 c4).ownBlock = some b → wr.heap.size ≤ b ∧ b < w4.heap.size := fun b e => by
                have h1 := ow4.lt b e
                simp only [World.size_drew] at h1
                exact h1
              obtain ⟨v5a, v5c, w5, run5, kp5, hq5, r5, hb5⟩ := R4.app (s' := (Ck (LL.take (k + 1)) LL)) 0 (by decide) (by decide) a4 64 c4 rv (row_of_own64 ow4 R64.out ROW.out.bytes)
                (fun b e => by
                  obtain ⟨h1, h2⟩ := hnew b e
                  refine ⟨fun e2 => ?_, fun j hj e2 => ?_, h2⟩
                  · have := LTp.out w.heap.size (.inl rfl); omega
                  · have := LTp.out b (.inr ⟨j, hj, .inl e2⟩); omega)
                S1.out S2.out rfl ⟨rfl, rfl, rfl⟩ (by rw [UL.out]; omega)
              refine late_do (i := 13) (by kernel_rfl) rfl rfl (wp_value (exec_oneRow _ a4 64 c4 rfl rfl) ?_)
              have s5 : KpS (VF 0).ownBlock.toList wr.heap.size wr.drew (w4.alloc (.cells #[.slice a4 64 c4] 34)) := s4.alloc h34 _
              refine ⟨Or.inr s5, ?_⟩
              simp only [Act.put, List.setIfInBounds_toArray, List.set_cons_zero, List.set_cons_succ]
              refine late_do (i := 14) (by kernel_rfl) rfl rfl (wp_value (exec_appendT 39 _ _ rfl rfl rfl run5) ?_)
              have s6 : KpS (VF 0).ownBlock.toList wr.heap.size wr.drew w5 := s4.keeps kp5 h34 (fun b hb _ => hb)
              refine ⟨Or.inr s6, ?_⟩
              simp only [Act.put, List.setIfInBounds_toArray, List.set_cons_zero, List.set_cons_succ]
              refine late_take (i := 15) (v := .pointer (some ⟨w.heap.size, 0, none⟩)) rfl (by kernel_rfl) (by kernel_rfl) (by kernel_rfl) (by kernel_rfl) (by kernel_rfl) (fun _ _ _ h => h) rfl (fun W1 hW1 => by go_simp) (s6) ?_
              simp only [Act.put, List.setIfInBounds_toArray, List.set_cons_zero, List.set_cons_succ]
              refine late_take (i := 16) (v := .pointer (some ⟨w.heap.size, 0, none⟩)) rfl (by kernel_rfl) (by kernel_rfl) (by kernel_rfl) (by kernel_rfl) (by kernel_rfl) (fun _ _ _ h => h) rfl (fun W1 hW1 => by go_simp) (s6) ?_
              simp only [Act.put, List.setIfInBounds_toArray, List.set_cons_zero, List.set_cons_succ]
              have c5 : w5.cell? ⟨w.heap.size, 0, none⟩ = some (VF 0) := (cP w5 s6).1
              have f5 : w5.frozen? ⟨w.heap.size, 0, none⟩ = false := by
                simp only [World.frozen?]
                rw [hq5]
                exact R4.fr 0
              have DE' := DE.out
              rw [DE'] at c5
              refine late_do (i := 17) (by kernel_rfl) rfl rfl (wp_storedD (w' := w5.setCell ⟨w.heap.size, 0, none⟩ (.slice v5a ((UF 0).length + 1) v5c)) (by go_simp) ⟨Or.inl rfl, ?_⟩)
              simp only [Act.put]
              refine wpAnyT_done (by kernel_rfl) ?_ _
              obtain ⟨K5, FR5⟩ := app_fresh rfl K.out FR.out (f := 0) (by decide) k4' kp5 hb5 (fun b e => (hnew b e).1)
              have K6 := hid K5
              have FR6 := hid FR5
              have R6 := hid r5
              clear cP s4 k4' R4 run5 kp5 hq5 r5 hb5 s5 s6 c5 f5 DE' ow4 k4 K5 FR5 hnew h34
              go_wp2_with fail
              go_roundw
              case rel => exact ⟨k + 1, _, _, by omega, by go_num, R6, FR6, K6⟩
              case measure => simp [intOf]; omega
            · have hke : k = s.cnt := by omega
              subst hke
              go_wp2_with fail
              go_ret
              exact ⟨w.heap.size, rbl w.heap.size VF UF, rfl, ⟨VF, UF, KEY.out _ _ _ _ R.out, rfl⟩, fun b hb => FR.out b ((rbl_iff _ _ _ _).1 hb), K.out⟩
end Go.Proofs.Ytofoeemgplggbaa
