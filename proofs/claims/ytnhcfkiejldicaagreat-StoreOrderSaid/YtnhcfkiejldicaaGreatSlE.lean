/- Slots: the bytes of a head; a sector is written. -/
import Derived.Test.YtnhcfkiejldicaaGreatSlD
import Derived.Test.YtnhcfkiejldicaaGreatAwake
import Derived.Laws.CopyOwn
namespace Go.Proofs.YtnhcfkiejldicaaGreat
open Go.RowKit Go.Shelf

/-- A head's bytes, but the noughts behind them. -/
def headB (h : Hd) : List Int := if h.used then [1] ++ be h.held 2 ++ be h.key.length 2 ++ h.key else []
theorem headB_len (h : Hd) (ok : h.Ok) : (headB h).length ≤ 45 := by
  have := ok.key
  unfold headB
  split
  · simp [be_length]; omega
  · simp
theorem headB_byte (h : Hd) (ok : h.Ok) : ∀ z ∈ headB h, 0 ≤ z ∧ z ≤ 255 := by
  intro z hz
  unfold headB at hz
  split at hz
  · simp only [List.mem_append, List.mem_cons, List.not_mem_nil, or_false] at hz
    rcases hz with ((rfl | hz) | hz) | hz
    · omega
    · exact be_byte _ _ z hz
    · exact be_byte _ _ z hz
    · exact ok.byte z hz
  · simp at hz
theorem headP1 : penBool true ([], 0) = ([1], 0) := by decide +kernel
theorem headP2 (n : Nat) (h : n ≤ 448) : penNum n 2 ([1], 0) = (1 :: be n 2, 0) := penNum_ok (by omega) (by omega) (by omega) (by
    have : (2 : Int) ^ (8 * (2 : Int).toNat) = 65536 := by decide
    rw [this]; omega) rfl (by simp)
theorem headP3 (n : Nat) (k : List Int) (h : k.length ≤ 40) : penRaw k (1 :: be n 2, 0) = (headB ⟨true, n, k⟩, 0) := by
  rw [penRaw_ok rfl (by omega) (by simp [be_length]; omega)]
  rfl

set_option maxRecDepth 100000 in
set_option maxHeartbeats 3200000 in
theorem lBytes_any (h : Hd) (ok : h.Ok) (w : World) :
    Calls Tryz.prog 86 #[hdV h] w fun e w' => ∃ v, e = .returned (.tuple #[v, .int .i64 0]) ∧ RowAt w' v (headB h) ∧ (∃ a n c, v = .slice a n c) ∧ Keeps [] w w' := by
  cases hu : h.used with
  | false =>
    have e : h = hd0 := ok.free hu
    subst e
    have eh : headB hd0 = [] := rfl
    rw [eh]
    unfold hdV Hd.cells
    clear hu ok
    have z0 : strOfNums hd0.key = ⟨#[]⟩ := rfl
    rw [z0]
    simp only [show hd0.used = false from rfl, show hd0.held = 0 from rfl]
    go_enter Tryz.func86, Tryz.ntmps86
    go_wp2_with fail
    go_ret2
    exact ⟨_, rfl, RowAt.nil _, ⟨_, _, _, rfl⟩, (Keeps.refl _ _).alloc _⟩
  | true =>
    obtain ⟨u, n, k⟩ := h
    obtain rfl : u = true := hu
    have hk40 : k.length ≤ 40 := ok.key
    have X2 := headP2 n ok.held
    have X3 := headP3 n k hk40
    have hbyte : ∀ z ∈ k, 0 ≤ z ∧ z ≤ 255 := ok.byte
    have HOK := hid hbyte
    generalize headB ⟨true, n, k⟩ = hb at X3 ⊢
    obtain ⟨L2, hL2⟩ : ∃ x, x = 1 :: be n 2 := ⟨_, rfl⟩
    rw [← hL2] at X2 X3
    have P2E := hid X2
    have P3E := hid X3
    clear hL2 ok X2 X3 hbyte
    unfold hdV Hd.cells
    go_enter Tryz.func86, Tryz.ntmps86
    go_wp2_with fail
    have hz : (w.alloc (.cells #[.bool true, .int .i64 n, .string (strOfNums k)] 100)).heap.size = w.heap.size + 1 := by simp
    have KB := hid ((Keeps.refl [] w).alloc (.cells #[.bool true, .int .i64 n, .string (strOfNums k)] 100))
    have B1 := hid (heap_alloc_new w (.cells #[.bool true, .int .i64 n, .string (strOfNums k)] 100))
    rw [← hz]
    generalize w.alloc (.cells #[.bool true, .int .i64 n, .string (strOfNums k)] 100) = wb at KB B1 hz ⊢
    have HZ := hid hz
    clear hz
    have P1 := hid (PenSince.new wb (Keeps.refl [] wb) 95)
    refine (bool_any _ wb.heap.size wb.heap.size _ [] 0 true P1.out.pen P1.out.kept.size).mono ?_
    intro e w2 hq
    obtain ⟨rfl, v2, q2⟩ := P1.out.step hq
    rw [headP1] at q2
    simp only at q2
    have P2 := hid q2
    have c1 : w2.cell? ⟨w.heap.size, 1, none⟩ = some (.int .i64 n) := by
      have := (q2.kept.block w.heap.size (by have := HZ.out; omega) (by simp)).trans B1.out
      simp [World.cell?, this]
    clear q2 hq
    go_wp2_with fail
    refine (num_any w2 wb.heap.size wb.heap.size v2 [1] 0 (n : Int) 2 P2.out.pen P2.out.kept.size).mono ?_
    intro e w3 hq
    obtain ⟨rfl, v3, q2⟩ := P2.out.step hq
    rw [P2E.out] at q2
    simp only at q2
    have P3 := hid q2
    have c2 : w3.cell? ⟨w.heap.size, 2, none⟩ = some (.string (strOfNums k)) := by
      have := (q2.kept.block w.heap.size (by have := HZ.out; omega) (by simp)).trans B1.out
      simp [World.cell?, this]
    have hlo := hid q2.le
    have hlt3 := q2.pen.own.lt
    have hpl := q2.pen.lt
    have H3 := hid hlt3
    clear q2 hq c1 hlt3
    obtain ⟨cn, w4, cv, cr, ck⟩ := conv_str w3 k HOK.out (by omega)
    have CR := hid cr
    have P4 := hid (P3.out.pen.keep ck (by simp) (by simp))
    have K4 := hid (P3.out.kept.trans ck)
    have hw34 : w3.heap.size ≤ w4.heap.size := ck.size
    clear cr ck
    go_wp2_with fail
    have HOff : Off (wb.heap.size :: v3.ownBlock.toList) (.slice (some ⟨w3.heap.size, 0, none⟩) k.length cn) k := by
      intro ad n' c' e _ hm
      injection e with e1 _ _
      obtain rfl := Option.some.inj e1
      rcases List.mem_cons.1 hm with hm | hm
      · simp at hm; omega
      · have := (H3.out _ (by simpa using hm)).2
        simp at this
    refine (raw_any w4 wb.heap.size wb.heap.size v3 L2 0 _ k P4.out CR.out HOff K4.out.size (by omega)).mono ?_
    intro e w5 hq
    have P4' : PenSince wb w4 95 wb.heap.size v3 L2 0 := ⟨P4.out, K4.out⟩
    obtain ⟨rfl, v5, q2⟩ := P4'.step hq
    rw [P3E.out] at q2
    simp only at q2
    have P5 := hid q2
    clear q2 hq P4' HOff
    go_wp2_with fail
    refine (bytes_any w5 wb.heap.size wb.heap.size v5 hb 0 P5.out.pen).mono ?_
    intro e w6 hq
    obtain ⟨a, c, rfl, q1, q2, q3⟩ := hq.good
    have R5 := hid q1
    have K5 := hid (P5.out.kept.trans q3)
    clear q1 q2 q3 hq
    go_wp2_with fail
    go_ret2
    exact ⟨_, rfl, R5.out, ⟨_, _, _, rfl⟩, KB.out.trans K5.out⟩

/-- A row of at most 64 bytes, noughts behind them. -/
def pad64 (zs : List Int) : List Int := zs ++ List.replicate (64 - zs.length) 0
theorem pad64_len {zs : List Int} (h : zs.length ≤ 64) : (pad64 zs).length = 64 := by simp [pad64]; omega
theorem pad64_byte {zs : List Int} (h : ∀ z ∈ zs, 0 ≤ z ∧ z ≤ 255) : ∀ z ∈ pad64 zs, 0 ≤ z ∧ z ≤ 255 := by
  intro z hz
  rcases List.mem_append.1 hz with hz | hz
  · exact h z hz
  · have := (List.mem_replicate.1 hz).2; omega
theorem splice_pad (zs : List Int) : splice zrow.cells 0 (zs.map (Value.int .u8)) = (pad64 zs).map (Value.int .u8) := by
  have e : zrow.cells = List.replicate 64 (Value.int .u8 0) := by simp only [Row.cells, zrow, List.map_replicate]
  simp only [splice, List.take_zero, List.nil_append, Nat.zero_add, List.length_map, e, List.drop_replicate, pad64, List.map_append, List.map_replicate]

theorem iArr : (Tryz.prog.info? 80).map (fun i => (i.zero, i.size)) = some (some (rowV zrow), 64) := by kernel_rfl
theorem zeroArr (w : World) : (zeroValue 80).run Tryz.prog w = .ok (rowV zrow) w := by
  cases hq : Tryz.prog.info? 80 with
  | none => have := iArr; simp [hq] at this
  | some i => have := iArr; simp [hq] at this; simp [zeroValue, typeInfo, hq, this.1]
theorem arrLen64 : Tryz.prog.arrayLen 80 = 64 := by kernel_rfl
theorem arrElem64 : Tryz.prog.elem 80 = 5 := by kernel_rfl
theorem run_slice64 (b : Nat) (w : World) : (Instr.sliceAt 80 (.pointer (some ⟨b, 0, none⟩)) none none none).run Tryz.prog w = .ok (.slice (some ⟨b, 0, none⟩) 64 64) w := by
  obtain ⟨i0, hi, hz0, hz1, hz2⟩ := info_parts info5
  rw [run_sliceAt_array_all w 80 ⟨b, 0, none⟩ (by rw [arrLen64, arrElem64]; exact Tryz.underlying80), arrElem64, arrLen64]
  simp [sizeOf, typeInfo, hi, Result.andThen, slicedAt, Addr.add]

section
variable {ops : Array Oper} {rest : List Oper} {o : Oper} {a : Act} {w : World} {Q : Exit → Act → World → Prop}
theorem wpList_allocArr (hgd : o.guard = none) (ho : o.op = .alloc 80)
    (h : wpList Tryz.prog ops Q rest (a.put o.dst (.pointer (some ⟨w.heap.size, 0, none⟩))) (w.alloc (.cells zrow.cells.toArray 80))) : wpList Tryz.prog ops Q (o :: rest) a w := by
  refine wpList_is hgd _ _ ?_ h
  simp only [execOp, ho, Instr.alloc, newVar, newRow, Sem.run_bind, zeroArr, rowV_cells, Result.andThen_ok, Sem.run_pure, run_newObj_alloc]
end

/-- A disk whose map lies at m. -/
def DM (w : World) (p m : Nat) (s : DS) (F : List Nat) (k : Nat) : Prop := s.Ok k ∧ ∃ lv n, DiskIn w p m lv n s ∧ F = foot p m lv ∧ n + s.loose.length ≤ k
theorem DM.at_ {w : World} {p m : Nat} {s : DS} {F : List Nat} {k : Nat} (h : DM w p m s F k) : DiskAt w p s F k := ⟨h.1, m, h.2⟩
theorem DiskAt.dm {w : World} {p : Nat} {s : DS} {F : List Nat} {k : Nat} (h : DiskAt w p s F k) : ∃ m, DM w p m s F k := ⟨_, h.1, h.2.choose_spec⟩
theorem DM.keep {w w' : World} {p m : Nat} {s : DS} {S F : List Nat} {k : Nat} (h : DM w p m s F k) (kp : Keeps S w w') (hd : ∀ b ∈ F, b ∉ S) : DM w' p m s F k := by
  obtain ⟨ho, lv, n, hi, rfl, hk⟩ := h
  exact ⟨ho, lv, n, hi.keep kp hd, rfl, hk⟩
theorem DM.mono {w : World} {p m : Nat} {s : DS} {F : List Nat} {k k' : Nat} (h : DM w p m s F k) (hk : k ≤ k') : DM w p m s F k' := by
  obtain ⟨ho, lv, n, hi, rfl, h2⟩ := h
  exact ⟨⟨ho.lo, ho.hi, ho.fz, ⟨ho.op.1, by have := ho.op.2; omega⟩, ho.at_, ho.eqs⟩, lv, n, hi, rfl, by omega⟩

/-- Write. -/
theorem write_anyM (w : World) (p m : Nat) (s : DS) (F : List Nat) (K : Nat) (H : DM w p m s F K) (hK : K ≤ 1000000000) (k : Int) (bv : Value) (zs : List Int) (hb : RowAt w bv zs) :
    Calls Tryz.prog 43 #[.pointer (some ⟨p, 0, none⟩), .int .i64 k, bv] w fun e w' => e = .returned (.int .i64 (writeE s k zs.length)) ∧ ∃ F', DM w' p m (writeS s k zs) F' (K + 2) ∧ Keeps F w w' ∧ Fresh w F F' := by
  have H' := H
  obtain ⟨ok, lv, n, hi, rfl, hk⟩ := H
  by_cases ht : s.takes k zs.length
  · have he : writeE s k zs.length = if s.fuse = 0 then 14 else 0 := by simp only [writeE, if_pos ht]
    have hs : writeS s k zs = s.wrote k.toNat (mkRow zs) := by simp only [writeS, if_pos ht]
    rw [he, hs]
    obtain ⟨hd, h0, h1, h2⟩ := ht
    obtain ⟨i, rfl⟩ := Int.eq_ofNat_of_zero_le h0
    have hr := mkRow_is h2 hb.bytes
    have hop := ok.op
    refine (write_good w p m n lv s hi ok.lo ok.hi hd i (by omega) (mkRow zs) bv (by rw [hr]; exact hb) (by omega) (by omega) ok.fz ⟨hop.1, by omega⟩).mono ?_
    rintro e w' ⟨rfl, lv', D, kp, nl⟩
    simp only [Int.toNat_natCast]
    refine ⟨trivial, foot p m lv', ⟨?_, lv', n + 1, D, rfl, ?_⟩, kp, ?_⟩
    · have o1 := DS.wrote_ok ok i (by omega) (mkRow zs)
      exact ⟨o1.lo, o1.hi, o1.fz, ⟨o1.op.1, by have := o1.op.2; omega⟩, o1.at_, o1.eqs⟩
    · have : (s.wrote i (mkRow zs)).loose.length = s.loose.length + 1 := by
        unfold DS.wrote
        split <;> simp [DS.spent]
      simp only [this]
      omega
    · intro b hb
      simp only [foot, List.mem_cons, Option.mem_toList] at hb ⊢
      rcases hb with hb | hb | hb
      · exact Or.inl (Or.inl hb)
      · exact Or.inl (Or.inr (Or.inl hb))
      · rcases nl with nl | nl
        · rw [nl] at hb
          exact Or.inl (Or.inr (Or.inr hb))
        · exact Or.inr (nl b hb)
  · have hs : writeS s k zs = s := by simp only [writeS, if_neg ht]
    have he : writeE s k zs.length = if s.dead then 14 else 1 := by simp only [writeE, if_neg ht]
    rw [hs, he]
    have post : Keeps (foot p m lv) w w ∧ Fresh w (foot p m lv) (foot p m lv) := ⟨Keeps.refl _ _, fun b hb => Or.inl hb⟩
    by_cases hd : s.dead = true
    · refine (write_dead w p m n lv s hi ok.lo hd k bv).mono ?_
      rintro e w' ⟨rfl, rfl⟩
      exact ⟨by rw [if_pos hd], _, H'.mono (by omega), post⟩
    · obtain ⟨a, cap, rfl, _⟩ := hb
      refine (write_bad w p m n lv s hi ok.lo (by simpa using hd) k a zs.length cap (fun h => ht ⟨by simpa using hd, h.1, h.2.1, h.2.2⟩)).mono ?_
      rintro e w' ⟨rfl, rfl⟩
      exact ⟨by rw [if_neg hd], _, H'.mono (by omega), post⟩


set_option maxRecDepth 100000 in
set_option maxHeartbeats 3200000 in
theorem lWrite_any (w : World) (q p g first : Nat) (hs : List Hd) (S : SlotsAt w q p g first hs) (m : Nat) (s : DS) (F : List Nat) (K : Nat) (D : DM w p m s F K) (hK : K ≤ 1000000000) (hq : q ∉ F) (n : Int) (bv : Value) (zs : List Int) (hb : RowAt w bv zs) (hl : zs.length ≤ 64) :
    Calls Tryz.prog 85 #[.pointer (some ⟨q, 0, none⟩), .int .i64 n, bv] w fun e w' => e = .returned (.int .i64 (writeE s n 64)) ∧ ∃ F', DM w' p m (writeS s n (pad64 zs)) F' (K + 2) ∧ Keeps F w w' ∧ Fresh w F F' := by
  have HS := hid S
  have HD := hid D
  have HB := hid hb.bytes
  have SL := run_slice64
  obtain ⟨a, cap, rfl, b1, b2, b3, b4, b5⟩ := hb
  have hpos : 0 < (zs.map (Value.int .u8)).length → ∃ ad, a = some ad ∧ ∀ j v, (zs.map (Value.int .u8))[j]? = some v → (w.alloc (.cells zrow.cells.toArray 80)).cell? (ad.add j) = some v := fun h0 => by
    have h1 : 0 < zs.length := by simpa using h0
    cases a with
    | none => have := b3 rfl; omega
    | some ad =>
      refine ⟨ad, rfl, fun j v hv => ?_⟩
      have hc := b5 ad rfl j v hv
      rw [World.cell?_of_block (w := w) (Below.heap_alloc _ _ _ (World.block_lt_of_cell? _ _ hc))]
      exact hc
  have HP := hid hpos
  clear hpos b1 b2 b3 b4 b5 S D
  go_enter Tryz.func85, Tryz.ntmps85
  go_wp2_with (first | (refine wpList_allocArr rfl rfl ?_) | (refine wpList_copy_splice (o := ⟨some 10, _, _, _, _, _⟩) rfl (.tmp 8) (.tmp 9) 22 22 rfl 5 Tryz.underlying22 (by kernel_rfl) (some ⟨w.heap.size, 0, none⟩) a 64 64 zs.length cap rfl rfl w.heap.size 0 zrow.cells 80 (heap_alloc_new _ _) (zs.map (Value.int .u8)) (by rw [List.length_map]; exact (Nat.min_eq_left hl).symm) (fun h0 => ⟨rfl, HP.out h0⟩) (by simp; omega) (by intro v hv; simp at hv; obtain ⟨z, _, rfl⟩ := hv; rfl) w.heap.size w ((Below.refl _ _).alloc (Nat.le_refl _) _) (Nat.le_refl _) ?_; intro w2 h2 hb2) | fail)
  have K2 : Hid (Keeps [] w w2) := hid ⟨hb2.os, hb2.tape, hb2.output, hb2.size, fun k hk _ => hb2.block k hk⟩
  have R2 : Hid (RowAt w2 (.slice (some ⟨w.heap.size, 0, none⟩) 64 64) (pad64 zs)) := hid (by
    have h2' := h2.out
    rw [splice_pad] at h2'
    refine ⟨some ⟨w.heap.size, 0, none⟩, 64, by rw [pad64_len hl], by rw [pad64_len hl]; omega, by unfold maxLen; omega, by simp, pad64_byte HB.out, fun ad had j u hu => ?_⟩
    obtain rfl := Option.some.inj had
    rw [Addr.add_mid, Nat.zero_add, cell_of_row _ _ j _ _ (0, 0) h2']
    simpa using hu)
  clear h2 hb2
  refine wp_region_any (by kernel_rfl) (wpAny_of_held (S := KpS F w2.heap.size w2.drew) _ _ _ _ ?_)
  change wpAnyH _ _ _ _ _ _ _ _ w2.drew
  have cQ : ∀ W1, KpS F w2.heap.size w2.drew W1 → W1.cell? ⟨q, 0, none⟩ = some (.pointer (some ⟨p, 0, none⟩)) := fun W1 h => h.cell (by rw [World.cell?_drew]; exact K2.out.cell HS.out.c0 (by simp)) (by have := HS.out.ltq; have := K2.out.size; omega) hq
  refine held_take (i := 0) (v := .pointer (some ⟨q, 0, none⟩)) rfl (by kernel_rfl) (by kernel_rfl) (by kernel_rfl) (fun _ _ _ h => h) rfl (fun W1 hW1 => rfl) (KpS.refl _ _ _) ?_
  simp only [Act.put, List.setIfInBounds_toArray, List.set_cons_zero, List.set_cons_succ]
  refine held_take (i := 1) (v := .pointer (some ⟨q, 0, none⟩)) rfl (by kernel_rfl) (by kernel_rfl) (by kernel_rfl) (fun _ _ _ h => h) rfl (fun W1 hW1 => by go_simp) (KpS.refl _ _ _) ?_
  simp only [Act.put, List.setIfInBounds_toArray, List.set_cons_zero, List.set_cons_succ]
  refine held_take (i := 2) (v := .pointer (some ⟨q, 0, none⟩)) rfl (by kernel_rfl) (by kernel_rfl) (by kernel_rfl) (fun _ _ _ h => h) rfl (fun W1 hW1 => by go_simp) (KpS.refl _ _ _) ?_
  simp only [Act.put, List.setIfInBounds_toArray, List.set_cons_zero, List.set_cons_succ]
  refine held_take (i := 3) (v := .pointer (some ⟨p, 0, none⟩)) rfl (by kernel_rfl) (by kernel_rfl) (by kernel_rfl) (fun _ _ _ h => h) rfl (fun W1 hW1 => exec_load _ _ _ _ rfl rfl (run_loadCell W1 _ _ _ (cQ W1 hW1) (agg_no _ (by kernel_rfl)))) (KpS.refl _ _ _) ?_
  simp only [Act.put, List.setIfInBounds_toArray, List.set_cons_zero, List.set_cons_succ]
  refine held_take (i := 4) (v := .int .i64 n) rfl (by kernel_rfl) (by kernel_rfl) (by kernel_rfl) (fun _ _ _ h => h) rfl (fun W1 hW1 => rfl) (KpS.refl _ _ _) ?_
  simp only [Act.put, List.setIfInBounds_toArray, List.set_cons_zero, List.set_cons_succ]
  refine held_take (i := 5) (v := .slice (some ⟨w.heap.size, 0, none⟩) 64 64) rfl (by kernel_rfl) (by kernel_rfl) (by kernel_rfl) (fun _ _ _ h => h) rfl (fun W1 hW1 => by have := SL w.heap.size W1; go_simp) (KpS.refl _ _ _) ?_
  simp only [Act.put, List.setIfInBounds_toArray, List.set_cons_zero, List.set_cons_succ]
  refine held_do (i := 6) (by kernel_rfl) rfl rfl (wp_enter (f := 43) (args := #[.pointer (some ⟨p, 0, none⟩), .int .i64 n, .slice (some ⟨w.heap.size, 0, none⟩) 64 64]) (by go_simp) (write_anyM w2.drew p m s F K (HD.out.keep (K2.out.trans (Keeps.refl _ _).drew) (by simp)) hK n _ (pad64 zs) (R2.out.keep (Keeps.refl [] w2).drew (by intro _ _ _ _ _; simp))) ?_)
  rintro e w3 ⟨rfl, F3, D3, k3, fr3⟩
  have kk : KpS F w2.heap.size w2.drew w3 := (KpS.refl _ _ _).keeps k3 (Nat.le_refl _) (fun i hi _ => hi)
  refine ⟨_, rfl, kk, ?_⟩
  simp only [Act.put, List.setIfInBounds_toArray, List.set_cons_zero, List.set_cons_succ]
  refine held_take (i := 7) (v := .int .i64 (writeE s n (pad64 zs).length)) rfl (by kernel_rfl) (by kernel_rfl) (by kernel_rfl) (fun _ _ _ h => h) rfl (fun W1 hW1 => rfl) (kk) ?_
  simp only [Act.put, List.setIfInBounds_toArray, List.set_cons_zero, List.set_cons_succ]
  refine wpAnyH_done (by kernel_rfl) ?_ _
  have D3' := hid D3
  have K3 : Hid (Keeps F w w3) := hid ((K2.out.mono (by simp)).trans ⟨kk.os, kk.tape, kk.output, kk.size, kk.block⟩)
  have F3' : Hid (Fresh w F F3) := hid fun b hb => (fr3 b hb).imp id (fun h => Nat.le_trans K2.out.size h)
  clear k3 fr3 kk D3 cQ
  go_wp2_with fail
  go_ret
  rw [pad64_len hl]
  exact ⟨rfl, F3, D3'.out, K3.out, F3'.out⟩
end Go.Proofs.YtnhcfkiejldicaaGreat
