/- Crash. -/
import Derived.Test.YtofoeemgplggbaaDkK
import Derived.Sort.MapsRangeIn
namespace Go.Proofs.Ytofoeemgplggbaa
open Go.RowKit Go.Shelf Go.Maps
attribute [local go_sem] Oper.semAt_some

/-- What a write that is left makes of a sector. -/
def crashStep (f : Nat → Row × Row) (x : Nat × Row) : Nat → Row × Row := upd f x.1 (x.2, x.2)
def crashRow (s : DS) (ch : List Int) : Nat → Row := (keptBy ch s.loose).foldl (fun g x => upd g x.1 x.2) s.las
def DS.crashed (s : DS) (ch : List Int) : DS := ⟨s.cnt, crashRow s ch, crashRow s ch, [], -1, 0, false⟩

theorem crashF_is (l : List (Nat × Row)) : ∀ (g : Nat → Row) (i : Nat), (l.foldl crashStep fun i => (g i, g i)) i = (l.foldl (fun g x => upd g x.1 x.2) g i, l.foldl (fun g x => upd g x.1 x.2) g i) := by
  induction l with
  | nil => intro g i; rfl
  | cons x l ih =>
    intro g i
    have e : crashStep (fun i => (g i, g i)) x = fun i => (upd g x.1 x.2 i, upd g x.1 x.2 i) := by
      funext j
      by_cases h : j = x.1 <;> simp [crashStep, upd, h]
    rw [List.foldl_cons, List.foldl_cons, e]
    exact ih _ i

theorem ranges_block {H : Type} {P : Program} {k : TypeId} {R : Value → Option (DataW H × List MemPlace)} {w w' : World} {b r n : Nat} {D : DataW H} {left : Lit → Bool} {cnt : Nat}
    (h : w.ranges P k R b r n D left cnt) (hb : w'.heap[b]? = w.heap[b]?) (hr : w'.heap[r]? = w.heap[r]?) : w'.ranges P k R b r n D left cnt := by
  obtain ⟨es, clock, since, seen, c0, h1, F, hs, hD, h2, rest⟩ := h
  exact ⟨es, clock, since, seen, c0, hb.trans h1, F, hs, hD, hr.trans h2, rest⟩

theorem ranges_lt {H : Type} {P : Program} {k : TypeId} {R : Value → Option (DataW H × List MemPlace)} {w : World} {b r n : Nat} {D : DataW H} {left : Lit → Bool} {cnt : Nat}
    (h : w.ranges P k R b r n D left cnt) : b < w.heap.size ∧ r < w.heap.size := by
  obtain ⟨es, clock, since, seen, c0, h1, F, hs, hD, h2, rest⟩ := h
  exact ⟨lt_of_block h1, lt_of_block h2⟩

section
variable {F : Fence} {n : Nat} {ops : Array Oper} {rest : List Oper} {o : Oper} {a : Act} {w : World} {Q : Exit → Act → World → Prop}
theorem wpListIn_allocSec (hgd : o.guard = none) (ho : o.op = .alloc 65)
    (h : wpListIn F n Try.prog ops Q rest (a.put o.dst (.pointer (some ⟨w.heap.size, 0, none⟩))) (w.alloc (.cells (zrow.cells ++ zrow.cells).toArray 65))) : wpListIn F n Try.prog ops Q (o :: rest) a w := by
  refine wpListIn_is hgd (by simp [noDefer, ho]) (fun w => by simp [Oper.about, ho]) _ _ ?_ h
  simp only [execOp, ho, Instr.alloc, newVar, newRow, Sem.run_bind, zeroSec, secV_cells, Result.andThen_ok, Sem.run_pure, run_newObj_alloc]

theorem wpListIn_storeSecNew (hgd : o.guard = none) (x y : Operand) (ho : o.op = .store 65 x y) (W : World) (p q r s : Row) (hw : w = W.alloc (.cells (p.cells ++ q.cells).toArray 65)) (N : Nat) (hx : a.eval x = .pointer (some ⟨N, 0, none⟩)) (hN : N = W.heap.size)
    (hy : a.eval y = secV r s)
    (h : wpListIn F n Try.prog ops Q rest (a.put o.dst undef) (W.alloc (.cells (r.cells ++ s.cells).toArray 65))) : wpListIn F n Try.prog ops Q (o :: rest) a w := by
  subst hN
  subst hw
  have hd' : ∀ c, o.op ≠ .defer c := fun c e => by simp [ho] at e
  refine wpListIn_plain hgd fun K hK => ?_
  unfold Oper.wpIn
  have hr := run_storeAt_new (P := Try.prog) W 65 (p.cells ++ q.cells).toArray (r.cells ++ s.cells).toArray (by rw [sSec]; simp) (by simp) (secV_one _ _)
  have hy' : a.eval y = .agg (r.cells ++ s.cells).toArray := hy
  refine ⟨fun f hf => by simp [Oper.about, ho] at hf, ?_⟩
  rw [Oper.semAt_eq _ _ _ hd']
  unfold execOp
  simp only [ho, hx, hy', hr, Sem.run_bind, Result.andThen_ok]
  exact hK _ _ h
end

theorem loadRow_run (w : World) (b off : Nat) (r : Row) (hc : w.rangeAt b off r.cells) : (Instr.loadAt 63 (.pointer (some ⟨b, off, none⟩))).run Try.prog w = .ok (rowV r) w :=
  run_loadAt_mid w b off 63 r.cells _ hc uRow rfl (by rw [sRow, r.len])

theorem rowat_lt {w : World} {v : Value} {zs : List Int} (h : RowAt w v zs) (hne : zs ≠ []) : ∀ b, v.ownBlock = some b → b < w.heap.size := by
  intro b hb
  obtain ⟨a, cap, rfl, _, _, _, _, h5⟩ := h
  cases a with
  | none => cases hb
  | some ad =>
    injection hb with hb
    subst hb
    have hl : 0 < zs.length := List.length_pos_iff.2 hne
    have := World.block_lt_of_cell? w _ (h5 ad rfl 0 (.int .u8 zs[0]) (by simp [List.getElem?_eq_getElem hl]))
    rwa [Addr.add_block] at this

theorem rowat_off {w : World} {v : Value} {zs : List Int} (h : RowAt w v zs) {S : List Nat} (hS : ∀ k ∈ S, w.heap.size ≤ k) : Off S v zs := by
  intro ad n c e hne hm
  have := rowat_lt h hne ad.block (by rw [e]; rfl)
  have := hS _ hm
  omega

theorem ownsMap_block {H : Type} {P : Program} {k : TypeId} {R : Value → Option (DataW H × List MemPlace)} {w w' : World} {b n : Nat} {D : DataW H} (h : w.ownsMap P k R b n D) (hb : w'.heap[b]? = w.heap[b]?) : w'.ownsMap P k R b n D := by
  obtain ⟨es, clock, h1, h2⟩ := h
  exact ⟨es, clock, hb.trans h1, h2⟩

theorem entry_facts {s : DS} {D : DataW H2} (hD : (∀ i, D.atKey (kl i) (.held (zrow, zrow)) = .held (s.now i, s.las i)) ∧ ∀ k, Maps.has D k = true → ∃ i, i < s.cnt ∧ k = kl i) {x : Int} {a b : Row} {k : Lit} {y : DataW H2 × List MemPlace}
    (hkey : keyOf Try.prog 3 (.int .i64 x) = some k) (hv : RS (secV a b) = some y) (hat : ∀ zd, D.atKey k zd = y.1) : ∃ i : Nat, i < s.cnt ∧ x = (i : Int) ∧ k = kl i ∧ a = s.now i ∧ b = s.las i := by
  obtain ⟨i, hi, rfl⟩ := hD.2 k (Maps.has_true_of_atKey hat)
  obtain ⟨x', e1, e2, _⟩ := Maps.keyOf_int_inv uInt hkey
  injection e1 with _ e1
  subst e1
  injection e2 with _ e2
  rw [RS_sec] at hv
  injection hv with hv
  subst hv
  have := hat (.held (zrow, zrow))
  rw [hD.1 i] at this
  injection this with this
  exact ⟨i, hi, e2.symm, rfl, (congrArg Prod.fst this).symm, (congrArg Prod.snd this).symm⟩

/-- The new disk's map while the old one's is walked. -/
def fresh (s : DS) (left : Lit → Bool) (i : Nat) : Row × Row := if left (kl i) then (zrow, zrow) else (s.las i, s.las i)

set_option maxRecDepth 100000 in
set_option maxHeartbeats 4000000 in
theorem crash_in (n : Nat) (hn : 4 ≤ n) (w : World) (p m nn : Nat) (lv : Value) (s : DS) (H : DiskIn w p m lv nn s) (hc : 2 ≤ s.cnt) (hc2 : s.cnt ≤ 4160) (hl : s.loose.length ≤ 1000000000) (hnn : nn ≤ 1000000000)
    (hat : ∀ x ∈ s.loose, x.1 < s.cnt) (cv : Value) (ch : List Int) (hch : ch.length ≤ 1000000000) (hcv : RowAt w cv ch) :
    CallsIn Fence.wide n Try.prog 10 #[.pointer (some ⟨p, 0, none⟩), cv] w fun e w' => ∃ pc mc nc, e = .returned (.pointer (some ⟨pc, 0, none⟩)) ∧
      DiskIn w' pc mc (.slice none 0 0) nc (s.crashed ch) ∧ nc ≤ nn + s.loose.length ∧ w.heap.size ≤ pc ∧ w.heap.size ≤ mc ∧ Keeps [] w w' := by
  have h1 : 1 ≤ n := by omega
  have hp := H.lt
  have c0 := H.c0
  have c1 := H.c1
  have HH := hid H
  have HC := hid hcv
  obtain ⟨D, ho, hD⟩ : ∃ D : DataW H2, w.ownsMap Try.prog 3 RS m nn D ∧ (∀ i, D.atKey (kl i) (.held (zrow, zrow)) = .held (s.now i, s.las i)) ∧ ∀ k, Maps.has D k = true → ∃ i, i < s.cnt ∧ k = kl i := H.map
  have HO := hid ho
  have HD := hid hD
  obtain ⟨ca, ccap, rfl, _⟩ := hcv
  clear H ho hD
  refine callsIn_of_wp_marks Try.func10 rfl trivial ?_ rfl
  simp only [Try.ntmps10, List.size_toArray, List.length_cons, List.length_nil, Nat.reduceAdd, Nat.reduceSub, Array.replicate_succ, Array.replicate_zero, List.push_toArray, List.append_toArray, List.nil_append, List.cons_append]
  gi_wp2
  refine ⟨trivial, (callsIn_wide.2 (made_any w p s.cnt (by omega) c0)).mono ?_⟩
  rintro e w' ⟨rfl, rfl⟩
  gi_wp2
  refine ⟨trivial, (callsIn_wide.2 (blank_any s.cnt w)).mono ?_⟩
  rintro e w1 ⟨pc, mc, rfl, D1, K1, l1, l2⟩
  have D1' := hid D1
  have K1' := hid K1
  have z1 := K1.size
  have c1' : w1.cell? ⟨p, 1, none⟩ = some (.map (some m)) := by rw [World.cell?_of_block (w := w) (K1.block p hp (by simp))]; exact c1
  clear D1 K1 c0 c1
  have hp1 : p < w1.heap.size := by omega
  have HO1 := hid ((ownsMap_block HO.out (K1'.out.block m HO.out.lt (by simp))).alloc (.cells #[.pointer (some ⟨pc, 0, none⟩)] 25))
  gi_wp2_with (first | (refine wpListIn_range_own _ rfl _ _ rfl 3 65 keyed3 uMap RS m nn D rfl HO1.out ?_; intro w2 hrg hg hs2; have RG := hid hrg; have G2 := hid hg; clear hrg hg) | fail)
  have hrr : (w1.alloc (.cells #[.pointer (some ⟨pc, 0, none⟩)] 25)).heap.size = w1.heap.size + 1 := by simp
  have hB5 : w2.cell? ⟨w1.heap.size, 0, none⟩ = some (.pointer (some ⟨pc, 0, none⟩)) := by
    rw [World.cell?_of_block (w := w1.alloc (.cells #[.pointer (some ⟨pc, 0, none⟩)] 25)) (G2.out.block _ (by simp) (by simp))]
    exact cell_of_row _ _ 0 _ _ (0, 0) (heap_alloc_new w1 _)
  generalize (w1.alloc (.cells #[.pointer (some ⟨pc, 0, none⟩)] 25)).heap.size = r at hrr RG hs2 ⊢
  have K2 : Hid (Keeps [] w1 w2) := ((Keeps.refl [] w1).alloc _).grown G2.out (fun k hk => by cases hk)
  have hmc : mc < w1.heap.size := D1'.out.map.lt
  have hpc : pc < w1.heap.size := D1'.out.lt
  have hmw : m < w.heap.size := HO.out.lt
  have hpm : mc ≠ pc := D1'.out.pm
  have hcell : w2.cell? ⟨pc, 1, none⟩ = some (.map (some mc)) := by rw [World.cell?_of_block (w := w1) (K2.out.block pc hpc (by simp))]; exact D1'.out.c1
  have hM0 : MapIs w2 mc 0 s.cnt fun _ => (zrow, zrow) := D1'.out.map.keep K2.out (by simp)
  have hat0 : ∀ i, (Maps.has D (kl i) = false) → s.las i = zrow := fun i hi => by
    have e1 := HD.out.1 i
    rw [atKey_of_not_has hi] at e1
    injection e1 with e1
    exact (congrArg Prod.snd e1).symm
  have hst : fresh s (Maps.has D) = fun _ => (zrow, zrow) := by
    funext i
    unfold fresh
    cases hh : Maps.has D (kl i) with
    | true => rfl
    | false => simp [hat0 i hh]
  have HRR := hid hrr
  clear hrr
  go_frame
  gi_loopw [22] (fun _ wr => ∃ left cnt nc, wr.ranges Try.prog 3 RS m r nn D left cnt ∧ MapIs wr mc nc s.cnt (fresh s left) ∧ nc + cnt ≤ nn ∧ KpS [mc, r] w2.heap.size w2 wr)
    (fun _ wr => wr.rangeLeft m r)
  case atStart => exact ⟨_, _, 0, RG.out, by rw [hst]; exact hM0, by have := HO.out.size_le; omega, KpS.refl _ _ _⟩
  case round =>
    obtain ⟨left, cnt, nc, hrg, hMc, hle, hkp⟩ := hrel
    have HR := hid hrg
    have HM := hid hMc
    have HK := hid hkp
    have hszr := hkp.size
    clear hrg hMc hkp
    gi_wp2_with (first | (refine wpListIn_next_ranges _ rfl _ rfl 3 keyed3 RS (Value.int .i64) (fun c : Row × Row => secV c.1 c.2) (fun key kl hk => (by obtain ⟨x, hx, _⟩ := Maps.keyOf_int_inv uInt hk; exact ⟨x, hx⟩)) (fun v y hv => (by obtain ⟨a, b, hab, _⟩ := RS_inv hv; exact ⟨(a, b), hab⟩)) m r nn D left cnt rfl HR.out ?_ ?_; rotate_left; (rintro x ⟨ra, rb⟩ k y w4 cnt' hkey hlk hv hat' hrg1 hlt hg1 hs1 hen; obtain ⟨i, hi, rfl, rfl, rfl, rfl⟩ := entry_facts HD.out hkey hv hat'; clear hkey hv hat'; have HLK := hid hlk; have R4 := hid hrg1; have G4 := hid hg1; have LT4 := hid hlt; clear hlk hrg1 hg1 hlt); rotate_left; (intro _ hl0; have HL0 := hid hl0; clear hl0)) | (refine wpListIn_allocSec rfl rfl ?_) | (refine wpListIn_storeSecNew rfl _ _ rfl _ _ _ _ _ rfl _ rfl (by omega) rfl ?_) | fail)
    · refine ⟨trivial, (callsIn_wide.2 (dleft_any wr p ca ch.length ccap)).mono ?_⟩
      rintro e w6 ⟨rfl, rfl⟩
      gi_wp2
      have hr1 := HRR.out
      have hfz : fresh s left = fun i => (s.las i, s.las i) := by
        funext i
        simp [fresh, HL0.out (kl i)]
      rw [hfz] at HM
      have Kwr : Keeps [mc, r] w wr := ((K1'.out.mono (by simp)).trans (K2.out.mono (by simp))).trans ⟨HK.out.os, HK.out.tape, HK.out.output, HK.out.size, fun k hk hs => HK.out.block k hk hs⟩
      have Kw6 : Keeps [mc, r] w ((wr.alloc (.cells #[.pointer (some ⟨p, 0, none⟩)] 25)).alloc (.cells #[.slice ca ch.length ccap] 34)) := (Kwr.alloc _).alloc _
      have D6 := HH.out.keep Kw6 (fun b hb => by have := HH.out.foot_lt b hb; simp; omega)
      have R6 := HC.out.keep Kw6 (rowat_off HC.out (by simp; omega))
      have hKr : KpS [mc, r] w2.heap.size w2 ((wr.alloc (.cells #[.pointer (some ⟨p, 0, none⟩)] 25)).alloc (.cells #[.slice ca ch.length ccap] 34)) := (HK.out.alloc (by omega) _).alloc (by simp; omega) _
      have z6 : ((wr.alloc (.cells #[.pointer (some ⟨p, 0, none⟩)] 25)).alloc (.cells #[.slice ca ch.length ccap] 34)).heap.size = wr.heap.size + 2 := by simp
      have q1 : ((wr.alloc (.cells #[.pointer (some ⟨p, 0, none⟩)] 25)).alloc (.cells #[.slice ca ch.length ccap] 34)).cell? ⟨wr.heap.size, 0, none⟩ = some (.pointer (some ⟨p, 0, none⟩)) :=
        cell_of_row _ _ 0 _ _ (0, 0) (heap_alloc2_old wr _ _)
      have q2 : ((wr.alloc (.cells #[.pointer (some ⟨p, 0, none⟩)] 25)).alloc (.cells #[.slice ca ch.length ccap] 34)).cell? ⟨wr.heap.size + 1, 0, none⟩ = some (.slice ca ch.length ccap) :=
        cell_of_row _ _ 0 _ _ (0, 0) (heap_alloc2_new wr _ _)
      have M6 : MapIs ((wr.alloc (.cells #[.pointer (some ⟨p, 0, none⟩)] 25)).alloc (.cells #[.slice ca ch.length ccap] 34)) mc nc s.cnt fun i => (s.las i, s.las i) := HM.out.keep (((Keeps.refl [] wr).alloc _).alloc _) (by simp)
      generalize (wr.alloc (.cells #[.pointer (some ⟨p, 0, none⟩)] 25)).alloc (.cells #[.slice ca ch.length ccap] 34) = w6 at Kw6 D6 R6 hKr z6 q1 q2 M6 ⊢
      have b6 := hKr.cell hB5 (by omega) (by simp; omega)
      have p6 := hKr.cell hcell (by omega) (by simp; omega)
      have blk6 : w6.heap[pc]? = some (.cells (dcells (s.crashed ch) mc (.slice none 0 0)) 61 (0, 0)) := by
        rw [hKr.block pc (by omega) (by simp; omega), K2.out.block pc hpc (by simp)]
        exact D1'.out.blk
      have c6 := D6.c2
      have HS := hid (left_stops (n - 1) (by omega) wr.heap.size (wr.heap.size + 1) p w6.heap.size [mc] s.loose ch hl hch w6 (Nat.le_refl _) q1
        ⟨_, q2, R6, fun ad a b e hne => (rowat_off HC.out (S := [mc]) (by simp; omega)) ad a b e hne, fun b hb hne => by have := rowat_lt HC.out hne b hb; have := Kw6.size; omega⟩
        ⟨lv, c6, looseAt_of D6.row, fun b hb => ⟨(D6.row.lt b hb).2, by have := (HH.out.row.lt b hb).2; simp; omega⟩⟩ (by refine ⟨by omega, by simp; omega⟩) (fun x => x.1 < s.cnt) hat)
      refine wpIn_rangeFunc_ownH rfl h1 (gf := 38) (lb := #[.pointer (some ⟨wr.heap.size, 0, none⟩), .pointer (some ⟨wr.heap.size + 1, 0, none⟩)]) rfl trivial (fun _ _ => rfl) HS.out KpS.trans (KpS.putObj (Nat.le_refl _)) (Below.refl _ _) (fun _ => rfl)
        (fun pre W => KpS [mc] w6.heap.size w6 W ∧ MapIs W mc (nc + pre.length) s.cnt ((pre.map (·.1)).foldl crashStep fun i => (s.las i, s.las i)))
        (fun _ _ _ => False) ((ownFrom_kps _ _ _ (Nat.le_refl _)).and (ownFrom_map _ mc s.cnt (by omega) _ _)) (fun _ _ _ _ _ hs _ _ => hs) ⟨KpS.refl _ _ _, M6⟩
        (fun x a' W => ∃ b, a' = { tmps := #[.pointer (some ⟨p, 0, none⟩), .slice ca ch.length ccap, undef, undef, .pointer none, .pointer (some ⟨w1.heap.size, 0, none⟩), u6, u7, .pointer (some ⟨b, 0, none⟩), .pointer (some ⟨p, 0, none⟩), .bool true, .bool false, .pointer (some ⟨p, 0, none⟩), .pointer (some ⟨p, 0, none⟩), .pointer (some ⟨p, 0, none⟩), .int .i64 s.cnt, .pointer (some ⟨pc, 0, none⟩), .pointer (some ⟨p, 0, none⟩), .pointer (some ⟨p, 0, none⟩), .pointer (some ⟨p, 1, none⟩), .map (some m), .pointer (some ⟨r, 0, none⟩), .tuple #[.bool false], .bool false, u24, u25, u26, u27, u28, u29, u30, u31, u32, .pointer (some ⟨p, 0, none⟩), .slice ca ch.length ccap, .func (.func 38) #[] #[.pointer (some ⟨wr.heap.size, 0, none⟩), .pointer (some ⟨wr.heap.size + 1, 0, none⟩)], wrV x.1.1 x.1.2, undef, undef, undef, undef, undef, undef, undef, undef], defers := [] } ∧ VarAt w6.heap.size b x.1 W)
        (fun x a' => ownFrom_ex _ _ fun b => ownFrom_var _ b x.1 _) ?assign ?body ?done ?stop
      case assign =>
        rintro l pre x W K ⟨hK, hM⟩ hC
        refine round_plain (by kernel_rfl) noOut_then ?_
        simp only [List.zip_toArray, List.zip_cons_cons, List.zip_nil_right, List.foldl_toArray, List.foldl_cons, List.foldl_nil, List.setIfInBounds_toArray, List.set_cons_zero, List.set_cons_succ]
        refine wpList_allocWr rfl rfl ?_
        refine wpList_storeWrNew rfl _ _ rfl W _ x.1.2 _ (x.1.1 : Int) rfl _ rfl rfl rfl ?_
        refine wpList_nil ?_
        have hs := hK.size
        exact hC _ _ ⟨by simp, fun k o _ hk _ => (Below.heap_alloc _ _ _ (lt_of_block hk)).trans hk⟩ ((KpS.refl _ _ _).alloc (by omega) _) ⟨hK.alloc (by omega) _, hM.block (Below.heap_alloc _ _ _ hM.lt)⟩
          ⟨W.heap.size, rfl, by omega, heap_alloc_new W _⟩
      case body =>
        rintro l pre x a' W hl2 _ ⟨hK, hM⟩ ⟨b, rfl, hv⟩ hlen
        refine wpIn_block (round_region (by kernel_rfl) (by kernel_rfl) noOut_block ?_)
        refine wpAny_of_held (S := KpS [mc] W.heap.size W.drew) _ _ _ _ ?_
        have hs := hK.size
        have hbl := lt_of_block hv.2
        have hbm : b ≠ mc := by have := hv.1; omega
        have cb : ∀ W1, KpS [mc] W.heap.size W.drew W1 → W1.cell? ⟨w1.heap.size, 0, none⟩ = some (.pointer (some ⟨pc, 0, none⟩)) := fun W1 h => h.cell (by rw [World.cell?_drew]; exact hK.cell b6 (by omega) (by simp; omega)) (by omega) (by simp; omega)
        have cp : ∀ W1, KpS [mc] W.heap.size W.drew W1 → W1.cell? ⟨pc, 1, none⟩ = some (.map (some mc)) := fun W1 h => h.cell (by rw [World.cell?_drew]; exact hK.cell p6 (by omega) (by simp; omega)) (by omega) (by simp; omega)
        have ca3 : ∀ W1, KpS [mc] W.heap.size W.drew W1 → W1.rangeAt b 0 (.int .i64 (x.1.1 : Int) :: x.1.2.cells) := fun W1 h => h.range (l := .int .i64 (x.1.1 : Int) :: x.1.2.cells) (fun j u hu => by rw [World.cell?_drew, Nat.zero_add, cell_of_row W b j _ _ (0, 0) hv.2]; simpa using hu) hbl (by simpa using hbm)
        refine held_take (i := 0) (v := .pointer (some ⟨pc, 0, none⟩)) rfl (by kernel_rfl) (by kernel_rfl) (by kernel_rfl) (fun _ _ _ h => h) rfl (fun W1 hW1 => exec_load _ _ _ _ rfl rfl (run_loadCell W1 _ _ _ (cb W1 hW1) (agg_no _ (by kernel_rfl)))) (KpS.refl _ _ _) ?_
        simp only [Act.put, List.setIfInBounds_toArray, List.set_cons_zero, List.set_cons_succ]
        refine held_take (i := 1) (v := .pointer (some ⟨b, 0, none⟩)) rfl (by kernel_rfl) (by kernel_rfl) (by kernel_rfl) (fun _ _ _ h => h) rfl (fun W1 hW1 => by go_simp) (KpS.refl _ _ _) ?_
        simp only [Act.put, List.setIfInBounds_toArray, List.set_cons_zero, List.set_cons_succ]
        refine held_take (i := 2) (v := .int .i64 (x.1.1 : Int)) rfl (by kernel_rfl) (by kernel_rfl) (by kernel_rfl) (fun _ _ _ h => h) rfl (fun W1 hW1 => exec_load _ _ _ _ rfl rfl (run_loadCell W1 _ _ _ (ca3 W1 hW1 0 _ rfl) (agg_no _ (by kernel_rfl)))) (KpS.refl _ _ _) ?_
        simp only [Act.put, List.setIfInBounds_toArray, List.set_cons_zero, List.set_cons_succ]
        refine held_take (i := 3) (v := .pointer (some ⟨b, 1, none⟩)) rfl (by kernel_rfl) (by kernel_rfl) (by kernel_rfl) (fun _ _ _ h => h) rfl (fun W1 hW1 => by go_simp) (KpS.refl _ _ _) ?_
        simp only [Act.put, List.setIfInBounds_toArray, List.set_cons_zero, List.set_cons_succ]
        refine held_take (i := 4) (v := rowV x.1.2) rfl (by kernel_rfl) (by kernel_rfl) (by kernel_rfl) (fun _ _ _ h => h) rfl (fun W1 hW1 => exec_load _ _ _ _ rfl rfl (loadRow_run W1 _ _ _ (range_tail (p := W1.heap.size) (ca3 W1 hW1) (Keeps.refl _ _) (by have := hW1.size; have : W.drew.heap.size = W.heap.size := rfl; omega)))) (KpS.refl _ _ _) ?_
        simp only [Act.put, List.setIfInBounds_toArray, List.set_cons_zero, List.set_cons_succ]
        have hM1 : MapIs W.drew mc (nc + pre.length) s.cnt ((pre.map (·.1)).foldl crashStep fun i => (s.las i, s.las i)) := hM.block rfl
        generalize hF : (pre.map (·.1)).foldl crashStep (fun i => (s.las i, s.las i)) = f at hM hM1
        refine held_do (i := 5) (by kernel_rfl) rfl rfl (wp_enter (f := 30) (args := #[rowV x.1.2]) (by go_simp) (lasting_any _ _) ?_)
        rintro e W1 ⟨rfl, kl2⟩
        have k1 : KpS [mc] W.heap.size W.drew W1 := (KpS.refl _ _ _).keeps kl2 (Nat.le_refl _) (by simp)
        refine ⟨_, rfl, k1, ?_⟩
        simp only [Act.put, List.setIfInBounds_toArray, List.set_cons_zero, List.set_cons_succ]
        have hlen2 : pre.length ≤ s.loose.length := Nat.le_of_lt hlen
        refine held_do (i := 6) (by kernel_rfl) rfl rfl (wp_enter (f := 29) (args := #[.pointer (some ⟨pc, 0, none⟩), .int .i64 (x.1.1 : Int), secV x.1.2 x.1.2]) (by go_simp) (keep_any W1 pc mc _ s.cnt f (cp W1 k1) (hM1.keep kl2 (by simp)) x.1.1 x.2 (by omega) (by omega) _ _) ?_)
        rintro e W2 ⟨rfl, hM2, k2⟩
        have kk : KpS [mc] W.heap.size W.drew W2 := k1.keeps k2 k1.size (fun i hi _ => hi)
        refine ⟨_, rfl, kk, wpAnyH_done (by kernel_rfl) ?_ _⟩
        have kw : KpS [mc] w6.heap.size W W2 := ⟨kk.os, kk.tape, kk.output, kk.size, fun k hk hs' => kk.block k (by omega) hs'⟩
        refine ⟨⟨kk.size, fun k o hk h0 _ => (kk.block k (lt_of_block h0) (by simp; omega)).trans h0⟩, kw, hK.trans kw, ?_⟩
        simp only [List.map_append, List.map_cons, List.map_nil, List.foldl_append, List.foldl_cons, List.foldl_nil, hF, List.length_append, List.length_cons, List.length_nil]
        exact hM2
      case done =>
        rintro D2 ys W hD hys ⟨hK, hM⟩ hDD
        have cb := hK.cell b6 (by omega) (by simp; omega)
        have HKK := hid hK
        have HMM := hid hM
        have HDD := hid hDD
        rw [hys] at HMM
        clear hK hM hDD
        gi_wp2
        refine ⟨by simp, .inl ⟨_, _, rfl, run_takeDeferred HDD.out, ?_⟩⟩
        refine ⟨_, results_tmp rfl _ _ _, pc, mc, nc + ys.length, rfl, ⟨?_, ?_, World.ownsRow_nil _ _ _ _⟩, ?_, by omega, by omega, ?_⟩
        · rw [World.putObj_heap_other (by omega), HKK.out.block pc (by omega) (by simp; omega)]
          exact blk6
        · have e : ((keptBy ch s.loose).foldl crashStep fun i => (s.las i, s.las i)) = fun i => (crashRow s ch i, crashRow s ch i) := funext (crashF_is _ s.las)
          have hm := HMM.out
          rw [e] at hm
          exact hm.block (World.putObj_heap_other (by omega))
        · have h7 := congrArg List.length hys
          rw [List.length_map] at h7
          have h8 := keptBy_len ch s.loose
          omega
        · have hz6 := Kw6.size
          refine Keeps.putObj ⟨HKK.out.os.trans Kw6.os, HKK.out.tape.trans Kw6.tape, HKK.out.output.trans Kw6.output, Nat.le_trans hz6 HKK.out.size, fun k hk _ => ?_⟩ (by omega) _
          rw [HKK.out.block k (by omega) (by simp; omega), Kw6.block k hk (by simp; omega)]
      case stop =>
        rintro D c pre W _ _ h _
        exact h.elim
    · have kA : KpS [mc, r] w2.heap.size w2 w4 := HK.out.trans ⟨G4.out.os, G4.out.tape, G4.out.output, G4.out.size, fun k hk hs => G4.out.block k (by omega) (by intro e; injection e with e; exact hs (by simp [e]))⟩
      have hr1 := HRR.out
      have kW : KpS [mc, r] w2.heap.size w2 (w4.alloc (.cells ((s.now i).cells ++ (s.las i).cells).toArray 65)) := kA.alloc (by omega) _
      have rgW := rangeNew w4 ((s.now i).cells ++ (s.las i).cells) 65
      rw [hs1] at rgW
      have rg2 : (w4.alloc (.cells ((s.now i).cells ++ (s.las i).cells).toArray 65)).rangeAt wr.heap.size 64 (s.las i).cells := fun j u hu => by
        have := rgW (64 + j) u (by rw [List.getElem?_append_right (by simp), Row.len]; simpa using hu)
        simpa using this
      have hMW : MapIs (w4.alloc (.cells ((s.now i).cells ++ (s.las i).cells).toArray 65)) mc nc s.cnt (fresh s left) := (HM.out.block (G4.out.block mc HM.out.lt (by intro e; injection e with e; omega))).block (Below.heap_alloc _ _ _ (by omega))
      have hRW := hid (ranges_block R4.out (w' := w4.alloc (.cells ((s.now i).cells ++ (s.las i).cells).toArray 65)) (Below.heap_alloc _ _ _ (ranges_lt R4.out).1) (Below.heap_alloc _ _ _ (ranges_lt R4.out).2))
      have hszW : (w4.alloc (.cells ((s.now i).cells ++ (s.las i).cells).toArray 65)).heap.size = wr.heap.size + 1 := by simp; omega
      generalize w4.alloc (.cells ((s.now i).cells ++ (s.las i).cells).toArray 65) = w5 at kW rg2 hMW hRW hszW ⊢
      refine wpIn_wide.2 (wp_region_noPanic (wp_region_any (by kernel_rfl) (wpAny_of_held (S := KpS [mc] w5.heap.size w5.drew) _ _ _ _ ?_)))
      have hmn : m ≠ mc := by omega
      have cb : ∀ W1, KpS [mc] w5.heap.size w5.drew W1 → W1.cell? ⟨w1.heap.size, 0, none⟩ = some (.pointer (some ⟨pc, 0, none⟩)) := fun W1 h => h.cell (by rw [World.cell?_drew]; exact kW.cell hB5 (by omega) (by simp; omega)) (by omega) (by simp; omega)
      have cp : ∀ W1, KpS [mc] w5.heap.size w5.drew W1 → W1.cell? ⟨pc, 1, none⟩ = some (.map (some mc)) := fun W1 h => h.cell (by rw [World.cell?_drew]; exact kW.cell hcell (by omega) (by simp; omega)) (by omega) (by simp; omega)
      have ca2 : ∀ W1, KpS [mc] w5.heap.size w5.drew W1 → W1.rangeAt wr.heap.size 64 (s.las i).cells := fun W1 h => h.range ((World.rangeAt_drew _ _ _ _).2 rg2) (by omega) (by simp; omega)
      refine held_take (i := 0) (v := .pointer (some ⟨pc, 0, none⟩)) rfl (by kernel_rfl) (by kernel_rfl) (by kernel_rfl) (fun _ _ _ h => h) rfl (fun W1 hW1 => exec_load _ _ _ _ rfl rfl (run_loadCell W1 _ _ _ (cb W1 hW1) (agg_no _ (by kernel_rfl)))) (KpS.refl _ _ _) ?_
      simp only [Act.put, List.setIfInBounds_toArray, List.set_cons_zero, List.set_cons_succ]
      refine held_take (i := 1) (v := .int .i64 (i : Int)) rfl (by kernel_rfl) (by kernel_rfl) (by kernel_rfl) (fun _ _ _ h => h) rfl (fun W1 hW1 => rfl) (KpS.refl _ _ _) ?_
      simp only [Act.put, List.setIfInBounds_toArray, List.set_cons_zero, List.set_cons_succ]
      refine held_take (i := 2) (v := .pointer (some ⟨wr.heap.size, 64, none⟩)) rfl (by kernel_rfl) (by kernel_rfl) (by kernel_rfl) (fun _ _ _ h => h) rfl (fun W1 hW1 => by go_simp) (KpS.refl _ _ _) ?_
      simp only [Act.put, List.setIfInBounds_toArray, List.set_cons_zero, List.set_cons_succ]
      refine held_take (i := 3) (v := rowV (s.las i)) rfl (by kernel_rfl) (by kernel_rfl) (by kernel_rfl) (fun _ _ _ h => h) rfl (fun W1 hW1 => exec_load _ _ _ _ rfl rfl (loadRow_run W1 _ _ _ (ca2 W1 hW1))) (KpS.refl _ _ _) ?_
      simp only [Act.put, List.setIfInBounds_toArray, List.set_cons_zero, List.set_cons_succ]
      refine held_do (i := 4) (by kernel_rfl) rfl rfl (wp_enter (f := 30) (args := #[rowV (s.las i)]) (by go_simp) (lasting_any _ _) ?_)
      rintro e W1 ⟨rfl, kl2⟩
      have k1 : KpS [mc] w5.heap.size w5.drew W1 := (KpS.refl _ _ _).keeps kl2 (Nat.le_refl _) (by simp)
      refine ⟨_, rfl, k1, ?_⟩
      simp only [Act.put, List.setIfInBounds_toArray, List.set_cons_zero, List.set_cons_succ]
      refine held_do (i := 5) (by kernel_rfl) rfl rfl (wp_enter (f := 29) (args := #[.pointer (some ⟨pc, 0, none⟩), .int .i64 (i : Int), secV (s.las i) (s.las i)]) (by go_simp) (keep_any W1 pc mc nc s.cnt (fresh s left) (cp W1 k1) ((hMW.block (w' := w5.drew) rfl).keep kl2 (by simp)) i hi (by omega) (by omega) _ _) ?_)
      rintro e W2 ⟨rfl, hM2, k2⟩
      have kk : KpS [mc] w5.heap.size w5.drew W2 := k1.keeps k2 k1.size (fun i hi _ => hi)
      refine ⟨_, rfl, kk, wpAnyH_done (by kernel_rfl) ?_ _⟩
      have kw : KpS [mc, r] w2.heap.size w2 W2 := kW.trans ⟨kk.os, kk.tape, kk.output, kk.size, fun k hk hs' => kk.block k (by omega) (by simp at hs' ⊢; omega)⟩
      have hR7 := hid (ranges_block hRW.out (w' := W2) (kk.block m (by omega) (by simpa using hmn)) (kk.block r (by omega) (by simp; omega)))
      have hf : upd (fresh s left) i (s.las i, s.las i) = fresh s (fun z => left z && !z.sameKey (kl i)) := by
        funext j
        by_cases e : j = i
        · subst e
          have : (kl j).sameKey (kl j) = true := by simp [kl, Lit.sameKey]
          simp [fresh, this]
        · have : (kl j).sameKey (kl i) = false := sameKey_ne (fun e' => e (kl_inj e'))
          simp [fresh, upd, e, this]
      rw [hf] at hM2
      refine NoPanic.normal ?_
      simp only [Act.put, List.setIfInBounds_toArray, List.set_cons_zero, List.set_cons_succ]
      gi_wp2
      go_roundw
      case rel => exact ⟨_, _, _, hR7.out, hM2, by have := LT4.out; omega, kw⟩
      case measure => rw [hR7.out.left_eq, HR.out.left_eq]; exact LT4.out


/-- Crash. -/
theorem crash_any (w : World) (p : Nat) (s : DS) (F : List Nat) (K : Nat) (H : DiskAt w p s F K) (hK : K ≤ 1000000000) (cv : Value) (ch : List Int) (hch : ch.length ≤ 1000000000) (hcv : RowAt w cv ch) :
    Calls Try.prog 10 #[.pointer (some ⟨p, 0, none⟩), cv] w fun e w' => ∃ pc F', e = .returned (.pointer (some ⟨pc, 0, none⟩)) ∧ DiskAt w' pc (s.crashed ch) F' K ∧ (∀ b ∈ F', w.heap.size ≤ b) ∧ Keeps [] w w' := by
  obtain ⟨ok, m, lv, n, hi, rfl, hk⟩ := H
  refine (callsIn_wide.1 (crash_in 9 (by omega) w p m n lv s hi ok.lo ok.hi (by omega) (by omega) ok.at_ cv ch hch hcv)).mono ?_
  rintro e w' ⟨pc, mc, nc, rfl, D, hn, l1, l2, kp⟩
  refine ⟨pc, foot pc mc (.slice none 0 0), rfl, ⟨⟨ok.lo, ok.hi, by simp [DS.crashed], by simp [DS.crashed], by simp [DS.crashed], fun i _ => rfl⟩, mc, _, nc, D, rfl, by simp only [DS.crashed, List.length_nil]; omega⟩, ?_, kp⟩
  intro b hb
  simp only [foot, Value.ownBlock, Option.toList, List.mem_cons, List.not_mem_nil, or_false] at hb
  rcases hb with rfl | rfl
  · exact l1
  · exact l2

/-- New. -/
theorem newAt_any (c : Nat) (h1 : 2 ≤ c) (h2 : c ≤ 4160) (w : World) :
    Calls Try.prog 7 #[.int .i64 c] w fun e w' => ∃ p F, e = .returned (.tuple #[.pointer (some ⟨p, 0, none⟩), .int .i64 0]) ∧ DiskAt w' p (blankS c) F 0 ∧ (∀ b ∈ F, w.heap.size ≤ b) ∧ Keeps [] w w' := by
  refine (new_any c h1 h2 w).mono ?_
  rintro e w' ⟨p, m, rfl, D, kp, l1, l2⟩
  refine ⟨p, foot p m (.slice none 0 0), rfl, ⟨⟨h1, h2, by simp [blankS], by simp [blankS], by simp [blankS], fun i _ => rfl⟩, m, _, 0, D, rfl, by simp [blankS]⟩, ?_, kp⟩
  intro b hb
  simp only [foot, Value.ownBlock, Option.toList, List.mem_cons, List.not_mem_nil, or_false] at hb
  rcases hb with rfl | rfl
  · exact l1
  · exact l2

/-- Read. -/
theorem readAt_any (w : World) (p : Nat) (s : DS) (F : List Nat) (K : Nat) (H : DiskAt w p s F K) (k : Int) :
    Calls Try.prog 19 #[.pointer (some ⟨p, 0, none⟩), .int .i64 k] w fun e w' => ∃ v, e = .returned (.tuple #[v, .int .i64 (readE s k)]) ∧ RowAt w' v (readB s k) ∧ NewV w v ∧ Keeps [] w w' := by
  obtain ⟨ok, m, lv, n, hi, _, _⟩ := H
  exact read_any w p m n lv s hi ok.lo ok.hi k

def fuseS (s : DS) (k : Int) : DS := if s.dead then s else { s with fuse := k }

/-- Fuse. -/
theorem fuseAt_any (w : World) (p : Nat) (s : DS) (F : List Nat) (K : Nat) (H : DiskAt w p s F K) (k : Int) (hk : -9223372036854775808 ≤ k ∧ k ≤ 9223372036854775807) :
    Calls Try.prog 25 #[.pointer (some ⟨p, 0, none⟩), .int .i64 k] w fun e w' => e = .returned (.tuple #[]) ∧ DiskAt w' p (fuseS s k) F K ∧ Keeps F w w' := by
  obtain ⟨ok, m, lv, n, hi, rfl, hkk⟩ := H
  refine (fuse_any w p m n lv s hi ok.lo k).mono ?_
  rintro e w' ⟨rfl, D, kp⟩
  refine ⟨rfl, ?_, kp.mono (by intro j _ hj; simp at hj; simp [foot, hj])⟩
  unfold fuseS
  by_cases hd : s.dead = true
  · rw [if_pos hd] at D ⊢
    exact ⟨ok, m, lv, n, D, rfl, hkk⟩
  · rw [if_neg hd] at D ⊢
    exact ⟨⟨ok.lo, ok.hi, hk, ok.op, ok.at_, ok.eqs⟩, m, lv, n, D, rfl, hkk⟩

theorem opsAt_any (w : World) (p : Nat) (s : DS) (F : List Nat) (K : Nat) (H : DiskAt w p s F K) : Calls Try.prog 26 #[.pointer (some ⟨p, 0, none⟩)] w fun e w' => e = .returned (.int .i64 s.ops) ∧ w = w' := by
  obtain ⟨ok, m, lv, n, hi, _, _⟩ := H
  exact ops_any w p m n lv s hi ok.lo
theorem deadAt_any (w : World) (p : Nat) (s : DS) (F : List Nat) (K : Nat) (H : DiskAt w p s F K) : Calls Try.prog 15 #[.pointer (some ⟨p, 0, none⟩)] w fun e w' => e = .returned (.bool s.dead) ∧ w = w' := by
  obtain ⟨ok, m, lv, n, hi, _, _⟩ := H
  exact dead_any w p m n lv s hi ok.lo
theorem sectorsAt_any (w : World) (p : Nat) (s : DS) (F : List Nat) (K : Nat) (H : DiskAt w p s F K) : Calls Try.prog 27 #[.pointer (some ⟨p, 0, none⟩)] w fun e w' => e = .returned (.int .i64 s.cnt) ∧ w = w' := by
  obtain ⟨ok, m, lv, n, hi, _, _⟩ := H
  exact sectors_any w p m n lv s hi ok.lo

end Go.Proofs.Ytofoeemgplggbaa
