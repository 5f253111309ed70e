/- Sync. -/
import Derived.Test.YtnhcfkiejldicaaGreatDkJ
namespace Go.Proofs.YtnhcfkiejldicaaGreat
open Go.RowKit Go.Shelf
attribute [local go_sem] Oper.semAt_some

theorem left_stops (n : Nat) (hn : 1 ≤ n) (Bd Bc p n₀ : Nat) (S : List Nat) (lo : List (Nat × Row)) (ch : List Int) (hlo : lo.length ≤ 1000000000) (hch : ch.length ≤ 1000000000) (w : World) (hn0 : n₀ ≤ w.heap.size)
    (hBd : w.cell? ⟨Bd, 0, none⟩ = some (.pointer (some ⟨p, 0, none⟩))) (hBc : ∃ v, w.cell? ⟨Bc, 0, none⟩ = some v ∧ RowAt w v ch ∧ Off S v ch ∧ ∀ b, v.ownBlock = some b → ch ≠ [] → b < n₀)
    (hp : ∃ v, w.cell? ⟨p, 2, none⟩ = some v ∧ LooseAt w v lo ∧ ∀ b, v.ownBlock = some b → b < n₀ ∧ b ∉ S) (bc : Bc < n₀ ∧ Bc ∉ S) (Px : Nat × Row → Prop) (hPx : ∀ x ∈ lo, Px x) :
    SeqStopsK Fence.wide n Tryz.prog 91 #[.pointer (some ⟨Bd, 0, none⟩), .pointer (some ⟨Bc, 0, none⟩)] (fun x : {x : Nat × Row // Px x} => #[wrV x.1.1 x.1.2]) (KpS S n₀) (fun ys => ys.map (·.1) = keptBy ch lo) (fun _ => True) lo.length w := fun l J Jx W hW hA _ hY h0 => by
  have K0 : KpS [] w.heap.size w W := KpS.below hW (Nat.le_refl _)
  have hd := World.block_lt_of_cell? w _ hBd
  obtain ⟨lv, e1, ⟨a, cap, rfl, e2⟩, e3⟩ := hp
  obtain ⟨cv, f1, f2, f3, f4⟩ := hBc
  have hpb := World.block_lt_of_cell? w _ e1
  refine (left1_in n hn l Bd Bc p n₀ S lo ch hlo hch (fun pre W => ∃ ps, ps.map (·.1) = pre ∧ J ps W) (fun pre W => ∃ ps, ps.map (·.1) = pre ∧ Jx ps W) W (by have := K0.size; omega)
    (fun pre A c t hs => by obtain ⟨ps, hps, hs⟩ := hs; exact ⟨ps, hps, hA ps A _ none hs (World.grownBy_alloc A _ none) (fun r e => by cases e)⟩) ?_ (K0.cell hBd hd (by simp))
    ⟨cv, K0.cell f1 (World.block_lt_of_cell? w _ f1) (by simp), f2.keep K0.toKeeps (by intro _ _ _ _ _; simp), f3, f4⟩
    ⟨_, K0.cell e1 hpb (by simp), ⟨a, cap, rfl, fun k hk => ?_⟩, e3⟩ bc ⟨[], rfl, h0⟩).mono ?_
  · rintro pre x W1 hx ⟨ps, rfl, hJ⟩ hlen
    obtain ⟨fn, tmps, assign, body, g1, g2⟩ := hY ps ⟨x, hPx x hx⟩ W1 hJ (by simpa using hlen)
    refine ⟨fn, tmps, assign, body, g1, g2.mono ?_⟩
    rintro e W' (⟨rfl, hj, hk⟩ | ⟨rfl, hj⟩)
    · exact Or.inl ⟨rfl, ⟨_, by simp, hj⟩, hk⟩
    · exact Or.inr ⟨rfl, _, by simp, hj⟩
  · obtain ⟨g, hg, hr⟩ := e2 k hk
    refine ⟨g, hg, K0.range hr ?_ (by simp)⟩
    have := World.block_lt_of_cell? w _ (hr 0 _ (by simp; rfl))
    exact this
  · rintro e W' ⟨hv, ⟨ys, rfl, ps, hps, hj⟩ | ⟨pre, _, ps, _, hj⟩⟩
    · exact ⟨hv, Or.inl ⟨ps, hps, hj⟩⟩
    · exact ⟨hv, Or.inr ⟨ps, trivial, hj⟩⟩

/-- What a Sync makes of a sector. -/
def syncStep (f : Nat → Row × Row) (x : Nat × Row) : Nat → Row × Row := upd f x.1 ((f x.1).1, (f x.1).1)

theorem syncF_is (l : List (Nat × Row)) : ∀ (f : Nat → Row × Row) (i : Nat), (l.foldl syncStep f) i = if ∃ x ∈ l, x.1 = i then ((f i).1, (f i).1) else f i := by
  induction l with
  | nil => intro f i; simp
  | cons x l ih =>
    intro f i
    rw [List.foldl_cons, ih]
    by_cases e : x.1 = i
    · subst e
      have h1 : syncStep f x x.1 = ((f x.1).1, (f x.1).1) := by simp [syncStep]
      rw [h1, if_pos (show ∃ y ∈ x :: l, y.1 = x.1 from ⟨x, by simp, rfl⟩)]
      split <;> rfl
    · have h1 : syncStep f x i = f i := upd_ne _ _ (fun h => e h.symm)
      rw [h1]
      by_cases h2 : ∃ y ∈ l, y.1 = i
      · rw [if_pos h2, if_pos (by obtain ⟨y, hy, e2⟩ := h2; exact ⟨y, by simp [hy], e2⟩)]
      · rw [if_neg h2, if_neg (by
          rintro ⟨y, hy, e2⟩
          rcases List.mem_cons.1 hy with rfl | hy
          · exact e e2
          · exact h2 ⟨y, hy, e2⟩)]

/-- What a Sync has become of a disk. -/
def DS.synced (s : DS) : DS := { s.spent with las := s.now, loose := [] }

theorem ownFrom_kps {β : Type} (S : List Nat) (B : Nat) (w : World) (hB : B ≤ w.heap.size) : OwnFrom B (fun (_ : β) W => KpS S B w W) := fun _ A B' row hs hg hr =>
  hs.trans ⟨hg.os, hg.tape, hg.output, hg.size, fun k hk _ => hg.block k (by have := hs.size; omega) (fun e => by have := (hr k e.symm).1; omega)⟩

theorem ownFrom_map {β : Type} (B m cnt : Nat) (hm : m < B) (n : β → Nat) (f : β → Nat → Row × Row) : OwnFrom B (fun s W => MapIs W m (n s) cnt (f s)) := fun s A B' row hs hg hr =>
  hs.block (hg.block m hs.lt (fun e => by have := (hr m e.symm).1; omega))

/-- The variable of a round: its block. -/
def VarAt (B b : Nat) (x : Nat × Row) (W : World) : Prop := B ≤ b ∧ W.heap[b]? = some (.cells (.int .i64 (x.1 : Int) :: x.2.cells).toArray 114 (0, 0))

theorem ownFrom_var (B b : Nat) (x : Nat × Row) (E : Prop) : OwnFrom B (fun (_ : Unit) W => E ∧ VarAt B b x W) := fun _ A B' row hs hg hr =>
  ⟨hs.1, hs.2.1, (hg.block b (lt_of_block hs.2.2) (fun e => by
    obtain ⟨_, o, ho, hc⟩ := hr b e.symm
    rw [hs.2.2] at ho
    injection ho with ho
    subst ho
    cases hc)).trans hs.2.2⟩

theorem ownFrom_ex {α β : Type} (B : Nat) (I : α → β → World → Prop) (h : ∀ a, OwnFrom B (I a)) : OwnFrom B (fun s W => ∃ a, I a s W) := fun s A B' row ⟨a, hs⟩ hg hr => ⟨a, h a s A B' row hs hg hr⟩

theorem noOut_then {K : Act → World → Prop} : ¬ LetsOut (Exit.then K (fun _ _ _ => False)) := by
  rintro ⟨a, w, h⟩
  exact h
theorem noOut_own {α : Type} {B : Nat} {Kp : World → World → Prop} {I : List α → World → Prop} {Ix : Code → List α → World → Prop} {xs : List α} {W : World} : ¬ LetsOut (ownPostG B Kp I Ix xs W) := by
  rintro ⟨a, w, h⟩
  exact h

theorem Keeps.putObj {S : List Nat} {a w : World} (h : Keeps S a w) {D : Nat} (hD : a.heap.size ≤ D) (o : Obj) : Keeps S a (w.putObj D o) :=
  ⟨h.os, h.tape, h.output, by simpa using h.size, fun k hk hn => by rw [World.putObj_heap_other (by omega)]; exact h.block k hk hn⟩

theorem agg_no (t : TypeId) (h : (match Tryz.prog.underlying t with | some (.struct _) | some (.array _ _) | none => false | _ => true) = true) (W : World) : (isAgg t).run Tryz.prog W = .ok false W := by
  cases hu : Tryz.prog.underlying t with
  | none => simp [hu] at h
  | some d =>
    unfold isAgg
    rw [Sem.run_bind, run_underlying hu W]
    cases d <;> simp_all

theorem exec_look {ρ : Operand → Value} {o : Oper} {w : World} {v u z : Value} (x y : Operand) (ho : o.op = .lookup 76 x y false) (hx : ρ x = u) (hy : ρ y = z) (h : (Instr.lookup 76 u z false).run Tryz.prog w = .ok v w) : (execOp ρ o).run Tryz.prog w = .ok (.value v) w := by
  simp only [execOp, ho, hx, hy, Sem.run_bind, h, Result.andThen_ok, Sem.run_pure]

theorem exec_fieldNow {ρ : Operand → Value} {o : Oper} {w : World} {a b : Row} (x : Operand) (ho : o.op = .field 116 x 0) (hx : ρ x = secV a b) : (execOp ρ o).run Tryz.prog w = .ok (.value (rowV a)) w := by
  simp only [execOp, ho, hx, Sem.run_bind, run_fieldNow a b w, Result.andThen_ok, Sem.run_pure]

theorem noOut_block {α : Type} {i B : Nat} {Kp : World → World → Prop} {I : List α → World → Prop} {Ix : Code → List α → World → Prop} {xs : List α} {W : World} : ¬ LetsOut (Exit.inBlock i (ownPostG B Kp I Ix xs W)) := by
  rintro ⟨a, w, h⟩
  exact h

set_option maxRecDepth 100000 in
set_option maxHeartbeats 4000000 in
theorem sync_in (n : Nat) (hn : 4 ≤ n) (w : World) (p m nn : Nat) (lv : Value) (s : DS) (H : DiskIn w p m lv nn s) (hc : 2 ≤ s.cnt) (hc2 : s.cnt ≤ 4160) (hd : s.dead = false) (hl : s.loose.length ≤ 1000000000) (hnn : nn ≤ 1000000000)
    (hfz : -9223372036854775808 ≤ s.fuse ∧ s.fuse ≤ 9223372036854775807) (hop : 0 ≤ s.ops ∧ s.ops ≤ 4611686018427387904) (hat : ∀ x ∈ s.loose, x.1 < s.cnt) (hf : s.fuse ≠ 0) :
    CallsIn Fence.wide n Tryz.prog 44 #[.pointer (some ⟨p, 0, none⟩)] w fun e w' => e = .returned (.int .i64 0) ∧
      (∃ n', n' ≤ nn + s.loose.length ∧ w'.heap[p]? = some (.cells (dcells { s.spent with loose := [] } m (.slice none 0 0)) 79 (0, 0)) ∧ MapIs w' m n' s.cnt (s.loose.foldl syncStep fun i => (s.now i, s.las i))) ∧ Keeps (foot p m lv) w w' := by
  have h1 : 1 ≤ n := by omega
  have hp := H.lt
  have c0 := H.c0
  have c5 := H.c5
  rw [hd] at c5
  have HH := hid H
  have SP := hid (fun W (D : DiskIn W p m lv nn s) => spend_ok W p m nn lv s D hfz hop hf)
  clear H hfz hop hf
  refine callsIn_of_wp_marks Tryz.func44 rfl trivial ?_ rfl
  simp only [Tryz.ntmps44, List.size_toArray, List.length_cons, List.length_nil, Nat.reduceAdd, Nat.reduceSub, Array.replicate_succ, Array.replicate_zero, List.push_toArray, List.append_toArray, List.nil_append, List.cons_append]
  gi_wp2
  have D1 := HH.out.keep ((Keeps.refl [] w).alloc (.cells #[.pointer (some ⟨p, 0, none⟩)] 24)) (by simp)
  have b1 : (w.alloc (.cells #[.pointer (some ⟨p, 0, none⟩)] 24)).cell? ⟨w.heap.size, 0, none⟩ = some (.pointer (some ⟨p, 0, none⟩)) := by
    rw [World.cell?_of_block (w := (w.alloc (.cells #[.pointer (some ⟨p, 0, none⟩)] 24))) rfl]
    exact cell_of_row _ _ 0 _ _ (0, 0) (heap_alloc_new w _)
  have K1 : Keeps [] w (w.alloc (.cells #[.pointer (some ⟨p, 0, none⟩)] 24)) := (Keeps.refl [] w).alloc _
  have z1 : w.heap.size < (w.alloc (.cells #[.pointer (some ⟨p, 0, none⟩)] 24)).heap.size := by simp
  generalize w.alloc (.cells #[.pointer (some ⟨p, 0, none⟩)] 24) = w1 at D1 b1 K1 z1 ⊢
  have c51 := D1.c5
  rw [hd] at c51
  refine ⟨trivial, (callsIn_wide.2 (well_any w1 p s.cnt (by omega) false D1.c0 c51)).mono ?_⟩
  rintro e w' ⟨rfl, rfl⟩
  have D1' := hid D1
  have K1' := hid K1
  clear D1 K1 c51
  gi_wp2
  refine ⟨trivial, (callsIn_wide.2 (SP.out w1 D1'.out)).mono ?_⟩
  rintro e w2 ⟨rfl, D2, K2⟩
  have b2 : w2.cell? ⟨w.heap.size, 0, none⟩ = some (.pointer (some ⟨p, 0, none⟩)) := by
    rw [World.cell?_of_block (w := w1) (K2.block _ z1 (by simp; omega))]; exact b1
  have z2 : w.heap.size < w2.heap.size := Nat.lt_of_lt_of_le z1 K2.size
  have D2' := hid D2
  have K2' : Hid (Keeps [p] w w2) := (K1'.out.mono (by simp)).trans K2
  clear D2 K2 b1 z1 D1' K1' SP c0 c5
  gi_wp2
  refine ⟨trivial, (callsIn_wide.2 (dleft_any w2 p none 0 0)).mono ?_⟩
  rintro e w3 ⟨rfl, rfl⟩
  gi_wp2
  have hm2 := D2'.out.map.lt
  have hp2 := D2'.out.lt
  have KA : Keeps [] w2 ((w2.alloc (.cells #[.pointer (some ⟨p, 0, none⟩)] 24)).alloc (.cells #[.slice none 0 0] 22)) := ((Keeps.refl [] w2).alloc _).alloc _
  have D3 := D2'.out.keep KA (by simp)
  have z3 : ((w2.alloc (.cells #[.pointer (some ⟨p, 0, none⟩)] 24)).alloc (.cells #[.slice none 0 0] 22)).heap.size = w2.heap.size + 2 := by simp
  have q1 : ((w2.alloc (.cells #[.pointer (some ⟨p, 0, none⟩)] 24)).alloc (.cells #[.slice none 0 0] 22)).cell? ⟨w2.heap.size, 0, none⟩ = some (.pointer (some ⟨p, 0, none⟩)) :=
    cell_of_row _ _ 0 _ _ (0, 0) (heap_alloc2_old w2 _ _)
  have q2 : ((w2.alloc (.cells #[.pointer (some ⟨p, 0, none⟩)] 24)).alloc (.cells #[.slice none 0 0] 22)).cell? ⟨w2.heap.size + 1, 0, none⟩ = some (.slice none 0 0) :=
    cell_of_row _ _ 0 _ _ (0, 0) (heap_alloc2_new w2 _ _)
  have b3 : ((w2.alloc (.cells #[.pointer (some ⟨p, 0, none⟩)] 24)).alloc (.cells #[.slice none 0 0] 22)).cell? ⟨w.heap.size, 0, none⟩ = some (.pointer (some ⟨p, 0, none⟩)) := by
    rw [World.cell?_of_block (KA.block _ z2 (by simp))]; exact b2
  generalize (w2.alloc (.cells #[.pointer (some ⟨p, 0, none⟩)] 24)).alloc (.cells #[.slice none 0 0] 22) = w3 at KA D3 z3 q1 q2 b3 ⊢
  have c3 := D3.c2
  have D3' := hid D3
  have HS := hid (left_stops (n - 1) (by omega) w2.heap.size (w2.heap.size + 1) p w3.heap.size [m] s.loose [] hl (by simp) w3 (Nat.le_refl _) q1 ⟨_, q2, RowAt.nil _, by intro _ _ _ _ h; simp at h, by intro b hb; cases hb⟩
    ⟨lv, c3, looseAt_of D3.row, fun b hb => ⟨(D3.row.lt b hb).2, fun hm => D3.ml (by rw [hb]; simpa using hm)⟩⟩ (by refine ⟨by omega, by simp; omega⟩) (fun x => x.1 < s.cnt) hat)
  have hw3 : w.heap.size < w3.heap.size := by omega
  have hmw := HH.out.map.lt
  have K3 : Hid (Keeps [p] w w3) := K2'.out.trans (KA.mono (by simp))
  clear KA D3 D2' q1 q2 c3 z2 b2 K2'
  refine wpIn_rangeFunc_ownH rfl h1 (gf := 91) (lb := #[.pointer (some ⟨w2.heap.size, 0, none⟩), .pointer (some ⟨w2.heap.size + 1, 0, none⟩)]) rfl trivial (fun _ _ => rfl) HS.out KpS.trans (KpS.putObj (Nat.le_refl _)) (Below.refl _ _) (fun _ => rfl)
    (fun pre W => KpS [m] w3.heap.size w3 W ∧ MapIs W m (nn + pre.length) s.cnt ((pre.map (·.1)).foldl syncStep fun i => (s.now i, s.las i)))
    (fun _ _ _ => False) ((ownFrom_kps _ _ _ (Nat.le_refl _)).and (ownFrom_map _ m s.cnt (by omega) _ _)) (fun _ _ _ _ _ hs _ _ => hs) ⟨KpS.refl _ _ _, D3'.out.map⟩
    (fun x a' W => ∃ b, a' = { tmps := #[.pointer (some ⟨p, 0, none⟩), .pointer (some ⟨w.heap.size, 0, none⟩), .int .i64 0, .int .i64 0, .pointer (some ⟨b, 0, none⟩), .pointer (some ⟨p, 0, none⟩), .bool true, .bool false, .pointer (some ⟨p, 0, none⟩), .int .i64 0, .int .i64 0, .bool false, undef, .pointer (some ⟨p, 0, none⟩), .func (.func 91) #[] #[.pointer (some ⟨w2.heap.size, 0, none⟩), .pointer (some ⟨w2.heap.size + 1, 0, none⟩)], wrV x.1.1 x.1.2, undef, undef, undef, undef, undef, undef, undef, undef, undef, undef, undef, undef, undef, undef, undef, undef], defers := [] } ∧ VarAt w3.heap.size b x.1 W)
    (fun x a' => ownFrom_ex _ _ fun b => ownFrom_var _ b x.1 _) ?assign ?body ?done ?stop
  case assign =>
    rintro l pre x W K ⟨hK, hM⟩ hC
    refine round_plain (by kernel_rfl) noOut_then ?_
    simp only [List.zip_toArray, List.zip_cons_cons, List.zip_nil_right, List.foldl_toArray, List.foldl_cons, List.foldl_nil, List.setIfInBounds_toArray, List.set_cons_zero, List.set_cons_succ]
    show wpList _ _ _ _ { tmps := #[.pointer (some ⟨p, 0, none⟩), .pointer (some ⟨w.heap.size, 0, none⟩), .int .i64 0, .int .i64 0, undef, .pointer (some ⟨p, 0, none⟩), .bool true, .bool false, .pointer (some ⟨p, 0, none⟩), .int .i64 0, .int .i64 0, .bool false, undef, .pointer (some ⟨p, 0, none⟩), .func (.func 91) #[] #[.pointer (some ⟨w2.heap.size, 0, none⟩), .pointer (some ⟨w2.heap.size + 1, 0, none⟩)], wrV x.1.1 x.1.2, undef, undef, undef, undef, undef, undef, undef, undef, undef, undef, undef, undef, undef, undef, undef, undef], defers := [] } W
    refine wpList_allocWr rfl rfl ?_
    refine wpList_storeWrNew rfl _ _ rfl W _ x.1.2 _ (x.1.1 : Int) rfl _ rfl rfl rfl ?_
    refine wpList_nil ?_
    have hs := hK.size
    exact hC _ _ ⟨by simp, fun k o _ hk _ => (Below.heap_alloc _ _ _ (lt_of_block hk)).trans hk⟩ ((KpS.refl _ _ _).alloc (by omega) _) ⟨hK.alloc (by omega) _, hM.block (Below.heap_alloc _ _ _ hM.lt)⟩
      ⟨W.heap.size, rfl, by omega, heap_alloc_new W _⟩
  case body =>
    rintro l pre x a' W hl2 _ ⟨hK, hM⟩ ⟨b, rfl, hv⟩ hlen
    refine wpIn_block (round_region (by kernel_rfl) (by kernel_rfl) noOut_block ?_)
    refine wpAny_of_held (S := KpS [m] W.heap.size W.drew) _ _ _ _ ?_
    have hs := hK.size
    have hml := D3'.out.map.lt
    have cb : ∀ W1, KpS [m] W.heap.size W.drew W1 → W1.cell? ⟨w.heap.size, 0, none⟩ = some (.pointer (some ⟨p, 0, none⟩)) := fun W1 h => h.cell (by rw [World.cell?_drew]; exact hK.cell b3 (by omega) (by simp; omega)) (by omega) (by simp; omega)
    have cp : ∀ W1, KpS [m] W.heap.size W.drew W1 → W1.cell? ⟨p, 1, none⟩ = some (.map (some m)) := fun W1 h => h.cell (by rw [World.cell?_drew]; exact hK.cell D3'.out.c1 (by omega) (by simpa using fun e => D3'.out.pm e.symm)) (by omega) (by simpa using fun e => D3'.out.pm e.symm)
    have hbl := lt_of_block hv.2
    have hbm : b ≠ m := by have := hv.1; omega
    have ca : ∀ W1, KpS [m] W.heap.size W.drew W1 → W1.cell? ⟨b, 0, none⟩ = some (.int .i64 (x.1.1 : Int)) := fun W1 h => h.cell (by rw [World.cell?_drew]; exact cell_of_row W b 0 _ _ (0, 0) hv.2) hbl (by simpa using hbm)
    have ag : ∀ t, (match Tryz.prog.underlying t with | some (.struct _) | some (.array _ _) | none => false | _ => true) = true → ∀ W, (isAgg t).run Tryz.prog W = .ok false W := agg_no
    refine held_take (i := 0) (v := .pointer (some ⟨p, 0, none⟩)) rfl (by kernel_rfl) (by kernel_rfl) (by kernel_rfl) (fun _ _ _ h => h) rfl (fun W1 hW1 => exec_load _ _ _ _ rfl rfl (run_loadCell W1 _ _ _ (cb W1 hW1) (ag _ (by kernel_rfl)))) (KpS.refl _ _ _) ?_
    simp only [Act.put, List.setIfInBounds_toArray, List.set_cons_zero, List.set_cons_succ]
    refine held_take (i := 1) (v := .pointer (some ⟨b, 0, none⟩)) rfl (by kernel_rfl) (by kernel_rfl) (by kernel_rfl) (fun _ _ _ h => h) rfl (fun W1 hW1 => by go_simp) (KpS.refl _ _ _) ?_
    simp only [Act.put, List.setIfInBounds_toArray, List.set_cons_zero, List.set_cons_succ]
    refine held_take (i := 2) (v := .int .i64 (x.1.1 : Int)) rfl (by kernel_rfl) (by kernel_rfl) (by kernel_rfl) (fun _ _ _ h => h) rfl (fun W1 hW1 => exec_load _ _ _ _ rfl rfl (run_loadCell W1 _ _ _ (ca W1 hW1) (ag _ (by kernel_rfl)))) (KpS.refl _ _ _) ?_
    simp only [Act.put, List.setIfInBounds_toArray, List.set_cons_zero, List.set_cons_succ]
    refine held_take (i := 3) (v := .pointer (some ⟨p, 0, none⟩)) rfl (by kernel_rfl) (by kernel_rfl) (by kernel_rfl) (fun _ _ _ h => h) rfl (fun W1 hW1 => exec_load _ _ _ _ rfl rfl (run_loadCell W1 _ _ _ (cb W1 hW1) (ag _ (by kernel_rfl)))) (KpS.refl _ _ _) ?_
    simp only [Act.put, List.setIfInBounds_toArray, List.set_cons_zero, List.set_cons_succ]
    refine held_take (i := 4) (v := .pointer (some ⟨p, 0, none⟩)) rfl (by kernel_rfl) (by kernel_rfl) (by kernel_rfl) (fun _ _ _ h => h) rfl (fun W1 hW1 => by go_simp) (KpS.refl _ _ _) ?_
    simp only [Act.put, List.setIfInBounds_toArray, List.set_cons_zero, List.set_cons_succ]
    refine held_take (i := 5) (v := .pointer (some ⟨p, 1, none⟩)) rfl (by kernel_rfl) (by kernel_rfl) (by kernel_rfl) (fun _ _ _ h => h) rfl (fun W1 hW1 => by go_simp) (KpS.refl _ _ _) ?_
    simp only [Act.put, List.setIfInBounds_toArray, List.set_cons_zero, List.set_cons_succ]
    refine held_take (i := 6) (v := .map (some m)) rfl (by kernel_rfl) (by kernel_rfl) (by kernel_rfl) (fun _ _ _ h => h) rfl (fun W1 hW1 => exec_load _ _ _ _ rfl rfl (run_loadCell W1 _ _ _ (cp W1 hW1) (ag _ (by kernel_rfl)))) (KpS.refl _ _ _) ?_
    simp only [Act.put, List.setIfInBounds_toArray, List.set_cons_zero, List.set_cons_succ]
    refine held_take (i := 7) (v := .pointer (some ⟨b, 0, none⟩)) rfl (by kernel_rfl) (by kernel_rfl) (by kernel_rfl) (fun _ _ _ h => h) rfl (fun W1 hW1 => by go_simp) (KpS.refl _ _ _) ?_
    simp only [Act.put, List.setIfInBounds_toArray, List.set_cons_zero, List.set_cons_succ]
    refine held_take (i := 8) (v := .int .i64 (x.1.1 : Int)) rfl (by kernel_rfl) (by kernel_rfl) (by kernel_rfl) (fun _ _ _ h => h) rfl (fun W1 hW1 => exec_load _ _ _ _ rfl rfl (run_loadCell W1 _ _ _ (ca W1 hW1) (ag _ (by kernel_rfl)))) (KpS.refl _ _ _) ?_
    simp only [Act.put, List.setIfInBounds_toArray, List.set_cons_zero, List.set_cons_succ]
    have hM1 : MapIs W.drew m (nn + pre.length) s.cnt ((pre.map (·.1)).foldl syncStep fun i => (s.now i, s.las i)) := hM.block rfl
    generalize hF : (pre.map (·.1)).foldl syncStep (fun i => (s.now i, s.las i)) = f at hM hM1
    refine held_do (i := 9) (by kernel_rfl) rfl rfl (wp_value (exec_look _ _ rfl rfl rfl (hM1.look x.1.1 (by omega))) ⟨KpS.refl _ _ _, ?_⟩)
    simp only [Act.put, List.setIfInBounds_toArray, List.set_cons_zero, List.set_cons_succ]
    refine held_take (i := 10) (v := rowV (f x.1.1).1) rfl (by kernel_rfl) (by kernel_rfl) (by kernel_rfl) (fun _ _ _ h => h) rfl (fun W1 hW1 => exec_fieldNow _ rfl rfl) (KpS.refl _ _ _) ?_
    simp only [Act.put, List.setIfInBounds_toArray, List.set_cons_zero, List.set_cons_succ]
    refine held_do (i := 11) (by kernel_rfl) rfl rfl (wp_enter (f := 76) (args := #[rowV (f x.1.1).1]) (by go_simp) (lasting_any _ _) ?_)
    rintro e W1 ⟨rfl, kl⟩
    have k1 : KpS [m] W.heap.size W.drew W1 := (KpS.refl _ _ _).keeps kl (Nat.le_refl _) (by simp)
    refine ⟨_, rfl, k1, ?_⟩
    simp only [Act.put, List.setIfInBounds_toArray, List.set_cons_zero, List.set_cons_succ]
    refine held_do (i := 12) (by kernel_rfl) rfl rfl (wp_enter (f := 74) (args := #[.pointer (some ⟨p, 0, none⟩), .int .i64 (x.1.1 : Int), secV (f x.1.1).1 (f x.1.1).1]) (by go_simp) (keep_any W1 p m _ s.cnt f (cp W1 k1) (hM1.keep kl (by simp)) x.1.1 x.2 (by omega) (by omega) _ _) ?_)
    rintro e W2 ⟨rfl, hM2, k2⟩
    have kk : KpS [m] W.heap.size W.drew W2 := k1.keeps k2 k1.size (fun i hi _ => hi)
    refine ⟨_, rfl, kk, wpAnyH_done (by kernel_rfl) ?_ _⟩
    have kw : KpS [m] w3.heap.size W W2 := ⟨kk.os, kk.tape, kk.output, kk.size, fun k hk hs' => kk.block k (by omega) hs'⟩
    refine ⟨⟨kk.size, fun k o hk h0 _ => (kk.block k (lt_of_block h0) (by simp; omega)).trans h0⟩, kw, hK.trans kw, ?_⟩
    simp only [List.map_append, List.map_cons, List.map_nil, List.foldl_append, List.foldl_cons, List.foldl_nil, hF, List.length_append, List.length_cons, List.length_nil]
    exact hM2
  case done =>
    rintro D ys W hD hys ⟨hK, hM⟩ hDD
    have cb := hK.cell b3 hw3 (by simp; omega)
    have B2 : W.heap[p]? = some (.cells (dcells s.spent m lv) 79 (0, 0)) := by rw [hK.block p (by omega) (by simpa using fun e => D3'.out.pm e.symm)]; exact D3'.out.blk
    have c2 : W.cell? ⟨p, 2, none⟩ = some lv := by simp [World.cell?, B2, dcells]
    have f2 : W.frozen? ⟨p, 2, none⟩ = false := by simp [World.frozen?, B2]
    have hDp : D ≠ p := by omega
    have HK := hid hK
    have HM := hid hM
    have HD := hid hDD
    have HB := hid B2
    have hsz := hK.size
    rw [hys, keptBy_nil] at HM
    clear hK hM hDD B2
    gi_wp2
    have hD2 : (W.setCell ⟨p, 2, none⟩ (.slice none 0 0)).heap[D]? = some (.deferred (some [])) := by rw [Below.heap_setCell _ _ _ _ hDp]; exact HD.out
    refine ⟨by simp, .inl ⟨_, _, rfl, run_takeDeferred hD2, ?_⟩⟩
    refine ⟨_, results_tmp rfl _ _ _, rfl, ⟨_, ?_, ?_, (HM.out.block (Below.heap_setCell _ _ _ _ D3'.out.pm)).block (World.putObj_heap_other (by omega))⟩, ?_⟩
    · have := congrArg List.length hys
      rw [keptBy_nil, List.length_map] at this
      omega
    · rw [World.putObj_heap_other (by omega), heap_setCell_same _ _ _ _ _ _ HB.out]
      simp [dcells]
    · exact (((K3.out.mono (by intro k _ hk; simp at hk; simp [foot, hk])).trans (HK.out.toKeeps.mono (by intro k _ hk; simp at hk; simp [foot, hk]))).setCell (Or.inl (by simp [foot])) _).putObj (by have := K3.out.size; omega) _
  case stop =>
    rintro D c pre W _ _ h _
    exact h.elim


theorem sync_dead (w : World) (p m n : Nat) (lv : Value) (s : DS) (H : DiskIn w p m lv n s) (hc : 2 ≤ s.cnt) (hd : s.dead = true) :
    Calls Tryz.prog 44 #[.pointer (some ⟨p, 0, none⟩)] w fun e w' => e = .returned (.int .i64 14) ∧ Keeps [] w w' := by
  have c0 := H.c0
  have c5 := H.c5
  have hp := H.lt
  rw [hd] at c5
  go_enter Tryz.func44, Tryz.ntmps44
  go_wp2_with (first | (go_at_call 71; refine (well_any _ p s.cnt (by omega) true (by rw [World.cell?_of_block (Below.heap_alloc _ _ _ hp)]; exact c0) (by rw [World.cell?_of_block (Below.heap_alloc _ _ _ hp)]; exact c5)).mono ?_; rintro e w' ⟨rfl, rfl⟩) | fail)
  go_ret
  exact ⟨rfl, (Keeps.refl _ _).alloc _⟩

theorem sync_dies (w : World) (p m n : Nat) (lv : Value) (s : DS) (H : DiskIn w p m lv n s) (hc : 2 ≤ s.cnt) (hd : s.dead = false)
    (hfz : -9223372036854775808 ≤ s.fuse ∧ s.fuse ≤ 9223372036854775807) (hop : 0 ≤ s.ops ∧ s.ops ≤ 4611686018427387904) (hf : s.fuse = 0) :
    Calls Tryz.prog 44 #[.pointer (some ⟨p, 0, none⟩)] w fun e w' => e = .returned (.int .i64 14) ∧ DiskIn w' p m lv n { s with dead := true } ∧ Keeps [p] w w' := by
  have c0 := H.c0
  have c5 := H.c5
  have hp := H.lt
  rw [hd] at c5
  have HH := hid H
  have SP := hid (fun W (D : DiskIn W p m lv n s) => spend_dies W p m n lv s D hfz hop hf)
  clear H hfz hop hf
  have b1 : (w.alloc (.cells #[.pointer (some ⟨p, 0, none⟩)] 24)).cell? ⟨w.heap.size, 0, none⟩ = some (.pointer (some ⟨p, 0, none⟩)) := cell_of_row _ _ 0 _ _ (0, 0) (heap_alloc_new w _)
  go_enter Tryz.func44, Tryz.ntmps44
  go_wp2_with (first | (go_at_call 71; refine (well_any _ p s.cnt (by omega) false (by rw [World.cell?_of_block (Below.heap_alloc _ _ _ hp)]; exact c0) (by rw [World.cell?_of_block (Below.heap_alloc _ _ _ hp)]; exact c5)).mono ?_; rintro e w' ⟨rfl, rfl⟩) | (go_at_call 73; refine (SP.out _ (HH.out.keep ((Keeps.refl [] w).alloc _) (by simp))).mono ?_; rintro e w' ⟨rfl, g1, g2⟩; have D2 := hid g1; have K2 := hid g2; clear g1 g2) | fail)
  go_ret
  exact ⟨rfl, D2.out, (((Keeps.refl [p] w).alloc _)).trans K2.out⟩

def syncE (s : DS) : Int := if s.dead then 14 else if s.fuse = 0 then 14 else 0
def syncS (s : DS) : DS := if s.dead then s else if s.fuse = 0 then { s with dead := true } else s.synced

theorem synced_map (s : DS) (k : Nat) (h : s.Ok k) (i : Nat) : (s.loose.foldl syncStep fun i => (s.now i, s.las i)) i = (s.now i, s.now i) := by
  rw [syncF_is]
  split
  · rfl
  · rename_i hn
    rw [h.eqs i (fun x hx e => hn ⟨x, hx, e⟩)]

/-- Sync. -/
theorem sync_any (w : World) (p : Nat) (s : DS) (F : List Nat) (K : Nat) (H : DiskAt w p s F K) (hK : K ≤ 1000000000) :
    Calls Tryz.prog 44 #[.pointer (some ⟨p, 0, none⟩)] w fun e w' => e = .returned (.int .i64 (syncE s)) ∧ ∃ F', DiskAt w' p (syncS s) F' (K + 2) ∧ Keeps F w w' ∧ Fresh w F F' := by
  have H' := H
  obtain ⟨ok, m, lv, n, hi, rfl, hk⟩ := H
  have fr : Fresh w (foot p m lv) (foot p m lv) := fun b hb => Or.inl hb
  by_cases hd : s.dead = true
  · have e1 : syncE s = 14 := by simp [syncE, hd]
    have e2 : syncS s = s := by simp [syncS, hd]
    rw [e1, e2]
    refine (sync_dead w p m n lv s hi ok.lo hd).mono ?_
    rintro e w' ⟨rfl, kp⟩
    exact ⟨rfl, _, (H'.keep kp (by simp)).mono (by omega), kp.mono (by simp), fr⟩
  · have hd' : s.dead = false := by simpa using hd
    have hop := ok.op
    by_cases hf : s.fuse = 0
    · have e1 : syncE s = 14 := by simp [syncE, hd', hf]
      have e2 : syncS s = { s with dead := true } := by simp [syncS, hd', hf]
      rw [e1, e2]
      refine (sync_dies w p m n lv s hi ok.lo hd' ok.fz ⟨hop.1, by omega⟩ hf).mono ?_
      rintro e w' ⟨rfl, D, kp⟩
      exact ⟨rfl, _, ⟨⟨ok.lo, ok.hi, ok.fz, ⟨hop.1, by have := hop.2; simp only; omega⟩, ok.at_, ok.eqs⟩, m, lv, n, D, rfl, by simp only; omega⟩, kp.mono (by intro k _ hk; simp at hk; simp [foot, hk]), fr⟩
    · have e1 : syncE s = 0 := by simp [syncE, hd', hf]
      have e2 : syncS s = s.synced := by simp [syncS, hd', hf]
      rw [e1, e2]
      refine (callsIn_wide.1 (sync_in 9 (by omega) w p m n lv s hi ok.lo ok.hi hd' (by omega) (by omega) ok.fz ⟨hop.1, by omega⟩ ok.at_ hf)).mono ?_
      rintro e w' ⟨rfl, ⟨n', hn', hb, hM⟩, kp⟩
      refine ⟨rfl, foot p m (.slice none 0 0), ⟨⟨ok.lo, ok.hi, ?_, ⟨?_, ?_⟩, by simp [DS.synced], fun i _ => rfl⟩, m, _, n', ⟨hb, ?_, ?_⟩, rfl, ?_⟩, kp, ?_⟩
      · have := ok.fz
        simp only [DS.synced, DS.spent]; split <;> omega
      · simp only [DS.synced, DS.spent]; omega
      · simp only [DS.synced, DS.spent]; omega
      · have e : (s.loose.foldl syncStep fun i => (s.now i, s.las i)) = fun i => (s.now i, s.now i) := funext (synced_map s K ok)
        rw [e] at hM
        exact hM
      · exact World.ownsRow_nil _ _ _ _
      · simp only [DS.synced, List.length_nil]; omega
      · intro b hb
        refine Or.inl ?_
        simp only [foot, Value.ownBlock, Option.toList, List.mem_cons, List.not_mem_nil, or_false] at hb ⊢
        rcases hb with hb | hb
        · exact Or.inl hb
        · exact Or.inr (Or.inl hb)

end Go.Proofs.YtnhcfkiejldicaaGreat
