/- LyXa, LyXb, LyXc, LyXe, LyJoinsW. -/
import Derived.Test.YtoglcohdanpciaaLyJ8
import Derived.Test.YtoglcohdanpciaaLyJ4
import Derived.Test.YtoglcohdanpciaaLyJ5
/- layout: what the reference's read has while it reads: rows, and which are missing. -/
namespace Go.Proofs.Ytoglcohdanpciaa
open Go.RowKit
set_option maxRecDepth 100000
set_option linter.unusedSimpArgs false
set_option linter.unusedVariables false

def intsN (ms : List Nat) : List Value := ms.map fun (i : Nat) => Value.int .i64 (i : Int)
/-- Rows, and numbers of those that are missing, both of the call's own. -/
structure Rd13 (w0 w : World) (v mv : Value) (ls : List (List Int)) (ms : List Nat) : Prop where
  own : ∃ vs, w.ownsRow w0.heap.size 34 1 v ls.length vs ∧ vs.length = ls.length ∧ ∀ j (h : j < vs.length), RowAt w vs[j] (ls.getD j []) ∧ Off v.ownBlock.toList vs[j] (ls.getD j []) ∧ Off mv.ownBlock.toList vs[j] (ls.getD j [])
  few : ∀ l ∈ ls, l.length ≤ 140737488351232
  kept : Keeps [] w0 w
  mis : w.ownsRow w0.heap.size 3 1 mv ms.length (intsN ms)
  ap : ∀ g, v.ownBlock = some g → mv.ownBlock ≠ some g
theorem Rd13.start (w0 w : World) (k : Keeps [] w0 w) : Rd13 w0 w (.slice none 0 0) (.slice none 0 0) [] [] := ⟨⟨[], World.ownsRow_nil _ _ _ _, rfl, fun j h => absurd h (Nat.not_lt_zero _)⟩, by simp, k, World.ownsRow_nil _ _ _ _, by simp [Value.ownBlock]⟩
theorem Rd13.grow {w0 w : World} {v mv : Value} {ls : List (List Int)} {ms : List Nat} (h : Rd13 w0 w v mv ls ms) : GrowAt w0 w v ls := by
  obtain ⟨vs, ho, hl, hr⟩ := h.own
  exact ⟨⟨vs, ho, hl, fun j hj => ⟨(hr j hj).1, (hr j hj).2.1⟩⟩, h.few, h.kept⟩
theorem Rd13.later {w0 w w1 : World} {v mv : Value} {ls : List (List Int)} {ms : List Nat} (h : Rd13 w0 w v mv ls ms) (k : Keeps [] w w1) : Rd13 w0 w1 v mv ls ms := by
  obtain ⟨vs, ho, hl, hr⟩ := h.own
  exact ⟨⟨vs, own_keeps ho k, hl, fun j hj => ⟨(hr j hj).1.keep k (by intro _ _ _ _ _; simp), (hr j hj).2⟩⟩, h.few, h.kept.trans k, own_keeps h.mis k, h.ap⟩
theorem row_block_lt {w : World} {v : Value} {zs : List Int} (h : RowAt w v zs) {ad : Addr} {m c : Nat} (e : v = .slice (some ad) m c) (hne : zs ≠ []) : ad.block < w.heap.size := by
  have hpos : 0 < zs.length := List.length_pos_iff.2 hne
  obtain ⟨g2, off, cap, he2, _, hc2⟩ := h.open hpos
  rw [e] at he2
  injection he2 with he2 _ _
  injection he2 with he2
  subst he2
  exact World.block_lt_of_cell? _ _ (hc2 0 hpos)
theorem off_newrow {w w1 : World} {v v' r : Value} {zs : List Int} (hnr : NewRow w1 v v') (hr : RowAt w r zs) (k : Keeps [] w w1) (h : Off v.ownBlock.toList r zs) : Off v'.ownBlock.toList r zs := by
  rcases hnr with e | e
  · rw [e]; exact h
  · intro ad m c he hne hm
    have hb := e ad.block (by simpa using hm)
    have := row_block_lt hr he hne
    have := k.size
    omega
/-- A head is appended. -/
theorem Rd13.row {w0 w w1 : World} {v mv r : Value} {ls : List (List Int)} {ms : List Nat} {zs : List Int} (h : Rd13 w0 w v mv ls ms) (k : Keeps [] w w1) (hr : RowAt w1 r zs) (hnew : ∀ ad m c, r = .slice (some ad) m c → w.heap.size ≤ ad.block) (hl : zs.length ≤ 140737488351232) (hn : ls.length ≤ 1000) :
    ∃ a' c' w2, (Builtin.append_ #[26, 26] 26 #[v, .slice (some ⟨w1.heap.size, 0, none⟩) 1 1]).run Try.prog (w1.alloc (.cells #[r] 34)) = .ok (.slice a' (ls.length + 1) c') w2 ∧ Rd13 w0 w2 (.slice a' (ls.length + 1) c') mv (ls ++ [zs]) ms := by
  obtain ⟨vs, ho, hlv, hrow⟩ := h.own
  have ka : Keeps [] w1 (w1.alloc (.cells #[r] 34)) := (Keeps.refl [] _).alloc _
  have k1 := k.trans ka
  obtain ⟨ra, rc, rfl⟩ : ∃ a c, r = .slice a zs.length c := by obtain ⟨a, c, e, _⟩ := hr; exact ⟨a, c, e⟩
  have hcell : (w1.alloc (.cells #[.slice ra zs.length rc] 34)).cell? ⟨w1.heap.size, 0, none⟩ = some (.slice ra zs.length rc) := by
    rw [(five_cells (heap_alloc_new w1 _) 0).1]; rfl
  obtain ⟨a', c', w2, hrun, ho2, hg, hnr⟩ := run_append_head _ w0.heap.size v ls.length vs (own_keeps ho k1) w1.heap.size _ hcell rfl hn (by have := h.kept.size; have := k1.size; omega)
  have hK : Keeps v.ownBlock.toList (w1.alloc (.cells #[.slice ra zs.length rc] 34)) w2 := (Keeps.refl _ _).grown hg (by intro g e; left; simp [e])
  have hown : ∀ b, v.ownBlock = some b → b < w.heap.size := fun b hb => (ho.lt b hb).2
  have hmown : ∀ b, mv.ownBlock = some b → b < w.heap.size := fun b hb => (h.mis.lt b hb).2
  have hoff : ∀ (x : Value), (∀ b, x.ownBlock = some b → b < w.heap.size) → Off x.ownBlock.toList (.slice ra zs.length rc) zs := fun x hx ad m c he hne hm => by
    have h1 := hnew ad m c he
    have h2 := hx ad.block (by simpa using hm)
    omega
  refine ⟨a', c', w2, hrun, ⟨vs ++ [.slice ra zs.length rc], by rw [List.length_append, List.length_singleton]; exact ho2, by simp [hlv], fun j hj => ?_⟩, fun l hl' => ?_, (h.kept.trans k1).grown hg (fun g e => Or.inr (by have := (ho.lt g e).1; omega)), ?_, ?_⟩
  · by_cases hj' : j < vs.length
    · obtain ⟨q1, q2, q3⟩ := hrow j hj'
      rw [List.getElem_append_left hj', List.getD_eq_getElem?_getD, List.getElem?_append_left (by omega), ← List.getD_eq_getElem?_getD]
      have q1' := q1.keep k1 (by intro _ _ _ _ _; simp)
      exact ⟨q1'.keep hK q2, off_newrow hnr q1' (Keeps.refl _ _) q2, q3⟩
    · have hje : j = vs.length := by simp at hj; omega
      subst hje
      rw [List.getElem_append_right (Nat.le_refl _), List.getD_eq_getElem?_getD, List.getElem?_append_right (by omega), show vs.length - ls.length = 0 by omega]
      simp only [Nat.sub_self, List.getElem_cons_zero, List.getElem?_cons_zero, Option.getD_some]
      have hra := hr.keep ka (by intro _ _ _ _ _; simp)
      exact ⟨hra.keep hK (hoff v hown), off_newrow hnr hra (Keeps.refl _ _) (hoff v hown), hoff mv hmown⟩
  · rcases List.mem_append.1 hl' with h1 | h1
    · exact h.few l h1
    · simp at h1; rw [h1]; exact hl
  · exact ownsRow_kept' (own_keeps h.mis k1) hK (fun g hg hm => h.ap g (by simpa using hm) hg)
  · intro g hg' hm
    rcases hnr with e | e
    · rw [e] at hg'; exact h.ap g hg' hm
    · have := e g hg'
      have := hmown g hm
      have := k1.size
      omega
/-- A number is appended. -/
theorem Rd13.miss {w0 w : World} {v mv : Value} {ls : List (List Int)} {ms : List Nat} (h : Rd13 w0 w v mv ls ms) (i : Nat) (hn : ms.length ≤ 1000) :
    ∃ a' c' w2, (Builtin.append_ #[178, 178] 178 #[mv, .slice (some ⟨w.heap.size, 0, none⟩) 1 1]).run Try.prog (w.alloc (.cells #[.int .i64 (i : Int)] 3)) = .ok (.slice a' (ms.length + 1) c') w2 ∧ Rd13 w0 w2 v (.slice a' (ms.length + 1) c') ls (ms ++ [i]) := by
  obtain ⟨vs, ho, hlv, hrow⟩ := h.own
  have ka : Keeps [] w (w.alloc (.cells #[.int .i64 (i : Int)] 3)) := (Keeps.refl [] _).alloc _
  have hcell : (w.alloc (.cells #[.int .i64 (i : Int)] 3)).cell? ⟨w.heap.size, 0, none⟩ = some (.int .i64 (i : Int)) := by
    rw [(five_cells (heap_alloc_new w _) 0).1]; rfl
  obtain ⟨a', c', w2, hrun, ho2, hg, hnr⟩ := append_int _ w0.heap.size 178 mv (intsN ms) ms.length (own_keeps h.mis ka) (i : Int) w.heap.size hcell hn (by have := h.kept.size; have := ka.size; omega)
  have hK : Keeps mv.ownBlock.toList (w.alloc (.cells #[.int .i64 (i : Int)] 3)) w2 := (Keeps.refl _ _).grown hg (by intro g e; left; simp [e])
  have hown : ∀ b, v.ownBlock = some b → b < w.heap.size := fun b hb => (ho.lt b hb).2
  refine ⟨a', c', w2, hrun, ⟨vs, ownsRow_kept' (own_keeps ho ka) hK (fun g hg hm => h.ap g hg (by simpa using hm)), hlv, fun j hj => ?_⟩, h.few, (h.kept.trans ka).grown hg (fun g e => Or.inr (by have := (h.mis.lt g e).1; omega)), ?_, ?_⟩
  · obtain ⟨q1, q2, q3⟩ := hrow j hj
    have q1' := q1.keep ka (by intro _ _ _ _ _; simp)
    exact ⟨q1'.keep hK q3, q2, off_newrow hnr q1' (Keeps.refl _ _) q3⟩
  · have e : intsN (ms ++ [i]) = intsN ms ++ [.int .i64 (i : Int)] := by simp [intsN]
    rw [e, List.length_append, List.length_singleton]; exact ho2
  · intro g hg' hm
    rcases hnr with e | e
    · rw [e] at hm; exact h.ap g hg' hm
    · have := e g hm
      have := hown g hg'
      have := ka.size
      omega
theorem res4_13 {fn : Func} {p q r s : Tmp} (hr : fn.results = #[.tmp p, .tmp q, .tmp r, .tmp s]) {tmps : Array Value} {w : World} {x y z u : Value} (hp : tmps.getD p undef = x) (hq : tmps.getD q undef = y) (hz : tmps.getD r undef = z) (hu : tmps.getD s undef = u) :
    (results fn tmps).run Try.prog w = .ok (.tuple #[x, y, z, u]) w := by
  have hp' : tmps[p]?.getD undef = x := by simpa using hp
  have hq' : tmps[q]?.getD undef = y := by simpa using hq
  have hz' : tmps[r]?.getD undef = z := by simpa using hz
  have hu' : tmps[s]?.getD undef = u := by simpa using hu
  simp [results, hr, hp', hq', hz', hu']
theorem res3_13 {fn : Func} {p q r : Tmp} (hr : fn.results = #[.tmp p, .tmp q, .tmp r]) {tmps : Array Value} {w : World} {x y z : Value} (hp : tmps.getD p undef = x) (hq : tmps.getD q undef = y) (hz : tmps.getD r undef = z) :
    (results fn tmps).run Try.prog w = .ok (.tuple #[x, y, z]) w := by
  have hp' : tmps[p]?.getD undef = x := by simpa using hp
  have hq' : tmps[q]?.getD undef = y := by simpa using hq
  have hz' : tmps[r]?.getD undef = z := by simpa using hz
  simp [results, hr, hp', hq', hz']
/-- The fragments as they count, where one of them does not. -/
def effL (ls : List (List Int)) (but : Int) : List (List Int) := if 0 ≤ but ∧ but < ls.length then ls.set but.toNat [] else ls
theorem effL_len (ls : List (List Int)) (but : Int) : (effL ls but).length = ls.length := by
  unfold effL
  split <;> simp
theorem effL_at {ls : List (List Int)} {but : Int} {i : Nat} (hi : i < ls.length) : (effL ls but).getD i [] = if (i : Int) = but then [] else ls.getD i [] := by
  unfold effL
  by_cases h : 0 ≤ but ∧ but < ls.length
  · rw [if_pos h]
    by_cases e : (i : Int) = but
    · rw [if_pos e, List.getD_eq_getElem?_getD, show but.toNat = i by omega, List.getElem?_set_self hi]; rfl
    · rw [if_neg e, List.getD_eq_getElem?_getD, List.getElem?_set_ne (by omega), ← List.getD_eq_getElem?_getD]
  · rw [if_neg h, if_neg (by omega)]
/-- What the reference's read answers. -/
def RRdPost (w : World) (s : Spe) (es : List (List Int)) (e : Ending) (w' : World) : Prop :=
  (lookBad s es.length es = true ∧ e = .returned (.tuple #[.slice none 0 0, .slice none 0 0, .int .i64 0, .int .i64 4]) ∧ Keeps [] w w') ∨
  (lookBad s es.length es = false ∧ ∃ v mv, e = .returned (.tuple #[v, mv, .int .i64 ((firstZ es).getD (-1)), .int .i64 0]) ∧ (∃ a c, v = .slice a es.length c) ∧ (∃ a c, mv = .slice a (missL es).length c) ∧ Rd13 w w' v mv (rowsOf es) (missL es))
theorem look_no {s : Spe} {es : List (List Int)} (h : ∀ k, k < es.length → badB s es.length es k = false) : lookBad s es.length es = false := by
  unfold lookBad
  rw [List.any_eq_false]
  intro k hk
  rw [h k (List.mem_range.1 hk)]
  simp
theorem look_yes {s : Spe} {es : List (List Int)} {k : Nat} (hk : k < es.length) (h : badB s es.length es k = true) : lookBad s es.length es = true := by
  unfold lookBad
  rw [List.any_eq_true]
  exact ⟨k, List.mem_range.2 hk, h⟩
theorem rowsOf_take (es : List (List Int)) (k : Nat) (hk : k < es.length) : (rowsOf es).take (k + 1) = (rowsOf es).take k ++ [(readL (es.getD k [])).2.1] := by
  rw [List.take_succ_eq_append_getElem (by rw [rowsOf_len]; exact hk), rowsOf_get]
theorem own_base {w : World} {b0 b1 : Nat} {e : TypeId} {size : Nat} {v : Value} {n : Nat} {xs : List Value} (h : w.ownsRow b1 e size v n xs) (hb : b0 ≤ b1) : w.ownsRow b0 e size v n xs := by
  obtain ⟨h1, h2 | ⟨g, cap, cur, e1, e2, e3⟩⟩ := h
  · exact ⟨h1, .inl h2⟩
  · exact ⟨h1, .inr ⟨g, cap, cur, e1, by omega, e3⟩⟩
theorem Rd13.back {w W w' : World} {v mv : Value} {ls : List (List Int)} {ms : List Nat} (h : Rd13 W w' v mv ls ms) (k : Keeps [] w W) : Rd13 w w' v mv ls ms := by
  obtain ⟨vs, ho, hl, hr⟩ := h.own
  exact ⟨⟨vs, own_base ho k.size, hl, hr⟩, h.few, k.trans h.kept, own_base h.mis k.size, h.ap⟩
theorem mayH_z {h : Hd13} (k : mayH h = true) : 0 ≤ h.z := by
  unfold mayH at k
  rw [Bool.and_eq_true, Bool.and_eq_true, mayHv_is, btw_is] at k
  obtain ⟨⟨k1, ⟨k2, k3⟩, k4, k5⟩, k6, k7⟩ := k
  omega
end Go.Proofs.Ytoglcohdanpciaa


/- layout: the reference's read. -/
namespace Go.Proofs.Ytoglcohdanpciaa
open Go.RowKit
set_option maxRecDepth 100000
set_option linter.unusedSimpArgs false
set_option linter.unusedVariables false

theorem bad_why {s : Spe} {n : Nat} {es : List (List Int)} {k : Nat} {l : List Int} (he : es.getD k [] = l) (hne : l ≠ []) (h : (readL l).2.2 ≠ 0) : badB s n es k = true := by
  unfold badB
  rw [he, decide_eq_false hne, decide_eq_false h]
  rfl
theorem bad_head {s : Spe} {n : Nat} {es : List (List Int)} {k : Nat} {l : List Int} (he : es.getD k [] = l) (hne : l ≠ []) (h : (readL l).1.s ≠ s ∨ (readL l).1.i ≠ k ∨ (readL l).1.n ≠ n ∨ ∃ z, firstZ (es.take (k + 1)) = some z ∧ (readL l).1.z ≠ z) : badB s n es k = true := by
  unfold badB
  rw [he, decide_eq_false hne, decide_eq_false (p := (readL l).1 = _) (fun e => by
    rcases h with h | h | h | ⟨z, hz, h⟩
    · exact h (by rw [e])
    · exact h (by rw [e])
    · exact h (by rw [e])
    · exact h (by rw [e, hz]; rfl))]
  simp
theorem good_head {s : Spe} {n : Nat} {es : List (List Int)} {k : Nat} {l : List Int} (he : es.getD k [] = l) (h : (readL l).2.2 = 0) (h1 : (readL l).1.s = s) (h2 : (readL l).1.i = k) (h3 : (readL l).1.n = n) (h4 : firstZ (es.take (k + 1)) = some (readL l).1.z) : badB s n es k = false := by
  unfold badB
  rw [he, decide_eq_true h, h4, decide_eq_true (p := (readL l).1 = _) (by
    cases hh : (readL l).1 with
    | mk a b c d =>
      rw [hh] at h1 h2 h3
      simp only at h1 h2 h3
      rw [h1, h2, h3]
      rfl)]
  simp
set_option maxHeartbeats 51200000 in
theorem rread_any (w : World) (s : Spe) (fv : Value) (ls : List (List Int)) (n : Nat) (but : Int) (hr : RsAt w fv ls) (hlen : ls.length = n) (h3 : 3 ≤ n) (h16 : n ≤ 16) (hfew : ∀ l ∈ ls, l.length ≤ 35184372088832) :
    Calls Try.prog 121 #[.agg #[.int .i64 s.c, .int .i64 s.l, .int .i64 s.n], fv, .int .i64 (n : Int), .int .i64 but] w (RRdPost w s (effL ls but)) := by
  obtain ⟨fa, fc, rfl⟩ : ∃ a c, fv = .slice a ls.length c := by
    obtain ⟨g, off, cap, u, e, _⟩ := hr.at (k := 0) (by omega)
    exact ⟨_, _, e⟩
  obtain ⟨es, hes⟩ : ∃ es, es = effL ls but := ⟨_, rfl⟩
  have EL := hid (show es.length = n by rw [hes, effL_len, hlen])
  have EA := hid (show ∀ i, i < n → es.getD i [] = if (i : Int) = but then [] else ls.getD i [] from fun i hi => by rw [hes]; exact effL_at (by omega))
  rw [← hes]
  have ka : Keeps [] w (w.alloc (.cells s.cells.toArray 30)) := (Keeps.refl [] w).alloc _
  have RS := hid (range_cells (heap_alloc_new w (.cells s.cells.toArray 30)))
  have KA := hid ka
  have FR := hid (hr.keep ka)
  have HLN := hid hlen
  have HN := hid (And.intro h3 h16)
  have HFEW := hid hfew
  clear hes hr ka h3 hfew
  go_enter Try.func121, Try.ntmps121
  go_wp2_with (first | (refine wpList_is rfl _ _ (exec_box 30 _ s.cells.toArray rfl rfl) ?_; refine Hid.out ?_) | fail)
  refine hid ?_
  obtain ⟨W, hW⟩ : ∃ z, z = w.alloc (.cells s.cells.toArray 30) := ⟨_, rfl⟩
  obtain ⟨b0, hb0⟩ : ∃ z, z = w.heap.size := ⟨_, rfl⟩
  have HB0 := hid (show b0 < W.heap.size ∧ w.heap.size ≤ b0 by rw [hb0, hW]; simp)
  rw [← hW, ← hb0]
  rw [← hW] at RS KA FR
  rw [← hb0] at RS
  clear hW hb0
  go_wp2_with fail
  go_loopw [12, 13, 14, 15] (fun ov mv zv iv wr => ∃ (k : Nat) (a : Option Addr) (c : Nat) (a2 : Option Addr) (c2 : Nat), k ≤ n ∧ iv = .int .i64 (k : Int) ∧ ov = .slice a k c ∧ mv = .slice a2 (missK es k).length c2 ∧ zv = .int .i64 ((firstZ (es.take k)).getD (-1)) ∧ Hid (Rd13 W wr (.slice a k c) (.slice a2 (missK es k).length c2) ((rowsOf es).take k) (missK es k)) ∧ Hid (∀ j, j < k → badB s es.length es j = false) ∧ Hid (∀ z, firstZ (es.take k) = some z → 0 ≤ z)) (fun _ _ _ iv _ => n - (intOf iv).toNat)
  case atStart => exact ⟨0, none, 0, none, 0, Nat.zero_le _, rfl, rfl, rfl, rfl, hid (Rd13.start W W (Keeps.refl _ _)), hid (fun j h => absurd h (Nat.not_lt_zero j)), hid (fun z h => by cases h)⟩
  case round =>
    obtain ⟨k, a, c, a2, c2, hk, rfl, rfl, rfl, rfl, RD, HB, HF⟩ := hrel
    by_cases hlt : k < n
    · obtain ⟨g, off, cap, u, efv, hcu, hru, hlu, hcap⟩ := (FR.out.keep RD.out.kept).at (k := k) (by rw [HLN.out]; exact hlt)
      injection efv with efa _ efc
      subst efa
      subst efc
      obtain ⟨l, hl⟩ : ∃ l, l = ls.getD k [] := ⟨_, rfl⟩
      rw [← hl] at hru hlu
      obtain ⟨ua, uc, rfl⟩ : ∃ a c, u = .slice a l.length c := by obtain ⟨a, c, e, _⟩ := hru; exact ⟨a, c, e⟩
      have HLK := hid hl
      have HRU := hid hru
      have HKL := hid (show k < es.length by rw [EL.out]; exact hlt)
      have LR := hid (show ((rowsOf es).take k).length = k by rw [List.length_take, rowsOf_len]; have := HKL.out; omega)
      have hlt' : (k : Int) < (ls.length : Int) := by rw [HLN.out]; omega
      have FEWL := hid (show l.length ≤ 35184372088832 from HFEW.out l (by
        rw [hl, List.getD_eq_getElem?_getD, List.getElem?_eq_getElem (by rw [HLN.out]; exact hlt)]
        exact List.getElem_mem _))
      clear hl hru hlu hcap
      by_cases hz : l.length = 0
      · have d1 : ((l.length : Int) == 0) = true := by rw [hz]; rfl
        have EK := hid (show es.getD k [] = [] by
          rw [EA.out k hlt, ← HLK.out, List.eq_nil_of_length_eq_zero hz]
          split <;> rfl)
        clear hz
        have ZK := hid (show (rowsOf es).take (k + 1) = (rowsOf es).take k ++ [[]] by rw [rowsOf_take es k HKL.out, EK.out, readL_nil])
        have MK := hid (show missK es (k + 1) = missK es k ++ [k] by rw [missK_succ, if_pos EK.out])
        have FK := hid (show firstZ (es.take (k + 1)) = firstZ (es.take k) by rw [take_getD es k HKL.out, firstZ_snoc, EK.out, if_pos rfl]; cases firstZ (es.take k) <;> rfl)
        have BK := hid (show badB s es.length es k = false by unfold badB; rw [EK.out, decide_eq_true rfl]; rfl)
        obtain ⟨a1, c1, wa, hrun, hR1⟩ := RD.out.row (Keeps.refl [] wr) (RowAt.nil _) (fun ad m c e => by cases e) (by simp) (by rw [LR.out]; have := HN.out; omega)
        rw [LR.out] at hrun hR1
        have RUN := hid hrun
        have RD1 := hid hR1
        obtain ⟨a2', c2', wb, hrun2, hR2⟩ := RD1.out.miss k (by have := missK_len es k; have := HN.out; omega)
        have RUN2 := hid hrun2
        have RD2 := hid hR2
        clear hrun hR1 hrun2 hR2 RD
        go_wp2_with (first | (refine wpList_is rfl _ _ (exec_oneRow _ none 0 0 rfl rfl) ?_) | (refine wpList_is rfl _ _ (exec_appendT 26 _ _ rfl rfl rfl RUN.out) ?_) | (refine wpList_is rfl _ _ (exec_oneInt _ (k : Int) rfl rfl) ?_) | (refine wpList_is rfl _ _ (exec_appendT 178 _ _ rfl rfl rfl RUN2.out) ?_) | fail)
        go_roundw
        case rel =>
          refine ⟨k + 1, a1, c1, a2', c2', by have := HKL.out; have := HN.out; omega, by go_num, rfl, ?_, ?_, ?_, ?_, ?_⟩
          · rw [MK.out, List.length_append, List.length_singleton]
          · rw [FK.out]
          · rw [ZK.out, MK.out, List.length_append, List.length_singleton]; exact RD2
          · exact hid (fun j hj => by
              rcases Nat.lt_or_ge j k with h | h
              · exact HB.out j h
              · obtain rfl : j = k := by omega
                exact BK.out)
          · rw [FK.out]; exact HF
        case measure => have := HKL.out; simp [intOf] <;> omega
      have d1 : ((l.length : Int) == 0) = false := by simpa using hz
      by_cases hbt : (k : Int) = but
      · have d2 : ((k : Int) == but) = true := by simpa using hbt
        have EK := hid (show es.getD k [] = [] by rw [EA.out k hlt, if_pos hbt])
        clear hz hbt
        have ZK := hid (show (rowsOf es).take (k + 1) = (rowsOf es).take k ++ [[]] by rw [rowsOf_take es k HKL.out, EK.out, readL_nil])
        have MK := hid (show missK es (k + 1) = missK es k ++ [k] by rw [missK_succ, if_pos EK.out])
        have FK := hid (show firstZ (es.take (k + 1)) = firstZ (es.take k) by rw [take_getD es k HKL.out, firstZ_snoc, EK.out, if_pos rfl]; cases firstZ (es.take k) <;> rfl)
        have BK := hid (show badB s es.length es k = false by unfold badB; rw [EK.out, decide_eq_true rfl]; rfl)
        obtain ⟨a1, c1, wa, hrun, hR1⟩ := RD.out.row (Keeps.refl [] wr) (RowAt.nil _) (fun ad m c e => by cases e) (by simp) (by rw [LR.out]; have := HN.out; omega)
        rw [LR.out] at hrun hR1
        have RUN := hid hrun
        have RD1 := hid hR1
        obtain ⟨a2', c2', wb, hrun2, hR2⟩ := RD1.out.miss k (by have := missK_len es k; have := HN.out; omega)
        have RUN2 := hid hrun2
        have RD2 := hid hR2
        clear hrun hR1 hrun2 hR2 RD
        go_wp2_with (first | (refine wpList_is rfl _ _ (exec_oneRow _ none 0 0 rfl rfl) ?_) | (refine wpList_is rfl _ _ (exec_appendT 26 _ _ rfl rfl rfl RUN.out) ?_) | (refine wpList_is rfl _ _ (exec_oneInt _ (k : Int) rfl rfl) ?_) | (refine wpList_is rfl _ _ (exec_appendT 178 _ _ rfl rfl rfl RUN2.out) ?_) | fail)
        go_roundw
        case rel =>
          refine ⟨k + 1, a1, c1, a2', c2', by have := HKL.out; have := HN.out; omega, by go_num, rfl, ?_, ?_, ?_, ?_, ?_⟩
          · rw [MK.out, List.length_append, List.length_singleton]
          · rw [FK.out]
          · rw [ZK.out, MK.out, List.length_append, List.length_singleton]; exact RD2
          · exact hid (fun j hj => by
              rcases Nat.lt_or_ge j k with h | h
              · exact HB.out j h
              · obtain rfl : j = k := by omega
                exact BK.out)
          · rw [FK.out]; exact HF
        case measure => have := HKL.out; simp [intOf] <;> omega
      have d2 : ((k : Int) == but) = false := by simpa using hbt
      have EK := hid (show es.getD k [] = l by rw [EA.out k hlt, if_neg hbt, ← HLK.out])
      have HNE := hid (show l ≠ [] from fun e => hz (by rw [e]; rfl))
      clear hz hbt
      have HCU := hid hcu
      go_wp2_with fail
      have hcu := HCU.out
      go_wp2_with fail
      refine (rRead_any wr _ l HRU.out FEWL.out).mono ?_
      obtain ⟨h, row, why, hrd⟩ : ∃ h row why, readL l = (h, row, why) := ⟨_, _, _, rfl⟩
      rw [hrd]
      rintro e w1 ⟨k1, ra, rc, rfl, hrow, hnew⟩
      have HRD := hid hrd
      have RR := hid hrow
      have RN := hid hnew
      have RD1 := hid (RD.out.later k1)
      have RLN := hid (show row.length ≤ 35184372088832 by have := readL_len l; rw [hrd] at this; have := FEWL.out; simp only at *; omega)
      obtain ⟨w2, hw2⟩ : ∃ x, x = w1.alloc (.cells h.cells.toArray 46) := ⟨_, rfl⟩
      obtain ⟨q, hq⟩ : ∃ x, x = w1.heap.size := ⟨_, rfl⟩
      have k2 : Keeps [] w1 w2 := by rw [hw2]; exact (Keeps.refl [] w1).alloc _
      have RQ := hid (show w2.rangeAt q 0 h.cells by rw [hw2, hq]; exact range_cells (heap_alloc_new w1 (.cells h.cells.toArray 46)))
      have RQS := hid (show w2.rangeAt q 0 h.s.cells from fun j u hu => by
        match j, hu with
        | 0, hu => exact RQ.out 0 u hu
        | 1, hu => exact RQ.out 1 u hu
        | 2, hu => exact RQ.out 2 u hu)
      have KZ := hid (KA.out.trans (RD1.out.kept.trans k2))
      have RS2 := hid (fun (j : Nat) (u : Value) (hu : s.cells[j]? = some u) => Keeps.cell (RD1.out.kept.trans k2) (RS.out j u hu) (by simp))
      have R2 := hid (RR.out.keep k2 (by intro _ _ _ _ _; simp))
      have RD2 := hid (RD1.out.later k2)
      have HS12 := hid (show wr.heap.size ≤ w1.heap.size from k1.size)
      have K12 := hid (k1.trans k2)
      have HW2 := hid hw2
      have HQQ := hid hq
      have qi : w2.cell? ⟨q, 3, none⟩ = some (.int .i64 h.i) := RQ.out 3 _ rfl
      have qn : w2.cell? ⟨q, 4, none⟩ = some (.int .i64 h.n) := RQ.out 4 _ rfl
      have qz : w2.cell? ⟨q, 5, none⟩ = some (.int .i64 h.z) := RQ.out 5 _ rfl
      clear k1 k2 hrow hnew hw2 hq hcu HCU d1 d2
      obtain ⟨fz, hfz⟩ : ∃ x, x = firstZ (es.take k) := ⟨_, rfl⟩
      rw [← hfz]
      have HFZ := hid hfz
      have FK := hid (show firstZ (es.take (k + 1)) = if fz.isSome then fz else some h.z by
        rw [take_getD es k HKL.out, firstZ_snoc, ← hfz, EK.out, if_neg HNE.out, HRD.out])
      clear hfz
      by_cases q0 : why = 0
      case neg =>
        have BK := hid (show badB s es.length es k = true from bad_why EK.out HNE.out (by rw [HRD.out]; exact q0))
        have f0 : (why != 0) = true := by simpa using q0
        clear q0
        go_wp2_with (first | go_big_skip | (refine wpList_is rfl _ _ (exec_alloc 46 #[.int .i64 0, .int .i64 0, .int .i64 0, .int .i64 0, .int .i64 0, .int .i64 0] iRHead rfl) ?_) | (refine wpList_noval rfl _ (exec_storeNew 46 _ _ rfl w1 #[.int .i64 0, .int .i64 0, .int .i64 0, .int .i64 0, .int .i64 0, .int .i64 0] h.cells.toArray rfl rfl rfl iRHead rfl (hd_one h)) ?_; rw [← HW2.out, ← HQQ.out]) | (refine wpList_isW rfl _ _ (exec_load _ _ _ _ rfl rfl (loadSpe _ q 0 h.s RQS.out)) ?_) | (refine wpList_isW rfl _ _ (exec_load _ _ _ _ rfl rfl (loadSpe _ b0 0 s RS2.out)) ?_) | (refine wpList_isW rfl _ _ (exec_neqSpe _ _ _ h.s s rfl rfl rfl) ?_) | fail)
        refine bodyPost_ret (res4_13 rfl rfl rfl rfl rfl) rfl ?_
        exact .inl ⟨look_yes HKL.out BK.out, rfl, KZ.out⟩
      have f0 : (why != 0) = false := by simpa using q0
      have Q0 := hid q0
      by_cases q1 : h.s = s
      case neg =>
        have BK := hid (show badB s es.length es k = true from bad_head EK.out HNE.out (.inl (by rw [HRD.out]; exact q1)))
        have f1 : decide (h.s = s) = false := decide_eq_false q1
        clear q0 q1
        go_wp2_with (first | go_big_skip | (refine wpList_is rfl _ _ (exec_alloc 46 #[.int .i64 0, .int .i64 0, .int .i64 0, .int .i64 0, .int .i64 0, .int .i64 0] iRHead rfl) ?_) | (refine wpList_noval rfl _ (exec_storeNew 46 _ _ rfl w1 #[.int .i64 0, .int .i64 0, .int .i64 0, .int .i64 0, .int .i64 0, .int .i64 0] h.cells.toArray rfl rfl rfl iRHead rfl (hd_one h)) ?_; rw [← HW2.out, ← HQQ.out]) | (refine wpList_isW rfl _ _ (exec_load _ _ _ _ rfl rfl (loadSpe _ q 0 h.s RQS.out)) ?_) | (refine wpList_isW rfl _ _ (exec_load _ _ _ _ rfl rfl (loadSpe _ b0 0 s RS2.out)) ?_) | (refine wpList_isW rfl _ _ (exec_neqSpe _ _ _ h.s s rfl rfl rfl) ?_) | fail)
        refine bodyPost_ret (res4_13 rfl rfl rfl rfl rfl) rfl ?_
        exact .inl ⟨look_yes HKL.out BK.out, rfl, KZ.out⟩
      have f1 : decide (h.s = s) = true := decide_eq_true q1
      have Q1 := hid q1
      by_cases q2 : h.i = (k : Int)
      case neg =>
        have BK := hid (show badB s es.length es k = true from bad_head EK.out HNE.out (.inr (.inl (by rw [HRD.out]; exact q2))))
        have f2 : (h.i != (k : Int)) = true := by simpa using q2
        clear q0 q1 q2
        go_wp2_with (first | go_big_skip | (refine wpList_is rfl _ _ (exec_alloc 46 #[.int .i64 0, .int .i64 0, .int .i64 0, .int .i64 0, .int .i64 0, .int .i64 0] iRHead rfl) ?_) | (refine wpList_noval rfl _ (exec_storeNew 46 _ _ rfl w1 #[.int .i64 0, .int .i64 0, .int .i64 0, .int .i64 0, .int .i64 0, .int .i64 0] h.cells.toArray rfl rfl rfl iRHead rfl (hd_one h)) ?_; rw [← HW2.out, ← HQQ.out]) | (refine wpList_isW rfl _ _ (exec_load _ _ _ _ rfl rfl (loadSpe _ q 0 h.s RQS.out)) ?_) | (refine wpList_isW rfl _ _ (exec_load _ _ _ _ rfl rfl (loadSpe _ b0 0 s RS2.out)) ?_) | (refine wpList_isW rfl _ _ (exec_neqSpe _ _ _ h.s s rfl rfl rfl) ?_) | fail)
        refine bodyPost_ret (res4_13 rfl rfl rfl rfl rfl) rfl ?_
        exact .inl ⟨look_yes HKL.out BK.out, rfl, KZ.out⟩
      have f2 : (h.i != (k : Int)) = false := by simpa using q2
      have Q2 := hid q2
      by_cases q3 : h.n = (n : Int)
      case neg =>
        have BK := hid (show badB s es.length es k = true from bad_head EK.out HNE.out (.inr (.inr (.inl (by rw [HRD.out, EL.out]; exact q3)))))
        have f3 : (h.n != (n : Int)) = true := by simpa using q3
        clear q0 q1 q2 q3
        go_wp2_with (first | go_big_skip | (refine wpList_is rfl _ _ (exec_alloc 46 #[.int .i64 0, .int .i64 0, .int .i64 0, .int .i64 0, .int .i64 0, .int .i64 0] iRHead rfl) ?_) | (refine wpList_noval rfl _ (exec_storeNew 46 _ _ rfl w1 #[.int .i64 0, .int .i64 0, .int .i64 0, .int .i64 0, .int .i64 0, .int .i64 0] h.cells.toArray rfl rfl rfl iRHead rfl (hd_one h)) ?_; rw [← HW2.out, ← HQQ.out]) | (refine wpList_isW rfl _ _ (exec_load _ _ _ _ rfl rfl (loadSpe _ q 0 h.s RQS.out)) ?_) | (refine wpList_isW rfl _ _ (exec_load _ _ _ _ rfl rfl (loadSpe _ b0 0 s RS2.out)) ?_) | (refine wpList_isW rfl _ _ (exec_neqSpe _ _ _ h.s s rfl rfl rfl) ?_) | fail)
        refine bodyPost_ret (res4_13 rfl rfl rfl rfl rfl) rfl ?_
        exact .inl ⟨look_yes HKL.out BK.out, rfl, KZ.out⟩
      have f3 : (h.n != (n : Int)) = false := by simpa using q3
      have Q3 := hid q3
      have ZP := hid (show 0 ≤ h.z by
        have := (readL_ok HRU.out.bytes (show (readL l).2.2 = 0 by rw [HRD.out]; exact q0)).1
        rw [HRD.out] at this
        exact mayH_z this)
      clear q0 q1 q2 q3
      have GOOD : Hid (firstZ (es.take (k + 1)) = some h.z → badB s es.length es k = false) := hid (fun h4 => good_head EK.out (by rw [HRD.out]; exact Q0.out) (by rw [HRD.out]; exact Q1.out) (by rw [HRD.out]; exact Q2.out) (by rw [HRD.out, EL.out]; exact Q3.out) (by rw [HRD.out]; exact h4))
      cases fz with
      | none =>
        have F2 := hid (show firstZ (es.take (k + 1)) = some h.z by rw [FK.out]; rfl)
        have f4 : decide ((0 : Int) ≤ -1) = false := rfl
        have g0 : (none : Option Int).getD (-1) = -1 := rfl
        rw [g0]
        have RL := hid (show (rowsOf es).take (k + 1) = (rowsOf es).take k ++ [row] by rw [rowsOf_take es k HKL.out, EK.out, HRD.out])
        have MK := hid (show missK es (k + 1) = missK es k by rw [missK_succ, if_neg (by rw [EK.out]; exact HNE.out)])
        obtain ⟨a1, c1, w3, hrun, hR3⟩ := RD.out.row K12.out R2.out (fun ad m c e => by injection e with e _ _; have := RN.out ad e; have := HS12.out; omega) (by show row.length ≤ _; have := RLN.out; omega) (by rw [LR.out]; have := HN.out; omega)
        rw [LR.out] at hrun hR3
        have RUN := hid hrun
        have RD3 := hid hR3
        clear hrun hR3
        go_wp2_with (first | go_big_skip | (refine wpList_is rfl _ _ (exec_alloc 46 #[.int .i64 0, .int .i64 0, .int .i64 0, .int .i64 0, .int .i64 0, .int .i64 0] iRHead rfl) ?_) | (refine wpList_noval rfl _ (exec_storeNew 46 _ _ rfl w1 #[.int .i64 0, .int .i64 0, .int .i64 0, .int .i64 0, .int .i64 0, .int .i64 0] h.cells.toArray rfl rfl rfl iRHead rfl (hd_one h)) ?_; rw [← HW2.out, ← HQQ.out]) | (refine wpList_isW rfl _ _ (exec_load _ _ _ _ rfl rfl (loadSpe _ q 0 h.s RQS.out)) ?_) | (refine wpList_isW rfl _ _ (exec_load _ _ _ _ rfl rfl (loadSpe _ b0 0 s RS2.out)) ?_) | (refine wpList_isW rfl _ _ (exec_neqSpe _ _ _ h.s s rfl rfl rfl) ?_) | (refine wpList_is rfl _ _ (exec_oneRow _ ra row.length rc rfl rfl) ?_) | (refine wpList_is rfl _ _ (exec_appendT 26 _ _ rfl rfl rfl RUN.out) ?_) | fail)
        go_roundw
        case rel =>
          refine ⟨k + 1, a1, c1, a2, c2, by have := HKL.out; have := EL.out; omega, by go_num, rfl, ?_, ?_, ?_, ?_, ?_⟩
          · rw [MK.out]
          · rw [F2.out]; rfl
          · rw [RL.out, MK.out]; exact RD3
          · exact hid (fun j hj => by
              rcases Nat.lt_or_ge j k with h | h
              · exact HB.out j h
              · obtain rfl : j = k := by omega
                exact GOOD.out F2.out)
          · exact hid (fun z hz => by rw [F2.out] at hz; injection hz with hz; rw [← hz]; exact ZP.out)
        case measure => have := HKL.out; have := EL.out; simp [intOf] <;> omega
      | some z0 =>
        have Z0 := hid (HF.out z0 HFZ.out.symm)
        have g0 : (some z0 : Option Int).getD (-1) = z0 := rfl
        rw [g0]
        have f4 : decide ((0 : Int) ≤ z0) = true := decide_eq_true Z0.out
        by_cases q4 : h.z = z0
        case neg =>
          have BK := hid (show badB s es.length es k = true from bad_head EK.out HNE.out (.inr (.inr (.inr ⟨z0, by rw [FK.out]; rfl, by rw [HRD.out]; exact q4⟩))))
          have f5 : (h.z != z0) = true := by simpa using q4
          clear q4
          go_wp2_with (first | go_big_skip | (refine wpList_is rfl _ _ (exec_alloc 46 #[.int .i64 0, .int .i64 0, .int .i64 0, .int .i64 0, .int .i64 0, .int .i64 0] iRHead rfl) ?_) | (refine wpList_noval rfl _ (exec_storeNew 46 _ _ rfl w1 #[.int .i64 0, .int .i64 0, .int .i64 0, .int .i64 0, .int .i64 0, .int .i64 0] h.cells.toArray rfl rfl rfl iRHead rfl (hd_one h)) ?_; rw [← HW2.out, ← HQQ.out]) | (refine wpList_isW rfl _ _ (exec_load _ _ _ _ rfl rfl (loadSpe _ q 0 h.s RQS.out)) ?_) | (refine wpList_isW rfl _ _ (exec_load _ _ _ _ rfl rfl (loadSpe _ b0 0 s RS2.out)) ?_) | (refine wpList_isW rfl _ _ (exec_neqSpe _ _ _ h.s s rfl rfl rfl) ?_) | fail)
          refine bodyPost_ret (res4_13 rfl rfl rfl rfl rfl) rfl ?_
          exact .inl ⟨look_yes HKL.out BK.out, rfl, KZ.out⟩
        have f5 : (h.z != z0) = false := by simpa using q4
        have F2 := hid (show firstZ (es.take (k + 1)) = some h.z by rw [FK.out, q4]; rfl)
        clear q4
        have RL := hid (show (rowsOf es).take (k + 1) = (rowsOf es).take k ++ [row] by rw [rowsOf_take es k HKL.out, EK.out, HRD.out])
        have MK := hid (show missK es (k + 1) = missK es k by rw [missK_succ, if_neg (by rw [EK.out]; exact HNE.out)])
        obtain ⟨a1, c1, w3, hrun, hR3⟩ := RD.out.row K12.out R2.out (fun ad m c e => by injection e with e _ _; have := RN.out ad e; have := HS12.out; omega) (by show row.length ≤ _; have := RLN.out; omega) (by rw [LR.out]; have := HN.out; omega)
        rw [LR.out] at hrun hR3
        have RUN := hid hrun
        have RD3 := hid hR3
        clear hrun hR3
        go_wp2_with (first | go_big_skip | (refine wpList_is rfl _ _ (exec_alloc 46 #[.int .i64 0, .int .i64 0, .int .i64 0, .int .i64 0, .int .i64 0, .int .i64 0] iRHead rfl) ?_) | (refine wpList_noval rfl _ (exec_storeNew 46 _ _ rfl w1 #[.int .i64 0, .int .i64 0, .int .i64 0, .int .i64 0, .int .i64 0, .int .i64 0] h.cells.toArray rfl rfl rfl iRHead rfl (hd_one h)) ?_; rw [← HW2.out, ← HQQ.out]) | (refine wpList_isW rfl _ _ (exec_load _ _ _ _ rfl rfl (loadSpe _ q 0 h.s RQS.out)) ?_) | (refine wpList_isW rfl _ _ (exec_load _ _ _ _ rfl rfl (loadSpe _ b0 0 s RS2.out)) ?_) | (refine wpList_isW rfl _ _ (exec_neqSpe _ _ _ h.s s rfl rfl rfl) ?_) | (refine wpList_is rfl _ _ (exec_oneRow _ ra row.length rc rfl rfl) ?_) | (refine wpList_is rfl _ _ (exec_appendT 26 _ _ rfl rfl rfl RUN.out) ?_) | fail)
        go_roundw
        case rel =>
          refine ⟨k + 1, a1, c1, a2, c2, by have := HKL.out; have := EL.out; omega, by go_num, rfl, ?_, ?_, ?_, ?_, ?_⟩
          · rw [MK.out]
          · rw [F2.out]; rfl
          · rw [RL.out, MK.out]; exact RD3
          · exact hid (fun j hj => by
              rcases Nat.lt_or_ge j k with h | h
              · exact HB.out j h
              · obtain rfl : j = k := by omega
                exact GOOD.out F2.out)
          · exact hid (fun z hz => by rw [F2.out] at hz; injection hz with hz; rw [← hz]; exact ZP.out)
        case measure => have := HKL.out; have := EL.out; simp [intOf] <;> omega
    · obtain rfl : k = n := by omega
      have ET := hid (show es.take k = es by rw [List.take_of_length_le (by rw [EL.out]; exact Nat.le_refl _)])
      have MT := hid (show missK es k = missL es by unfold missL; rw [EL.out])
      have RT := hid (show (rowsOf es).take k = rowsOf es by rw [List.take_of_length_le (by rw [rowsOf_len, EL.out]; exact Nat.le_refl _)])
      go_wp2_with fail
      refine bodyPost_ret (res4_13 rfl rfl rfl rfl rfl) rfl ?_
      rw [ET.out, MT.out]
      refine .inr ⟨look_no (fun j hj => HB.out j (by rw [EL.out] at hj; exact hj)), _, _, rfl, ⟨a, c, by rw [EL.out]; rfl⟩, ⟨a2, c2, rfl⟩, ?_⟩
      have := RD.out
      rw [RT.out, MT.out] at this
      exact this.back KA.out
end Go.Proofs.Ytoglcohdanpciaa


/- layout: the reference's whole. -/
namespace Go.Proofs.Ytoglcohdanpciaa
open Go.RowKit Go.Shelf
set_option maxRecDepth 100000
set_option linter.unusedSimpArgs false
set_option linter.unusedVariables false

theorem append_o13 {w : World} {B : Nat} {v : Value} {zs es : List Int} (h : w.ownsRow B 5 1 v zs.length (zs.map (Value.int .u8))) (A : Option Addr) (n c : Nat) (hs : RowAt w (.slice A n c) es) (hl : zs.length + es.length ≤ 100000) (hB : B ≤ w.heap.size) :
    ∃ a' c' w', (Builtin.append_ #[34, 34] 34 #[v, .slice A n c]).run Try.prog w = .ok (.slice a' (zs ++ es).length c') w' ∧ w'.ownsRow B 5 1 (.slice a' (zs ++ es).length c') (zs ++ es).length ((zs ++ es).map (Value.int .u8)) ∧ Keeps v.ownBlock.toList w w' := by
  obtain ⟨i, hi, hz, hz3, hz40⟩ := info_parts info5
  obtain ⟨a0, c0, hv0, h1, h2, h0, hb, h4⟩ := id hs
  injection hv0 with e1 e2 e3
  subst e1; subst e2; subst e3
  obtain ⟨a', c', w', hr, ho, hg⟩ := run_append_src (P := Try.prog) w B 34 34 5 i _ 1 Try.underlying34 hi hz hz3 hz40 rfl v zs.length (zs.map (Value.int .u8)) h A es.length c (es.map (Value.int .u8)) (by simp) h0 h1 h4 (by
    intro u hu
    obtain ⟨z, _, rfl⟩ := List.mem_map.1 hu
    rfl) (by unfold maxLen; omega) (by omega) hB
  have e : zs.length + es.length = (zs ++ es).length := by simp
  rw [e, ← List.map_append] at ho
  rw [e] at hr
  exact ⟨a', c', w', hr, ho, (Keeps.refl _ _).grown hg (by intro g e; left; simp [e])⟩
theorem keeps_own {w0 w w' : World} {e : TypeId} {size n : Nat} {v : Value} {xs : List Value} (h : w.ownsRow w0.heap.size e size v n xs) (k : Keeps [] w0 w) (kk : Keeps v.ownBlock.toList w w') : Keeps [] w0 w' :=
  ((k.mono (fun i _ hm => by cases hm)).trans kk).mono (fun i hi hm => absurd (h.lt i (by simpa using hm)).1 (by omega))
theorem flat_le {l : List (List Int)} (h : ∀ r ∈ l, r.length ≤ 400) : l.flatten.length ≤ 400 * l.length := by
  induction l with
  | nil => simp
  | cons r l ih =>
    have h1 := h r (by simp)
    have h2 := ih (fun q hq => h q (by simp [hq]))
    rw [List.flatten_cons, List.length_append, List.length_cons]
    omega
def flK (rows : List (List Int)) (k : Nat) : List Int := (rows.take k).flatten
theorem flK_succ {rows : List (List Int)} {k : Nat} (h : k < rows.length) : flK rows (k + 1) = flK rows k ++ rows.getD k [] := by
  unfold flK
  rw [take_getD rows k h, List.flatten_append, List.flatten_cons, List.flatten_nil, List.append_nil]
theorem flat_byte {l : List (List Int)} (h : BytesL l) : ∀ z ∈ l.flatten, 0 ≤ z ∧ z ≤ 255 := fun z hz => by
  obtain ⟨r, hr, hz⟩ := List.mem_flatten.1 hz
  exact h r hr z hz
theorem RsAt.rxor {w : World} {v : Value} {ls : List (List Int)} (h : RsAt w v ls) (hl : ls.length ≤ 1099511627776) (hb : longest ls ≤ 1099511627776) : Calls Try.prog 115 #[v] w (RowPost w (xorL ls)) := by
  obtain ⟨rs, rfl, hr⟩ := h
  exact rxor_any w v rs hr (by simpa [raws] using hl) hb
theorem RsAt.rholds {w : World} {v : Value} {ls : List (List Int)} (h : RsAt w v ls) (hl : ls.length ≤ 1099511627776) (hb : longest ls ≤ 1099511627776) : Calls Try.prog 122 #[v] w fun e w' => e = .returned (.bool (zeroB (xorL ls))) ∧ Keeps [] w w' := by
  obtain ⟨rs, rfl, hr⟩ := h
  exact rholds_any w v rs hr (by simpa [raws] using hl) hb
theorem buildRHd3 (i n z : Int) (w : World) : (Instr.build 46 #[(1, .int .i64 i), (2, .int .i64 n), (3, .int .i64 z)]).run Try.prog w = .ok (hdV13 ⟨⟨0, 0, 0⟩, i, n, z⟩) w := by kernel_rfl
theorem exec_buildRHd3 {ρ : Operand → Value} {o : Oper} {w : World} (x1 x2 x3 : Operand) (ho : o.op = .build 46 #[(1, x1), (2, x2), (3, x3)]) (i n z : Int) (h1 : ρ x1 = .int .i64 i) (h2 : ρ x2 = .int .i64 n) (h3 : ρ x3 = .int .i64 z) :
    (execOp ρ o).run Try.prog w = .ok (.value (hdV13 ⟨⟨0, 0, 0⟩, i, n, z⟩)) w := by
  simp only [execOp, ho, List.map_toArray, List.map_cons, List.map_nil, h1, h2, h3, Sem.run_bind, buildRHd3, Result.andThen_ok, Sem.run_pure]
theorem xorN_hole {l : List (List Int)} {i : Nat} (hi : i < l.length) (he : l.getD i [] = []) (k : Nat) : xorN k (l.eraseIdx i) = xorN k l := by
  refine ext_getD (by rw [xorN_length, xorN_length]) (fun j hj => ?_)
  rw [xorN_length] at hj
  rw [xorN_getD _ _ _ hj, xorN_getD _ _ _ hj, xat_split l i hi j, he]
  simp
theorem z_same {ls : List (List Int)} (h3 : 3 ≤ ls.length) (hm : (missL ls).length ≤ 1) : (firstZ ls).getD (-1) = zL ls := by
  obtain ⟨k, hk, hne⟩ : ∃ k, k < ls.length ∧ ls.getD k [] ≠ [] := by
    by_cases h0 : ls.getD 0 [] = []
    · refine ⟨1, by omega, fun h1 => ?_⟩
      have m0 := missL_mem.2 ⟨(by omega : 0 < ls.length), h0⟩
      have m1 := missL_mem.2 ⟨(by omega : 1 < ls.length), h1⟩
      match hml : missL ls, hm with
      | [], _ => rw [hml] at m0; cases m0
      | [i], _ => rw [hml] at m0 m1; simp at m0 m1; omega
      | _ :: _ :: _, hm => simp at hm
    · exact ⟨0, by omega, h0⟩
  obtain ⟨z, hz⟩ := firstZ_at hk hne
  unfold zL
  rw [firstZ_take _ _ hz]
  rfl
theorem row_hole {ls : List (List Int)} {k : Nat} (hk : k < ls.length) (h : ls.getD k [] = []) : (rowsOf ls).getD k [] = [] := by
  rw [List.getD_eq_getElem?_getD, List.getElem?_eq_getElem (by rw [rowsOf_len]; exact hk)]
  simp only [Option.getD_some]
  rw [rowsOf_get, h, readL_nil]
theorem rows_small {s : Spe} {ls : List (List Int)} (h : LookOk s ls) (hb : BytesL ls) : ∀ r ∈ rowsOf ls, r.length ≤ 400 := fun r hr => by
  obtain ⟨k, hk, rfl⟩ := List.getElem_of_mem hr
  have hk' : k < ls.length := by rw [rowsOf_len] at hk; exact hk
  by_cases he : ls.getD k [] = []
  · rw [rowsOf_get, he, readL_nil]; simp
  · obtain ⟨q1, q2, _⟩ := h.size hb hk' he
    rw [rowsOf_get, q2]
    obtain ⟨⟨n3, n16⟩, z0, z1⟩ := mayHv_is.1 q1
    exact Nat.le_trans (longN_le _ _ _) (eN_most (by omega))
/-- What the reference's whole answers. -/
def rwL (n : Nat) : Except Int (List (List Int) × Int) → List Int × Int × Int
  | .ok (rows, z) => ((rows.take (n - 1)).flatten, z, 0)
  | .error e => ([], 0, e)
def RWPost (w : World) (r : List Int × Int × Int) (e : Ending) (w' : World) : Prop :=
  Keeps [] w w' ∧ ∃ a c, e = .returned (.tuple #[.slice a r.1.length c, .int .i64 r.2.1, .int .i64 r.2.2]) ∧ RowAt w' (.slice a r.1.length c) r.1
theorem rw_no {w w' : World} {n : Nat} {r : List Int × Int × Int} {x : Except Int (List (List Int) × Int)} {er : Int} (hr : r = rwL n x) (h : x = .error er) (k : Keeps [] w w') : RWPost w r (.returned (.tuple #[.slice none 0 0, .int .i64 0, .int .i64 er])) w' := by
  subst h; subst hr
  exact ⟨k, none, 0, rfl, RowAt.nil _⟩
set_option maxHeartbeats 51200000 in
theorem rwhole_any (w : World) (s : Spe) (fv : Value) (ls : List (List Int)) (n but : Int) (hr : RsAt w fv ls) (hfew : ∀ l ∈ ls, l.length ≤ 35184372088832) :
    Calls Try.prog 74 #[.agg #[.int .i64 s.c, .int .i64 s.l, .int .i64 s.n], fv, .int .i64 n, .int .i64 but] w (RWPost w (rwL ls.length (wholeL s (effL ls but) n))) := by
  obtain ⟨fa, fc, hfv⟩ : ∃ a c, fv = .slice a ls.length c := by
    obtain ⟨rs, rfl, ⟨a, c, e, _⟩⟩ := hr
    exact ⟨a, c, by rw [e]; simp [raws]⟩
  subst hfv
  obtain ⟨es, hes⟩ : ∃ es, es = effL ls but := ⟨_, rfl⟩
  have EL := hid (show es.length = ls.length by rw [hes, effL_len])
  have EBY := hid (show BytesL es from fun r hr' => by
    rw [hes] at hr'
    unfold effL at hr'
    split at hr'
    · rcases List.mem_or_eq_of_mem_set hr' with h | h
      · exact hr.byte r h
      · rw [h]; simp
    · exact hr.byte r hr')
  have HES := hid hes
  rw [← hes]
  obtain ⟨r, hre⟩ : ∃ r, r = rwL ls.length (wholeL s es n) := ⟨_, rfl⟩
  rw [← hre]
  have HRE := hid hre
  have ka : Keeps [] w (w.alloc (.cells s.cells.toArray 30)) := (Keeps.refl [] w).alloc _
  have RS := hid (range_cells (heap_alloc_new w (.cells s.cells.toArray 30)))
  have KA := hid ka
  have FR := hid (hr.keep ka)
  have HFEW := hid hfew
  clear hes hre hr ka hfew
  go_enter Try.func74, Try.ntmps74
  go_wp2_with (first | (refine wpList_is rfl _ _ (exec_box 30 _ s.cells.toArray rfl rfl) ?_; refine Hid.out ?_) | fail)
  refine hid ?_
  obtain ⟨W, hW⟩ : ∃ z, z = w.alloc (.cells s.cells.toArray 30) := ⟨_, rfl⟩
  obtain ⟨b0, hb0⟩ : ∃ z, z = w.heap.size := ⟨_, rfl⟩
  rw [← hW, ← hb0]
  rw [← hW] at RS KA FR
  rw [← hb0] at RS
  clear hW hb0
  cases hm : maySv n with
  | false =>
    have HM := hid hm
    clear hm
    go_wp2_with fail
    refine (rmayn_as _ n false HM.out).mono ?_
    rintro e w' ⟨rfl, rfl⟩
    go_wp2_with fail
    refine bodyPost_ret (res3_13 rfl rfl rfl rfl) rfl ?_
    exact rw_no HRE.out (whole_no (by rw [HM.out]; simp)) KA.out
  | true =>
    have HM := hid hm
    obtain ⟨n3, n16⟩ := maySv_is.1 hm
    clear hm
    by_cases hl : (ls.length : Int) = n
    case neg =>
      have HL := hid hl
      have hl' : ((ls.length : Int) != n) = true := by simpa using hl
      clear hl
      go_wp2_with fail
      refine (rmayn_as _ n true HM.out).mono ?_
      rintro e w' ⟨rfl, rfl⟩
      go_wp2_with fail
      refine bodyPost_ret (res3_13 rfl rfl rfl rfl) rfl ?_
      exact rw_no HRE.out (whole_no (by rw [EL.out]; exact fun h => HL.out h.2)) KA.out
    subst hl
    obtain ⟨n, hn⟩ : ∃ n, n = ls.length := ⟨_, rfl⟩
    have HNL := hid hn
    have HOK := hid (show maySv (n : Int) = true ∧ (es.length : Int) = (n : Int) by rw [EL.out, hn]; exact ⟨HM.out, rfl⟩)
    have HN := hid (show 3 ≤ n ∧ n ≤ 16 by omega)
    have HM1 := hid (show IntKind.i64.wrap ((n : Int) - 1) = ((n - 1 : Nat) : Int) by have := HN.out; rw [IntKind.wrap_i64]; omega)
    rw [← hn] at HM HRE EL
    rw [← hn]
    rw [← hn] at FR
    clear hn n3 n16
    go_wp2_with fail
    refine (rmayn_as _ (n : Int) true HM.out).mono ?_
    rintro e w' ⟨rfl, rfl⟩
    have hl' : ((n : Int) != (n : Int)) = false := by simp
    go_wp2_with (first | (refine wpList_isW rfl _ _ (exec_load _ _ _ _ rfl rfl (loadSpe _ b0 0 s RS.out)) ?_) | fail)
    refine (rread_any _ s _ ls n but FR.out HNL.out.symm HN.out.1 HN.out.2 HFEW.out).mono ?_
    rw [← HES.out]
    rintro e W1 (⟨hbad, rfl, k1⟩ | ⟨hbad, v, mv, he, ⟨va, vc, rfl⟩, ⟨ma, mc, rfl⟩, RD⟩)
    · have KZ := hid (KA.out.trans k1)
      have HBD := hid hbad
      clear k1 hbad
      go_wp2_with fail
      refine bodyPost_ret (res3_13 rfl rfl rfl rfl) rfl ?_
      exact rw_no HRE.out (whole_bad HOK.out HBD.out) KZ.out
    · have HBD := hid hbad
      have KZ := hid (KA.out.trans RD.kept)
      have RV := hid (show RsAt W1 (.slice va n vc) (rowsOf es) by have h := RD.grow.rs; rw [EL.out] at h; exact h)
      have MIS := hid RD.mis
      have LOK := hid (lookOk_of hbad)
      have RSM0 := hid (rows_small LOK.out EBY.out)
      have ROL := hid (show (rowsOf es).length = n by rw [rowsOf_len, EL.out])
      have XB := hid (show longest (rowsOf es) ≤ 1099511627776 from Nat.le_trans (longest_le RSM0.out) (by decide))
      have RBY0 := hid (rowsOf_byte EBY.out)
      clear hbad RD
      rw [EL.out] at he
      by_cases hm2 : 2 ≤ (missL es).length
      · have HM2 := hid hm2
        have d : decide ((1 : Int) < ((missL es).length : Int)) = true := decide_eq_true (by omega)
        have d' : (1 : Int) < ((missL es).length : Int) := by omega
        subst he
        clear hm2
        go_wp2_with fail
        refine bodyPost_ret (res3_13 rfl rfl rfl rfl) rfl ?_
        exact rw_no HRE.out (whole_lost HOK.out HBD.out HM2.out) KZ.out
      rw [z_same (by rw [EL.out]; exact HN.out.1) (by omega)] at he
      cases hml : missL es with
      | nil =>
        rw [hml] at he MIS
        have he0 : e = .returned (.tuple #[.slice va n vc, .slice ma 0 mc, .int .i64 (zL es), .int .i64 0]) := he
        clear he
        subst he0
        have HML := hid hml
        clear hml
        have WA := hid (whole_all HOK.out HBD.out HML.out)
        cases hz : zeroB (xorL (rowsOf es)) with
        | false =>
          have HZ := hid hz
          clear hz
          go_wp2_with fail
          refine (RV.out.rholds (by rw [ROL.out]; have := HN.out; omega) XB.out).mono ?_
          rintro e w2 ⟨rfl, k2⟩
          have KZ2 := hid (KZ.out.trans k2)
          clear k2
          rw [HZ.out]
          go_wp2_with fail
          refine bodyPost_ret (res3_13 rfl rfl rfl rfl) rfl ?_
          exact rw_no HRE.out (by rw [WA.out, HZ.out, if_neg (by simp)]) KZ2.out
        | true =>
          have HZ := hid hz
          clear hz
          go_wp2_with fail
          refine (RV.out.rholds (by rw [ROL.out]; have := HN.out; omega) XB.out).mono ?_
          rintro e W2 ⟨rfl, k2⟩
          have KZ2 := hid (KZ.out.trans k2)
          have RV2 := hid (RV.out.keep k2)
          clear k2
          rw [HZ.out]
          clear RV KZ MIS
          obtain ⟨rows, hrows⟩ : ∃ rows, rows = rowsOf es := ⟨_, rfl⟩
          have HROWS := hid hrows
          have HR := hid (show r = (flK rows (n - 1), zL es, 0) by rw [HRE.out, WA.out, HZ.out, if_pos rfl, hrows]; rfl)
          have RLEN := hid (show rows.length = n by rw [hrows, ROL.out])
          have RSM := hid (show ∀ r ∈ rows, r.length ≤ 400 by rw [hrows]; exact RSM0.out)
          have RBY := hid (show BytesL rows by rw [hrows]; exact RBY0.out)
          clear hrows
          have RV := RV2
          have KZ := KZ2
          go_wp2_with fail
          go_loopw [15, 16] (fun dv iv wr => ∃ (k : Nat) (a : Option Addr) (c : Nat), k ≤ n - 1 ∧ iv = .int .i64 (k : Int) ∧ dv = .slice a (flK rows k).length c ∧ Hid (wr.ownsRow W2.heap.size 5 1 (.slice a (flK rows k).length c) (flK rows k).length ((flK rows k).map (Value.int .u8))) ∧ Hid (Keeps [] W2 wr)) (fun _ iv _ => n - (intOf iv).toNat)
          case atStart => exact ⟨0, none, 0, Nat.zero_le _, rfl, rfl, hid (World.ownsRow_nil _ _ _ _), hid (Keeps.refl _ _)⟩
          case round =>
            obtain ⟨k, a, c, hk, rfl, rfl, OW, KR⟩ := hrel
            by_cases hlt : k < n - 1
            · have HLT := hid hlt
              have n3 : 3 ≤ n := HN.out.1
              have n16 : n ≤ 16 := HN.out.2
              have HKR := hid (show k < rows.length by rw [RLEN.out]; omega)
              have TK := hid (show flK rows (k + 1) = flK rows k ++ rows.getD k [] from flK_succ HKR.out)
              have TL := hid (show (flK rows k).length ≤ 400 * 16 by
                unfold flK
                refine Nat.le_trans (flat_le (fun r hr => RSM.out r (List.mem_of_mem_take hr))) ?_
                rw [List.length_take]
                have := HN.out
                omega)
              obtain ⟨g, off, cap, u, ev, cu, ru, lu, _⟩ := (RV.out.keep KR.out).at (k := k) (by rw [ROL.out]; omega)
              injection ev with ea en ec
              clear en
              subst ea
              subst ec
              obtain ⟨l, hl⟩ : ∃ l, l = (rowsOf es).getD k [] := ⟨_, rfl⟩
              rw [← hl] at ru lu
              obtain ⟨ua, uc, rfl⟩ : ∃ a c, u = .slice a l.length c := by obtain ⟨a, c, e, _⟩ := ru; exact ⟨a, c, e⟩
              have HLK := hid hl
              have HRU := hid ru
              have HCU := hid cu
              clear hl ru lu
              have RL := hid (show rows.getD k [] = l by rw [HLK.out]; exact by rw [HROWS.out])
              obtain ⟨a1, c1, w2, hrun, ho, hkk⟩ := append_o13 OW.out ua _ uc HRU.out (by have := TL.out; have := RSM.out (rows.getD k []) (by rw [List.getD_eq_getElem?_getD, List.getElem?_eq_getElem HKR.out]; exact List.getElem_mem _); rw [RL.out] at this; omega) KR.out.size
              rw [← RL.out, ← TK.out] at hrun ho
              have RUN := hid hrun
              have OW2 := hid ho
              have KK := hid hkk
              clear hrun ho hkk
              rw [RL.out] at RUN
              have cu := HCU.out
              go_wp2_with (first | (refine wpList_is rfl _ _ (exec_appendT 34 _ _ rfl rfl rfl RUN.out) ?_) | fail)
              go_roundw
              case rel => exact ⟨k + 1, a1, c1, by have := HLT.out; omega, by go_num, rfl, OW2, hid (keeps_own OW.out KR.out KK.out)⟩
              case measure => have := HLT.out; simp [intOf]; omega
            · obtain rfl : k = n - 1 := by omega
              have n3 : 3 ≤ n := HN.out.1
              have n16 : n ≤ 16 := HN.out.2
              go_wp2_with fail
              refine bodyPost_ret (res3_13 rfl rfl rfl rfl) rfl ?_
              rw [HR.out]
              exact ⟨KZ.out.trans KR.out, a, c, rfl, row_of_own OW.out (flat_byte (fun r hr => RBY.out r (List.mem_of_mem_take hr)))⟩
      | cons i0 tl =>
        have htl : tl = [] := by
          cases tl with
          | nil => rfl
          | cons x y => exact absurd (by rw [hml]; simp) hm2
        subst htl
        rw [hml] at he MIS
        have he0 : e = .returned (.tuple #[.slice va n vc, .slice ma 1 mc, .int .i64 (zL es), .int .i64 0]) := he
        clear he
        subst he0
        have HML := hid hml
        clear hml
        obtain ⟨p1, p2, p3, p4, p5⟩ := one_long LOK.out EBY.out (by rw [EL.out]; exact HN.out.1) HML.out
        rw [EL.out] at p1 p2 p5
        obtain ⟨K, hK⟩ : ∃ K, K = longN i0 (zL es).toNat n := ⟨_, rfl⟩
        rw [← hK] at p5
        have HI0 := hid p1
        obtain ⟨⟨q3, q16⟩, z0, z1⟩ := mayHv_is.1 p2
        have HOLE := hid (row_hole (by rw [EL.out]; exact p1) (missL_mem.1 (show i0 ∈ missL es by rw [HML.out]; simp)).2)
        have SMF := hid (show SmallF (i0 : Int) (zL es) (n : Int) from ⟨by omega, by omega, by omega, by omega, by omega, by omega⟩)
        have HK := hid (show longI (i0 : Int) (zL es) (n : Int) = (K : Int) by
          have := longI_is (i := i0) (z := (zL es).toNat) (n := n) HN.out.1 HN.out.2
          rw [Int.toNat_of_nonneg z0] at this
          rw [this, hK])
        have KLE := hid (show K ≤ (xorL (rowsOf es)).length by
          rw [xorL_length]
          exact Nat.le_trans p5 (longest_sub (fun r hr => List.mem_of_mem_eraseIdx hr)))
        have K400 := hid (show K ≤ 400 by rw [hK]; exact Nat.le_trans (longN_le _ _ _) (eN_most (by omega)))
        have M0 := hid (show ∃ g c, Value.slice ma 1 mc = .slice (some ⟨g, 0, none⟩) 1 c ∧ W1.cell? ⟨g, 0, none⟩ = some (.int .i64 (i0 : Int)) from by
          obtain ⟨_, ⟨_, h0⟩ | ⟨g, cap, cur, e1, _, hg, _, _, _, ht⟩⟩ := MIS.out
          · cases h0
          · refine ⟨g, cap, e1, ?_⟩
            rw [cell_of_row _ _ _ _ _ _ hg, ← Array.getElem?_toList]
            have : (cur.toList.take 1)[0]? = some (.int .i64 (i0 : Int)) := by
              have ht' : cur.toList.take 1 = [.int .i64 (i0 : Int)] := ht
              rw [ht']; rfl
            rw [List.getElem?_take, if_pos (by decide)] at this
            exact this)
        obtain ⟨mg, mcc, hme, hmc⟩ := M0.out
        have hme' : Value.slice ma 1 mc = .slice (some ⟨mg, 0, none⟩) 1 mcc := hme
        injection hme' with e1 _ e3
        subst e1
        subst e3
        clear M0 hme
        have M0 := hid hmc
        obtain ⟨rows, hrows⟩ : ∃ rows, rows = (rowsOf es).set i0 (xorN K (rowsOf es)) := ⟨_, rfl⟩
        have HROWS := hid hrows
        have HR := hid (show r = (flK rows (n - 1), zL es, 0) by
          rw [HRE.out, whole_one HOK.out HBD.out HML.out, EL.out, ← hK, xorN_hole (by rw [ROL.out]; exact p1) HOLE.out, ← hrows]; rfl)
        have RLEN := hid (show rows.length = n by rw [hrows, List.length_set, ROL.out])
        have RSM := hid (show ∀ r ∈ rows, r.length ≤ 400 from fun r hr => by
          rw [hrows] at hr
          rcases List.mem_or_eq_of_mem_set hr with h | h
          · exact RSM0.out r h
          · rw [h, xorN_length]; exact K400.out)
        have RBY := hid (show BytesL rows from fun r hr => by
          rw [hrows] at hr
          rcases List.mem_or_eq_of_mem_set hr with h | h
          · exact RBY0.out r h
          · rw [h]; exact xorN_byte _ _ RBY0.out)
        clear hrows hK p1 p2 p3 p4 p5 q3 q16 z0 z1 hmc
        go_wp2_with fail
        go_loopw [15, 16] (fun dv iv wr => ∃ (k : Nat) (a : Option Addr) (c : Nat), k ≤ n - 1 ∧ iv = .int .i64 (k : Int) ∧ dv = .slice a (flK rows k).length c ∧ Hid (wr.ownsRow W1.heap.size 5 1 (.slice a (flK rows k).length c) (flK rows k).length ((flK rows k).map (Value.int .u8))) ∧ Hid (Keeps [] W1 wr)) (fun _ iv _ => n - (intOf iv).toNat)
        case atStart => exact ⟨0, none, 0, Nat.zero_le _, rfl, rfl, hid (World.ownsRow_nil _ _ _ _), hid (Keeps.refl _ _)⟩
        case round =>
          obtain ⟨k, a, c, hk, rfl, rfl, OW, KR⟩ := hrel
          by_cases hlt : k < n - 1
          · have HLT := hid hlt
            have n3 : 3 ≤ n := HN.out.1
            have n16 : n ≤ 16 := HN.out.2
            have HKR := hid (show k < rows.length by rw [RLEN.out]; omega)
            have TK := hid (show flK rows (k + 1) = flK rows k ++ rows.getD k [] from flK_succ HKR.out)
            have TL := hid (show (flK rows k).length ≤ 400 * 16 by
              unfold flK
              refine Nat.le_trans (flat_le (fun r hr => RSM.out r (List.mem_of_mem_take hr))) ?_
              rw [List.length_take]
              have := HN.out
              omega)
            obtain ⟨g, off, cap, u, ev, cu, ru, lu, _⟩ := (RV.out.keep KR.out).at (k := k) (by rw [ROL.out]; omega)
            injection ev with ea en ec
            clear en
            subst ea
            subst ec
            obtain ⟨l, hl⟩ : ∃ l, l = (rowsOf es).getD k [] := ⟨_, rfl⟩
            rw [← hl] at ru lu
            obtain ⟨ua, uc, rfl⟩ : ∃ a c, u = .slice a l.length c := by obtain ⟨a, c, e, _⟩ := ru; exact ⟨a, c, e⟩
            have HLK := hid hl
            have HRU := hid ru
            have HCU := hid cu
            clear hl ru lu
            by_cases hki : k = i0
            · have hki' : ((i0 : Int) == (k : Int)) = true := by rw [hki]; simp
              have CM := hid (KR.out.cell M0.out (by simp))
              have RL := hid (show rows.getD k [] = xorN K (rowsOf es) by rw [HROWS.out, hki, List.getD_eq_getElem?_getD, List.getElem?_set_self (by rw [ROL.out]; exact HI0.out)]; rfl)
              have HKI := hid hki
              have cm := CM.out
              have cu := HCU.out
              clear hki
              go_wp2_with (first | (refine wpList_is rfl _ _ (exec_buildRHd3 _ _ _ rfl (k : Int) (n : Int) (zL es) rfl rfl rfl) ?_) | fail)
              refine (rlong_any wr ⟨⟨0, 0, 0⟩, (k : Int), (n : Int), zL es⟩ (by rw [HKI.out]; exact SMF.out) (by have := HLT.out; show (k : Int) < (n : Int); omega)).mono ?_
              rintro e w3 ⟨rfl, k3⟩
              have KL := hid (show longI (k : Int) (zL es) (n : Int) = (K : Int) by rw [HKI.out]; exact HK.out)
              have K3 := hid k3
              have K13 := hid (KR.out.trans k3)
              clear k3
              simp only
              rw [KL.out]
              go_wp2_with fail
              refine ((RV.out.keep K13.out).rxor (by rw [ROL.out]; have := HN.out; omega) XB.out).mono ?_
              rintro e w4 ⟨xa, xc, rfl, xrow, xnew, k4⟩
              obtain ⟨X, hX⟩ : ∃ X, X = xorL (rowsOf es) := ⟨_, rfl⟩
              have KXL := hid (show K ≤ X.length by rw [hX]; exact KLE.out)
              have XT := hid (show X.take K = xorN K (rowsOf es) by rw [hX]; exact xorN_take _ _ _ (by have := KLE.out; rw [xorL_length] at this; exact this))
              rw [← hX] at xrow
              rw [← hX]
              obtain ⟨s1, st1, st2, st3, st4⟩ := row_take xrow K KXL.out
              have ST := hid st1
              have XR := hid (st3 w4 xrow)
              have K14 := hid (K13.out.trans k4)
              have K4 := hid k4
              have XK := hid (show ¬ ((X.length : Int) < (K : Int)) by have := KXL.out; omega)
              clear xrow xnew k4 st1 st2 st3 st4 hX cm cu
              go_wp2_with fail
              go_loopw [19] (fun xv wq => xv = .slice xa X.length xc ∧ wq = w4) (fun _ _ => 0)
              case atStart => exact ⟨rfl, rfl⟩
              case round =>
                obtain ⟨rfl, rfl⟩ := hrel
                have xk := XK.out
                have OWQ := hid (own_keeps OW.out (K3.out.trans K4.out))
                obtain ⟨a1, c1, w5, hrun, ho, hkk⟩ := append_o13 OWQ.out s1 K xc (es := xorN K (rowsOf es)) (by rw [← XT.out]; exact XR.out) (by have := TL.out; have := RSM.out (rows.getD k []) (by rw [List.getD_eq_getElem?_getD, List.getElem?_eq_getElem HKR.out]; exact List.getElem_mem _); rw [RL.out] at this; omega) K14.out.size
                rw [← RL.out, ← TK.out] at hrun ho
                have RUN := hid hrun
                have OW2 := hid ho
                have KK := hid hkk
                clear hrun ho hkk
                go_wp2_with (first | (refine wpList_is rfl _ _ (exec_sliceK 34 _ _ _ _ _ rfl (ST.out _)) ?_) | (refine wpList_is rfl _ _ (exec_appendT 34 _ _ rfl rfl rfl RUN.out) ?_) | fail)
                go_roundw
                case rel => exact ⟨k + 1, a1, c1, by have := HLT.out; omega, by go_num, rfl, OW2, hid (keeps_own OWQ.out K14.out KK.out)⟩
                case measure => have := HLT.out; simp [intOf]; omega
            · have hki' : ((i0 : Int) == (k : Int)) = false := by simp; omega
              have CM := hid (KR.out.cell M0.out (by simp))
              have HKI := hid hki
              have cm := CM.out
              clear hki
              have RL := hid (show rows.getD k [] = l by rw [HLK.out]; exact by rw [HROWS.out, getD_set13 (by rw [ROL.out]; exact HI0.out), if_neg (fun e => HKI.out e.symm)])
              obtain ⟨a1, c1, w2, hrun, ho, hkk⟩ := append_o13 OW.out ua _ uc HRU.out (by have := TL.out; have := RSM.out (rows.getD k []) (by rw [List.getD_eq_getElem?_getD, List.getElem?_eq_getElem HKR.out]; exact List.getElem_mem _); rw [RL.out] at this; omega) KR.out.size
              rw [← RL.out, ← TK.out] at hrun ho
              have RUN := hid hrun
              have OW2 := hid ho
              have KK := hid hkk
              clear hrun ho hkk
              rw [RL.out] at RUN
              have cu := HCU.out
              go_wp2_with (first | (refine wpList_is rfl _ _ (exec_appendT 34 _ _ rfl rfl rfl RUN.out) ?_) | fail)
              go_roundw
              case rel => exact ⟨k + 1, a1, c1, by have := HLT.out; omega, by go_num, rfl, OW2, hid (keeps_own OW.out KR.out KK.out)⟩
              case measure => have := HLT.out; simp [intOf]; omega
          · obtain rfl : k = n - 1 := by omega
            have n3 : 3 ≤ n := HN.out.1
            have n16 : n ≤ 16 := HN.out.2
            go_wp2_with fail
            refine bodyPost_ret (res3_13 rfl rfl rfl rfl) rfl ?_
            rw [HR.out]
            exact ⟨KZ.out.trans KR.out, a, c, rfl, row_of_own OW.out (flat_byte (fun r hr => RBY.out r (List.mem_of_mem_take hr)))⟩
end Go.Proofs.Ytoglcohdanpciaa


/- layout: the reference's Join and Mend. -/
namespace Go.Proofs.Ytoglcohdanpciaa
open Go.RowKit Go.Shelf
set_option maxRecDepth 100000
set_option linter.unusedSimpArgs false
set_option linter.unusedVariables false

def RJPost (w : World) (r : List Int × Int) (e : Ending) (w' : World) : Prop :=
  Keeps [] w w' ∧ ∃ a c, e = .returned (.tuple #[.slice a r.1.length c, .int .i64 r.2]) ∧ RowAt w' (.slice a r.1.length c) r.1
theorem rj_no {w w' : World} {r : List Int × Int} {er : Int} (hr : r = ([], er)) (k : Keeps [] w w') : RJPost w r (.returned (.tuple #[.slice none 0 0, .int .i64 er])) w' := by
  subst hr
  exact ⟨k, none, 0, rfl, RowAt.nil _⟩
theorem joinL_rw (s : Spe) (ls : List (List Int)) (n : Int) : joinL s ls n = ((rwL ls.length (wholeL s ls n)).1, (rwL ls.length (wholeL s ls n)).2.2) := by
  unfold joinL rwL
  cases wholeL s ls n <;> rfl
theorem effL_none (ls : List (List Int)) : effL ls (-1) = ls := by
  unfold effL
  rw [if_neg (by omega)]
theorem effL_set {ls : List (List Int)} {k : Nat} (hk : k < ls.length) : effL ls (k : Int) = ls.set k [] := by
  unfold effL
  rw [if_pos (by omega)]
  rfl
set_option maxHeartbeats 6400000 in
theorem rjoin_any (w : World) (s : Spe) (fv : Value) (ls : List (List Int)) (n : Int) (hr : RsAt w fv ls) (hfew : ∀ l ∈ ls, l.length ≤ 35184372088832) :
    Calls Try.prog 32 #[.agg #[.int .i64 s.c, .int .i64 s.l, .int .i64 s.n], fv, .int .i64 n] w (RJPost w (joinL s ls n)) := by
  obtain ⟨fa, fc, hfv⟩ : ∃ a c, fv = .slice a ls.length c := by
    obtain ⟨rs, rfl, ⟨a, c, e, _⟩⟩ := hr
    exact ⟨a, c, by rw [e]; simp [raws]⟩
  subst hfv
  have ka : Keeps [] w (w.alloc (.cells s.cells.toArray 30)) := (Keeps.refl [] w).alloc _
  have RS := hid (range_cells (heap_alloc_new w (.cells s.cells.toArray 30)))
  have KA := hid ka
  have RW := hid (rwhole_any _ s _ ls n (-1) (hr.keep ka) hfew)
  rw [effL_none] at RW
  rw [joinL_rw]
  obtain ⟨q, hq⟩ : ∃ q, q = rwL ls.length (wholeL s ls n) := ⟨_, rfl⟩
  rw [← hq] at RW ⊢
  obtain ⟨d, z, er⟩ := q
  clear hq ka hr hfew
  go_enter Try.func32, Try.ntmps32
  go_wp2_with (first | (refine wpList_is rfl _ _ (exec_box 30 _ s.cells.toArray rfl rfl) ?_; refine Hid.out ?_) | fail)
  refine hid ?_
  obtain ⟨W, hW⟩ : ∃ z, z = w.alloc (.cells s.cells.toArray 30) := ⟨_, rfl⟩
  obtain ⟨b0, hb0⟩ : ∃ z, z = w.heap.size := ⟨_, rfl⟩
  rw [← hW, ← hb0]
  rw [← hW] at RS KA RW
  rw [← hb0] at RS
  clear hW hb0
  go_wp2_with (first | (refine wpList_isW rfl _ _ (exec_load _ _ _ _ rfl rfl (loadSpe _ b0 0 s RS.out)) ?_) | fail)
  refine RW.out.mono ?_
  rintro e w1 ⟨k1, a, c, rfl, row⟩
  have K1 := hid (KA.out.trans k1)
  have R1 := hid row
  clear k1 row
  go_wp2_with fail
  go_ret2
  exact ⟨K1.out, a, c, rfl, R1.out⟩
theorem mend_row {s : Spe} {es : List (List Int)} {n : Int} {rows : List (List Int)} {z : Int} {k : Nat} (hb : BytesL es) (hk : k < es.length) (he : es.getD k [] = []) (h : wholeL s es n = .ok (rows, z)) :
    (rowsL (rows.take (es.length - 1)).flatten es.length).getD k [] = rows.getD k [] ∧ ((rows.take (es.length - 1)).flatten).length = z.toNat := by
  obtain ⟨h1, h3, h16, hl, hv, _, hlen, _⟩ := whole_rows hb h
  have C := canon_take (n := es.length) (z := z.toNat) (by omega) hl hlen
  have CF := C.flat h3
  have CB := C.back h3
  have LD := longest_data (d := (rows.take (es.length - 1)).flatten) h3
  rw [CB, CF] at LD
  refine ⟨?_, CF⟩
  unfold rowsL
  rw [CB]
  have hmk := missL_mem.2 ⟨hk, he⟩
  have htl : (rows.take (es.length - 1)).length = es.length - 1 := by rw [List.length_take, hl]; omega
  by_cases hkn : k < es.length - 1
  · rw [List.getD_eq_getElem?_getD, List.getElem?_append_left (by rw [htl]; exact hkn), List.getElem?_take, if_pos hkn, ← List.getD_eq_getElem?_getD]
  · have hke : k = es.length - 1 := by omega
    have hok : maySv n = true ∧ (es.length : Int) = n := by
      by_cases hc : maySv n = true ∧ (es.length : Int) = n
      · exact hc
      · rw [whole_no hc] at h; cases h
    have hbad : lookBad s es.length es = false := by
      cases hq : lookBad s es.length es with
      | false => rfl
      | true => rw [whole_bad hok hq] at h; cases h
    match hml : missL es with
    | [] => rw [hml] at hmk; cases hmk
    | [i] =>
      rw [hml] at hmk
      simp at hmk
      subst hmk
      rw [whole_one hok hbad hml] at h
      injection h with h
      injection h with e1 e2
      have hx : rows.getD k [] = xorN (longN k (zL es).toNat es.length) ((rowsOf es).eraseIdx k) := by
        rw [← e1, List.getD_eq_getElem?_getD, List.getElem?_set_self (by rw [rowsOf_len]; exact hk)]; rfl
      have ht : rows.take (es.length - 1) = (rowsOf es).eraseIdx k := by
        rw [← e1, List.take_set_of_le (by omega), List.eraseIdx_eq_take_drop_succ, List.drop_of_length_le (by rw [rowsOf_len]; omega), List.append_nil, hke]
      rw [hx, List.getD_eq_getElem?_getD, List.getElem?_append_right (by rw [htl]; omega), htl, show k - (es.length - 1) = 0 by omega]
      simp only [List.getElem?_cons_zero, Option.getD_some]
      unfold xorL
      rw [LD, ht, hke, longN_last, e2]
    | _ :: _ :: _ => rw [whole_lost hok hbad (by rw [hml]; simp)] at h; cases h
theorem mend_out {s : Spe} {ls : List (List Int)} {i n : Int} (h : ¬ (maySv n = true ∧ (ls.length : Int) = n ∧ 0 ≤ i ∧ i < n)) : mendL s ls i n = ([], 1) := by
  unfold mendL
  split
  · rename_i h1
    rw [whole_no (by rw [List.length_set]; intro h2; exact h ⟨h2.1, h2.2, h1.1, by omega⟩)]
  · rfl
set_option maxHeartbeats 25600000 in
theorem rmend_any (w : World) (s : Spe) (fv : Value) (ls : List (List Int)) (i n : Int) (hr : RsAt w fv ls) (hfew : ∀ l ∈ ls, l.length ≤ 35184372088832) :
    Calls Try.prog 34 #[.agg #[.int .i64 s.c, .int .i64 s.l, .int .i64 s.n], fv, .int .i64 i, .int .i64 n] w (RJPost w (mendL s ls i n)) := by
  obtain ⟨fa, fc, hfv⟩ : ∃ a c, fv = .slice a ls.length c := by
    obtain ⟨rs, rfl, ⟨a, c, e, _⟩⟩ := hr
    exact ⟨a, c, by rw [e]; simp [raws]⟩
  subst hfv
  obtain ⟨r, hre⟩ : ∃ r, r = mendL s ls i n := ⟨_, rfl⟩
  rw [← hre]
  have HRE := hid hre
  have ka : Keeps [] w (w.alloc (.cells s.cells.toArray 30)) := (Keeps.refl [] w).alloc _
  have RS := hid (range_cells (heap_alloc_new w (.cells s.cells.toArray 30)))
  have KA := hid ka
  have FR := hid (hr.keep ka)
  have HFEW := hid hfew
  have LBY := hid hr.byte
  clear hre hr ka hfew
  go_enter Try.func34, Try.ntmps34
  go_wp2_with (first | (refine wpList_is rfl _ _ (exec_box 30 _ s.cells.toArray rfl rfl) ?_; refine Hid.out ?_) | fail)
  refine hid ?_
  obtain ⟨W, hW⟩ : ∃ z, z = w.alloc (.cells s.cells.toArray 30) := ⟨_, rfl⟩
  obtain ⟨b0, hb0⟩ : ∃ z, z = w.heap.size := ⟨_, rfl⟩
  rw [← hW, ← hb0]
  rw [← hW] at RS KA FR
  rw [← hb0] at RS
  clear hW hb0
  cases hm : maySv n with
  | false =>
    have HM := hid hm
    clear hm
    go_wp2_with fail
    refine (rmayn_as _ n false HM.out).mono ?_
    rintro e w' ⟨rfl, rfl⟩
    go_wp2_with fail
    go_ret2
    exact rj_no (by rw [HRE.out]; exact mend_out (by rw [HM.out]; simp)) KA.out
  | true =>
    have HM := hid hm
    obtain ⟨n3, n16⟩ := maySv_is.1 hm
    clear hm
    by_cases hl : (ls.length : Int) = n
    case neg =>
      have HL := hid hl
      have hl' : ((ls.length : Int) != n) = true := by simpa using hl
      clear hl
      go_wp2_with fail
      refine (rmayn_as _ n true HM.out).mono ?_
      rintro e w' ⟨rfl, rfl⟩
      go_wp2_with fail
      go_ret2
      exact rj_no (by rw [HRE.out]; exact mend_out (fun h => HL.out h.2.1)) KA.out
    subst hl
    have hl' : ((ls.length : Int) != (ls.length : Int)) = false := by simp
    by_cases hi0 : i < 0
    · have HI := hid hi0
      go_wp2_with fail
      refine (rmayn_as _ (ls.length : Int) true HM.out).mono ?_
      rintro e w' ⟨rfl, rfl⟩
      go_wp2_with fail
      go_ret2
      exact rj_no (by rw [HRE.out]; exact mend_out (fun h => by have := HI.out; omega)) KA.out
    by_cases hin : (ls.length : Int) ≤ i
    · have HI := hid hin
      go_wp2_with fail
      refine (rmayn_as _ (ls.length : Int) true HM.out).mono ?_
      rintro e w' ⟨rfl, rfl⟩
      go_wp2_with fail
      go_ret2
      exact rj_no (by rw [HRE.out]; exact mend_out (fun h => by have := HI.out; omega)) KA.out
    obtain ⟨k, rfl⟩ := Int.eq_ofNat_of_zero_le (show 0 ≤ i by omega)
    obtain ⟨m, hm⟩ : ∃ m, m = ls.length := ⟨_, rfl⟩
    have hkm : k < m := by omega
    have HKM := hid hkm
    have HML := hid hm
    have HM3 := hid (show 3 ≤ m ∧ m ≤ 16 by omega)
    have hk1 : ¬ (k : Int) < 0 := by omega
    have hk2 : ¬ (m : Int) ≤ (k : Int) := by omega
    have RW := hid (fun W1 (hW1 : Keeps [] W W1) => rwhole_any W1 s _ ls (ls.length : Int) (k : Int) (FR.out.keep hW1) HFEW.out)
    rw [effL_set (by omega)] at RW
    have MLS := hid (mendL_is (s := s) (n := (ls.length : Int)) (by omega : k < ls.length))
    rw [← hm] at RW MLS HM HRE hl' ⊢
    have ESB := hid (show BytesL (ls.set k []) from fun q hq => by
      rcases List.mem_or_eq_of_mem_set hq with h | h
      · exact LBY.out q h
      · rw [h]; simp)
    have ESL := hid (show (ls.set k []).length = m by rw [List.length_set, hm])
    have ESK := hid (show (ls.set k []).getD k [] = [] by rw [getD_set13 (by omega), if_pos rfl])
    clear hi0 hin hm n3 n16 hkm
    go_wp2_with fail
    refine (rmayn_as _ (m : Int) true HM.out).mono ?_
    rintro e w' ⟨rfl, rfl⟩
    go_wp2_with (first | (refine wpList_isW rfl _ _ (exec_load _ _ _ _ rfl rfl (loadSpe _ b0 0 s RS.out)) ?_) | fail)
    refine (RW.out _ (Keeps.refl _ _)).mono ?_
    cases hx : wholeL s (ls.set k []) (m : Int) with
    | error er =>
      have EN := hid (whole_err hx)
      have HRR := hid (show r = ([], er) by rw [HRE.out, MLS.out, hx]; rfl)
      rw [show rwL m (Except.error er : Except Int (List (List Int) × Int)) = (([], 0, er) : List Int × Int × Int) from rfl]
      rintro e w1 ⟨k1, a, c, rfl, _⟩
      have K1 := hid (KA.out.trans k1)
      have f0 : (er != 0) = true := by have := EN.out; simpa using this
      clear k1 hx
      go_wp2_with fail
      go_ret2
      exact rj_no HRR.out K1.out
    | ok q =>
      obtain ⟨rows, z⟩ := q
      obtain ⟨M1, M2⟩ := mend_row ESB.out (by rw [ESL.out]; exact HKM.out) ESK.out hx
      rw [ESL.out] at M1 M2
      obtain ⟨_, _, _, _, hv, hes, _, _⟩ := whole_rows ESB.out hx
      have hv' : mayHv z (m : Int) = true := hv
      obtain ⟨⟨_, _⟩, z0, z1⟩ := mayHv_is.1 hv'
      have HRR := hid (show r = (headB13 ⟨s, (k : Int), (m : Int), z⟩ ++ rows.getD k [], 0) by rw [HRE.out, MLS.out, hx]; rfl)
      obtain ⟨d, hd⟩ : ∃ d, d = (rows.take (m - 1)).flatten := ⟨_, rfl⟩
      have hz : z = (d.length : Int) := by rw [hd, M2]; omega
      subst hz
      have HMOST := hid (show d.length ≤ 400 * (m - 1) by have := HM3.out; omega)
      have HFIT := hid (fitH_of (i := k) (n := m) (z := d.length) hes (small_of HM3.out.1 HM3.out.2 HKM.out HMOST.out))
      rw [← hd] at M1
      have RLM := hid M1
      have HDE := hid hd
      rw [show rwL m (Except.ok (rows, (d.length : Int))) = (d, (d.length : Int), 0) by rw [hd]; rfl]
      rintro e w1 ⟨k1, a, c, rfl, row⟩
      simp only at row
      have KWW := hid k1
      have K1 := hid (KA.out.trans k1)
      have R1 := hid row
      have f0 : ((0 : Int) != 0) = false := rfl
      clear k1 row hx M1 M2 hv hv' z0 z1 hes hd
      simp only
      go_wp2_with fail
      refine (rParts_any w1 _ d m R1.out HM3.out.1 HM3.out.2 HMOST.out).mono ?_
      rintro e w2 ⟨ga, gc, rfl, hg⟩
      have RLL := hid (rowsL_len (d := d) (n := m) HM3.out.1)
      obtain ⟨g, c2, ev, g1, g2⟩ := hg.slice (by rw [RLL.out]; have := HM3.out; omega)
      rw [RLL.out] at ev
      injection ev with e1 _ e3
      subst e1
      subst e3
      have hg' : GrowAt w1 w2 (.slice (some ⟨g, 0, none⟩) (rowsL d m).length gc) (rowsL d m) := by rw [RLL.out]; exact hg
      obtain ⟨xa, xc, x1, _, x3⟩ := hg'.cell (k := k) (by rw [RLL.out]; exact HKM.out)
      obtain ⟨rl, hrl⟩ : ∃ x, x = (rowsL d m).getD k [] := ⟨_, rfl⟩
      have RLN := hid (show rl.length ≤ 400 by
        rw [hrl, rows_len_at HM3.out.1 HKM.out]
        exact Nat.le_trans (longN_le _ _ _) (eN_most HMOST.out))
      have HR2 := hid (show r = (headB13 ⟨s, (k : Int), (m : Int), (d.length : Int)⟩ ++ rl, 0) by rw [HRR.out, hrl, RLM.out])
      rw [← hrl] at x1 x3
      have X1 := hid x1
      have X3 := hid x3
      have K2 := hid (K1.out.trans hg.kept)
      have SGr := hid (show w2.rangeAt b0 0 s.cells from fun i u hu => (KWW.out.trans hg.kept).cell (RS.out i u hu) (by simp))
      have LBS := hid (show b0 < w2.heap.size from World.block_lt_of_cell? _ _ (SGr.out 0 _ rfl))
      have LBG := hid (show g < w2.heap.size from World.block_lt_of_cell? _ _ x1)
      have fS := hid (show ∀ W1, KpS [] w2.heap.size w2.drew W1 → W1.rangeAt b0 0 s.cells from fun W1 h i v hv => h.cell (by rw [World.cell?_drew]; exact SGr.out i v hv) LBS.out (by simp))
      have fC := hid (show ∀ W1, KpS [] w2.heap.size w2.drew W1 → W1.cell? ⟨g, k, none⟩ = some (.slice xa rl.length xc) from fun W1 h => h.cell (by rw [World.cell?_drew]; exact X1.out) LBG.out (by simp))
      have hkm := HKM.out
      clear x1 x3 hg hg' hrl g1 g2
      go_wp2_with fail
      refine wp_region_any (by kernel_rfl) (wpAny_of_held (S := KpS [] w2.heap.size w2.drew) _ _ _ _ ?_)
      change wpAnyH _ _ _ _ _ _ _ _ w2.drew
      have s0 : KpS [] w2.heap.size w2.drew w2.drew := KpS.refl _ _ _
      refine held_take (i := 0) (v := .agg #[.int .i64 s.c, .int .i64 s.l, .int .i64 s.n]) rfl (by kernel_rfl) (by kernel_rfl) (by kernel_rfl) (fun _ _ _ h => h) rfl (fun W1 hW1 => exec_load _ _ _ _ rfl rfl (loadSpe W1 b0 0 s (fS.out W1 hW1))) (s0) ?_
      simp only [Act.put, List.setIfInBounds_toArray, List.set_cons_zero, List.set_cons_succ]
      refine held_take (i := 1) (v := .int .i64 (k : Int)) rfl (by kernel_rfl) (by kernel_rfl) (by kernel_rfl) (fun _ _ _ h => h) rfl (fun W1 hW1 => by go_simp) (s0) ?_
      simp only [Act.put, List.setIfInBounds_toArray, List.set_cons_zero, List.set_cons_succ]
      refine held_take (i := 2) (v := .int .i64 (m : Int)) rfl (by kernel_rfl) (by kernel_rfl) (by kernel_rfl) (fun _ _ _ h => h) rfl (fun W1 hW1 => by go_simp) (s0) ?_
      simp only [Act.put, List.setIfInBounds_toArray, List.set_cons_zero, List.set_cons_succ]
      refine held_take (i := 3) (v := .int .i64 (d.length : Int)) rfl (by kernel_rfl) (by kernel_rfl) (by kernel_rfl) (fun _ _ _ h => h) rfl (fun W1 hW1 => by go_simp) (s0) ?_
      simp only [Act.put, List.setIfInBounds_toArray, List.set_cons_zero, List.set_cons_succ]
      refine held_take (i := 4) (v := hdV13 ⟨s, k, m, d.length⟩) rfl (by kernel_rfl) (by kernel_rfl) (by kernel_rfl) (fun _ _ _ h => h) rfl (fun W1 hW1 => exec_buildRHd4 _ _ _ _ rfl s k m d.length rfl rfl rfl rfl) (s0) ?_
      simp only [Act.put, List.setIfInBounds_toArray, List.set_cons_zero, List.set_cons_succ]
      refine held_take (i := 6) (v := .slice (some ⟨g, 0, none⟩) m gc) rfl (by kernel_rfl) (by kernel_rfl) (by kernel_rfl) (fun _ _ _ h => h) rfl (fun W1 hW1 => by go_simp) (s0) ?_
      simp only [Act.put, List.setIfInBounds_toArray, List.set_cons_zero, List.set_cons_succ]
      refine held_take (i := 7) (v := .int .i64 (k : Int)) rfl (by kernel_rfl) (by kernel_rfl) (by kernel_rfl) (fun _ _ _ h => h) rfl (fun W1 hW1 => by go_simp) (s0) ?_
      simp only [Act.put, List.setIfInBounds_toArray, List.set_cons_zero, List.set_cons_succ]
      refine held_take (i := 8) (v := .pointer (some ⟨g, k, none⟩)) rfl (by kernel_rfl) (by kernel_rfl) (by kernel_rfl) (fun _ _ _ h => h) rfl (fun W1 hW1 => by go_simp) (s0) ?_
      simp only [Act.put, List.setIfInBounds_toArray, List.set_cons_zero, List.set_cons_succ]
      refine held_take (i := 9) (v := .slice xa rl.length xc) rfl (by kernel_rfl) (by kernel_rfl) (by kernel_rfl) (fun _ _ _ h => h) rfl (fun W1 hW1 => exec_load _ _ _ _ rfl rfl (run_loadCell W1 _ _ _ (fC.out W1 hW1) (agg_no _ (by kernel_rfl)))) (s0) ?_
      simp only [Act.put, List.setIfInBounds_toArray, List.set_cons_zero, List.set_cons_succ]
      refine held_do (i := 5) (by kernel_rfl) rfl rfl (wp_enter (f := 67) (args := #[hdV13 ⟨s, k, m, d.length⟩]) (by go_simp) (rhead_any w2.drew ⟨s, k, m, d.length⟩ HFIT.out) ?_)
      rintro e w7 ⟨ha, hc, rfl, ho, hk⟩
      have kp7 : KpS [] w2.heap.size w2.drew w7 := KpS.keeps s0 hk (Nat.le_refl _) (by simp)
      refine ⟨_, rfl, kp7, ?_⟩
      simp only [Act.put, List.setIfInBounds_toArray, List.set_cons_zero, List.set_cons_succ]
      have hk' : Keeps [] w2 w7 := (Keeps.refl [] w2).drew.trans hk
      have x37 := X3.out.keep hk' (by intro _ _ _ _ _; simp)
      have hkL : (headB13 ⟨s, k, m, d.length⟩).length = 12 := headB13_len _
      obtain ⟨a8, c8, w8, hrun, hrow8, hnew8, hk8⟩ := append_b13 (w := w7) (B := w2.heap.size) ho xa rl.length xc x37 (by have := RLN.out; omega) hk'.size (headB13_byte _)
      have hown : ∀ b, (Value.slice ha (headB13 ⟨s, k, m, d.length⟩).length hc).ownBlock = some b → w2.heap.size ≤ b := fun b hb => (ho.lt b hb).1
      have hk8' : Keeps [] w2 w8 := hk'.trans' hk8 (fun j hj hm => by
        have := hown j (by simpa using hm)
        omega)
      have kp8 : KpS [] w2.heap.size w2.drew w8 := KpS.keeps kp7 hk8 hk'.size (fun j hj hlt2 => absurd (hown j (by simpa using hj)) (by omega))
      refine held_do (i := 10) (by kernel_rfl) rfl rfl (wp_value (exec_appendT 34 _ _ rfl rfl rfl hrun) ?_)
      refine ⟨kp8, ?_⟩
      simp only [Act.put, List.setIfInBounds_toArray, List.set_cons_zero, List.set_cons_succ]
      refine held_take (i := 11) (v := .slice a8 (headB13 ⟨s, k, m, d.length⟩ ++ rl).length c8) rfl (by kernel_rfl) (by kernel_rfl) (by kernel_rfl) (fun _ _ _ h => h) rfl (fun W1 hW1 => by go_simp) (kp8) ?_
      simp only [Act.put, List.setIfInBounds_toArray, List.set_cons_zero, List.set_cons_succ]
      refine held_take (i := 12) (v := .int .i64 0) rfl (by kernel_rfl) (by kernel_rfl) (by kernel_rfl) (fun _ _ _ h => h) rfl (fun W1 hW1 => by go_simp) (kp8) ?_
      simp only [Act.put, List.setIfInBounds_toArray, List.set_cons_zero, List.set_cons_succ]
      refine wpAnyH_done (by kernel_rfl) ?_ _
      go_wp2_with fail
      go_ret2
      rw [HR2.out]
      exact ⟨K2.out.trans hk8', a8, c8, rfl, hrow8⟩
end Go.Proofs.Ytoglcohdanpciaa


/- layout: the walk of the law LayoutJoins. -/
namespace Go.Proofs.Ytoglcohdanpciaa
open Go.RowKit Go.Shelf
set_option maxRecDepth 100000
set_option linter.unusedSimpArgs false
set_option linter.unusedVariables false

theorem RsAt.small {w : World} {v : Value} {ls : List (List Int)} (h : RsAt w v ls) (most : Nat) : ∃ b, (b = true → ls.length ≤ 40 ∧ ∀ l ∈ ls, l.length ≤ most) ∧ Calls Try.prog 30 #[v, .int .i64 (most : Int)] w fun e w' => e = .returned (.bool b) ∧ w = w' := by
  obtain ⟨rs, rfl, hr⟩ := h
  exact ⟨smallB rs most, fun h => ⟨by simpa [raws] using smallB_len h, fun l hl => by have := smallB_row h l hl; omega⟩, small_any w v rs most hr⟩
theorem joinL_len {s : Spe} {ls : List (List Int)} {n : Int} (hb : BytesL ls) : (joinL s ls n).1.length ≤ 35184372088832 := by
  unfold joinL
  cases h : wholeL s ls n with
  | error e => simp
  | ok q =>
    obtain ⟨rows, z⟩ := q
    obtain ⟨h1, h3, h16, hl, hv, _, hlen, _⟩ := whole_rows hb h
    have CF := (canon_take (n := ls.length) (z := z.toNat) (by omega) hl hlen).flat h3
    obtain ⟨⟨_, _⟩, z0, z1⟩ := mayHv_is.1 hv
    simp only
    rw [CF]
    omega
theorem mendL_len {s : Spe} {ls : List (List Int)} {i n : Int} (hb : BytesL ls) : (mendL s ls i n).1.length ≤ 35184372088832 := by
  unfold mendL
  split
  · rename_i hi
    cases h : wholeL s (ls.set i.toNat []) n with
    | error e => simp
    | ok q =>
      obtain ⟨rows, z⟩ := q
      obtain ⟨h1, h3, h16, hl, hv, _, hlen, _⟩ := whole_rows (fun q hq => by
        rcases List.mem_or_eq_of_mem_set hq with h | h
        · exact hb q h
        · rw [h]; simp) h
      rw [List.length_set] at hlen h1 h3 h16
      have hk := hlen i.toNat (by omega)
      obtain ⟨⟨_, _⟩, z0, z1⟩ := mayHv_is.1 hv
      have h4 := longN_le i.toNat z.toNat ls.length
      have h5 := eN_most (z := z.toNat) (n := ls.length) (by omega)
      simp only
      rw [List.length_append, headB13_len, hk]
      omega
  · simp
set_option maxHeartbeats 25600000 in
theorem yJoins_any (w : World) (s : Spe) (v : Value) (ls : List (List Int)) (n0 n1 : Int) (hr : RsAt w v ls) :
    Calls Try.prog 6 #[.agg #[.int .i64 s.c, .int .i64 s.l, .int .i64 s.n], v, .agg #[.int .i64 n0, .int .i64 n1]] w fun e w' => e = .returned (.bool true) ∧ Keeps [] w w' := by
  obtain ⟨va, vc, hfv⟩ : ∃ a c, v = .slice a ls.length c := by
    obtain ⟨rs, rfl, ⟨a, c, e, _⟩⟩ := hr
    exact ⟨a, c, by rw [e]; simp [raws]⟩
  subst hfv
  obtain ⟨w0, hw0⟩ : ∃ x, x = (w.alloc (.cells #[.int .i64 s.c, .int .i64 s.l, .int .i64 s.n] 30)).alloc (.cells #[.int .i64 n0, .int .i64 n1] 52) := ⟨_, rfl⟩
  have HW0 := hid hw0
  have ka : Keeps [] w (w.alloc (.cells #[.int .i64 s.c, .int .i64 s.l, .int .i64 s.n] 30)) := (Keeps.refl [] _).alloc _
  have k0 : Keeps [] w w0 := by rw [hw0]; exact ka.alloc _
  have b1 : w0.heap[w.heap.size]? = some (.cells #[.int .i64 s.c, .int .i64 s.l, .int .i64 s.n] 30 (0, 0)) := by
    rw [hw0]
    exact (((Keeps.refl [] _).alloc _).block w.heap.size (by simp) (by simp)).trans (heap_alloc_new w _)
  have b2 : w0.heap[w.heap.size + 1]? = some (.cells #[.int .i64 n0, .int .i64 n1] 52 (0, 0)) := by
    rw [hw0]
    have := heap_alloc_new (w.alloc (.cells #[.int .i64 s.c, .int .i64 s.l, .int .i64 s.n] 30)) (.cells #[.int .i64 n0, .int .i64 n1] 52)
    rw [World.size_alloc] at this
    exact this
  have G0 := hid (show w0.rangeAt w.heap.size 0 s.cells from range_cells b1)
  have N0 := hid (show w0.rangeAt (w.heap.size + 1) 0 [.int .i64 n0, .int .i64 n1] from range_cells b2)
  have R0 := hid (hr.keep k0)
  have K0 := hid k0
  have A1 := hid (yAwake_any w0)
  have HBY := hid hr.byte
  have JL := hid (joinL_len (s := s) (n := n0) HBY.out)
  have ML := hid (mendL_len (s := s) (i := n1) (n := n0) HBY.out)
  obtain ⟨j, hj⟩ : ∃ j, j = joinL s ls n0 := ⟨_, rfl⟩
  obtain ⟨m, hm⟩ : ∃ m, m = mendL s ls n1 n0 := ⟨_, rfl⟩
  rw [← hj] at JL
  rw [← hm] at ML
  have HJ := hid hj
  have HM := hid hm
  clear hw0 ka k0 b1 b2 hr hj hm
  go_enter Try.func6, Try.ntmps6
  go_wp2_with fail
  rw [← HW0.out]
  refine A1.out.mono ?_
  rintro e w1 ⟨rfl, k1⟩
  have K1 := hid (K0.out.trans k1)
  have K01 := hid k1
  have R1 := hid (R0.out.keep k1)
  obtain ⟨b, hb, SM⟩ := R1.out.small 500
  have HB := hid hb
  clear k1 hb
  go_wp2_with fail
  refine SM.mono ?_
  clear SM
  rintro e w' ⟨rfl, rfl⟩
  cases b with
  | false =>
    go_wp2_with fail
    go_ret
    exact ⟨rfl, K1.out⟩
  | true =>
    obtain ⟨h40, h500⟩ := HB.out rfl
    have H40 := hid h40
    have HFEW := hid (show ∀ l ∈ ls, l.length ≤ 35184372088832 from fun l hl => by have := h500 l hl; omega)
    have GW := hid (show ∀ W1, Keeps [] w1 W1 → W1.rangeAt w.heap.size 0 s.cells from fun W1 k i u hu => (K01.out.trans k).cell (G0.out i u hu) (by simp))
    have NW := hid (show ∀ W1, Keeps [] w1 W1 → W1.cell? ⟨w.heap.size + 1, 0, none⟩ = some (.int .i64 n0) ∧ W1.cell? ⟨w.heap.size + 1, 1, none⟩ = some (.int .i64 n1) from fun W1 k => by
      have c0 := (K01.out.trans k).cell (N0.out 0 _ rfl) (by simp)
      have c1 := (K01.out.trans k).cell (N0.out 1 _ rfl) (by simp)
      rw [Nat.zero_add] at c0 c1
      exact ⟨c0, c1⟩)
    have c0 := (NW.out w1 (Keeps.refl _ _)).1
    clear h40 h500 A1 HW0 G0 N0 R0 K0 HB
    go_wp2_with (first | (refine wpList_isW rfl _ _ (exec_load _ _ _ _ rfl rfl (loadSpe _ w.heap.size 0 s (GW.out _ (Keeps.refl _ _)))) ?_) | fail)
    clear c0
    have HC := lJoin_any w1 s _ ls n0 R1.out HFEW.out
    rw [← HJ.out] at HC
    refine HC.mono ?_
    clear HC
    rintro e w2 ⟨k2, ja, jc, rfl, jr, _⟩
    have K2 := hid k2
    have JR := hid jr
    clear k2 jr
    go_wp2_with (first | (refine wpList_isW rfl _ _ (exec_load _ _ _ _ rfl rfl (loadSpe _ w.heap.size 0 s (GW.out _ K2.out))) ?_) | fail)
    have HC := rjoin_any w2 s _ ls n0 (R1.out.keep K2.out) HFEW.out
    rw [← HJ.out] at HC
    refine HC.mono ?_
    clear HC
    rintro e w3 ⟨k3, qa, qc, rfl, qr⟩
    have K3 := hid (K2.out.trans k3)
    have JR3 := hid (JR.out.keep k3 (by intro _ _ _ _ _; simp))
    have QR := hid qr
    have c1 := (NW.out w3 K3.out).2
    clear k3 qr
    go_wp2_with (first | (refine wpList_isW rfl _ _ (exec_load _ _ _ _ rfl rfl (loadSpe _ w.heap.size 0 s (GW.out _ K3.out))) ?_) | fail)
    clear c1
    have HC := lMend_any w3 s _ ls n1 n0 (R1.out.keep K3.out) (by have := H40.out; omega) HFEW.out
    rw [← HM.out] at HC
    refine HC.mono ?_
    clear HC
    rintro e w4 ⟨k4, ma, mc, rfl, mr, _⟩
    have K4 := hid (K3.out.trans k4)
    have JR4 := hid (JR3.out.keep k4 (by intro _ _ _ _ _; simp))
    have QR4 := hid (QR.out.keep k4 (by intro _ _ _ _ _; simp))
    have MR := hid mr
    have c1 := (NW.out w4 K4.out).2
    clear k4 mr
    go_wp2_with (first | (refine wpList_isW rfl _ _ (exec_load _ _ _ _ rfl rfl (loadSpe _ w.heap.size 0 s (GW.out _ K4.out))) ?_) | fail)
    clear c1
    have HC := rmend_any w4 s _ ls n1 n0 (R1.out.keep K4.out) HFEW.out
    rw [← HM.out] at HC
    refine HC.mono ?_
    clear HC
    rintro e w5 ⟨k5, xa, xc, rfl, xr⟩
    have K5 := hid (K4.out.trans k5)
    have JR5 := hid (JR4.out.keep k5 (by intro _ _ _ _ _; simp))
    have QR5 := hid (QR4.out.keep k5 (by intro _ _ _ _ _; simp))
    have MR5 := hid (MR.out.keep k5 (by intro _ _ _ _ _; simp))
    have XR := hid xr
    clear k5 xr
    have e1 : (j.2 == j.2) = true := by simp
    have e2 : (m.2 == m.2) = true := by simp
    go_wp2_with fail
    refine (same_any w5 _ _ j.1 j.1 JR5.out QR5.out JL.out JL.out).mono ?_
    rintro e w6 ⟨rfl, x6, rfl⟩
    rw [decide_eq_true rfl]
    have kd : Keeps [] w5 (w5.drewN x6) := (Keeps.refl _ _).drewN x6
    have MR6 := hid (MR5.out.keep kd (by intro _ _ _ _ _; simp))
    have XR6 := hid (XR.out.keep kd (by intro _ _ _ _ _; simp))
    have K6 := hid (K5.out.trans kd)
    clear kd
    go_wp2_with fail
    refine (same_any (w5.drewN x6) _ _ m.1 m.1 MR6.out XR6.out ML.out ML.out).mono ?_
    rintro e w7 ⟨rfl, x7, rfl⟩
    rw [decide_eq_true rfl]
    have kd : Keeps [] (w5.drewN x6) ((w5.drewN x6).drewN x7) := (Keeps.refl _ _).drewN x7
    have K7 := hid (K6.out.trans kd)
    clear kd
    go_wp2_with fail
    go_ret
    exact ⟨rfl, K1.out.trans (K5.out.trans ((Keeps.refl _ _).drewN _))⟩
end Go.Proofs.Ytoglcohdanpciaa
