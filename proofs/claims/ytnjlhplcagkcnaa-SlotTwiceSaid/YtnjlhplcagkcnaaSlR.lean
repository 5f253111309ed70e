/- Slots: what a disk that dies in the midst of a Put or a Clear has behind a crash (plain mathematics). -/
import Derived.Test.YtnjlhplcagkcnaaSlP
namespace Go.Proofs.Ytnjlhplcagkcnaa
open Go.RowKit

theorem keptBy_in (ch : List Int) (l : List (Nat × Row)) : ∀ x ∈ keptBy ch l, x ∈ l := by
  intro x hx
  simp only [keptBy, List.mem_map, List.mem_filter] at hx
  obtain ⟨⟨y, i⟩, ⟨hy, _⟩, rfl⟩ := hx
  obtain ⟨_, _, e⟩ := List.mem_zipIdx hy
  rw [e]
  exact List.getElem_mem _

/-- A living disk of c sectors that are f. -/
def flat (f : Nat → Row) (c : Nat) : DS := ⟨c, f, f, [], -1, 0, false⟩
theorem flat_alive (f : Nat → Row) (c : Nat) : Alive (flat f c) := ⟨rfl, by show (-1 : Int) < 0; omega⟩
theorem crashed_flat (s : DS) (ch : List Int) : s.crashed ch = flat (crashRow s ch) s.cnt := rfl
theorem Reads.same {s s' : DS} {first : Nat} {hs : List Hd} {want : Nat → List Int} (h : Reads s first hs want) (a : Alive s') (c : s'.cnt = s.cnt) (e : ∀ j, s'.now j = s.now j) : Reads s' first hs want :=
  ⟨a, by rw [c]; exact h.fit, fun j hj => by rw [e]; exact h.heads j hj, fun j hj hu => by rw [← h.holds j hj hu]; exact getB_same fun q _ => e _⟩
/-- What holds of the slots in use alone. -/
theorem Reads.other {s : DS} {first : Nat} {hs : List Hd} {want want' : Nat → List Int} (h : Reads s first hs want) (e : ∀ j (hj : j < hs.length), hs[j].used = true → want' j = want j) : Reads s first hs want' :=
  ⟨h.alive, h.fit, h.heads, fun j hj hu => by rw [e j hj hu]; exact h.holds j hj hu⟩
/-- Sectors behind the head of a slot that is free may be whatever. -/
theorem Reads.loose {s s' : DS} {first : Nat} {hs : List Hd} {want : Nat → List Int} (h : Reads s first hs want) (a : Alive s') (c : s'.cnt = s.cnt) (i : Nat) (hi : i < hs.length) (hu : hs[i].used = false)
    (e : ∀ j, (j < first + i * 8 + 1 ∨ first + i * 8 + 8 ≤ j) → s'.now j = s.now j) : Reads s' first hs want :=
  ⟨a, by rw [c]; exact h.fit, fun j hj => by rw [e _ (by omega)]; exact h.heads j hj, fun j hj hj2 => by
    rw [← h.holds j hj hj2]
    have hne : j ≠ i := fun e => by subst e; rw [hu] at hj2; cases hj2
    exact getB_same fun q hq => e _ (by omega)⟩

/-- All that is written lasts, and the slots read as hs and want. -/
structure Ready (s : DS) (first : Nat) (hs : List Hd) (want : Nat → List Int) : Prop where
  none : s.loose = []
  lasts : s.las = s.now
  reads : Reads (flat s.now s.cnt) first hs want
theorem Ready.crash {s : DS} {first : Nat} {hs : List Hd} {want : Nat → List Int} (h : Ready s first hs want) (ch : List Int) : Reads (s.crashed ch) first hs want := by
  refine h.reads.same (flat_alive _ _) rfl fun j => ?_
  show crashRow s ch j = s.now j
  unfold crashRow
  rw [h.none, h.lasts]
  rfl
theorem Ready.after (s : DS) (ch : List Int) {first : Nat} {hs : List Hd} {want : Nat → List Int} (h : Reads (s.crashed ch) first hs want) : Ready (s.crashed ch) first hs want := ⟨rfl, rfl, h⟩
theorem Ready.fuse {s : DS} {first : Nat} {hs : List Hd} {want : Nat → List Int} (h : Ready s first hs want) (k : Int) : Ready (fuseS s k) first hs want := by
  unfold fuseS
  split
  · exact h
  · exact ⟨h.none, h.lasts, h.reads⟩

/-- What stands after part of a row is written, whatever the fuse. -/
structure Part (s s' : DS) (lo hi : Nat) (f : Nat → Row) : Prop where
  cnt : s'.cnt = s.cnt
  las : s'.las = s.las
  loose : ∀ x ∈ s'.loose, lo ≤ x.1 ∧ x.1 < hi
  now : s'.dead = false → ∀ j, s'.now j = f j

theorem writeS_live {s : DS} (hd : s.dead = false) {n : Nat} {zs : List Int} (hn : n < s.cnt) (hz : zs.length = 64) :
    (writeS s n zs).cnt = s.cnt ∧ (writeS s n zs).las = s.las ∧ (writeS s n zs).loose = s.loose ++ [(n, mkRow zs)] ∧ ((writeS s n zs).dead = false → (writeS s n zs).now = upd s.now n (mkRow zs)) ∧ ((writeS s n zs).dead = true ↔ s.fuse = 0) := by
  have ht : s.takes n zs.length := ⟨hd, by omega, by omega, hz⟩
  simp only [writeS, if_pos ht, DS.wrote, Int.toNat_natCast]
  by_cases hf : s.fuse = 0
  · simp [hf]
  · simp [hf, DS.spent, hd]

theorem holdW_part {s : DS} (hd : s.dead = false) (hl : s.loose = []) (n : Nat) (b : List Int) : ∀ k, n + k ≤ s.cnt →
    Part s (holdW s n b k) n (n + k) (fun j => if n ≤ j ∧ j < n + k then mkRow (pad64 (chk b (j - n))) else s.now j)
  | 0, _ => ⟨rfl, rfl, by intro x hx; simp [holdW, hl] at hx, fun _ j => by rw [if_neg (by omega)]; rfl⟩
  | k + 1, hk => by
    have ih := holdW_part hd hl n b k (by omega)
    show Part s (writeS (holdW s n b k) ((n + k : Nat) : Int) (pad64 (chk b k))) _ _ _
    cases hdk : (holdW s n b k).dead with
    | true =>
      rw [writeS_dead hdk]
      exact ⟨ih.cnt, ih.las, fun x hx => by have := ih.loose x hx; omega, fun h => by rw [hdk] at h; cases h⟩
    | false =>
      obtain ⟨w1, w2, w3, w4, w5⟩ := writeS_live hdk (n := n + k) (zs := pad64 (chk b k)) (by rw [holdW_cnt]; omega) (pad64_len (chk_le b k))
      refine ⟨w1.trans ih.cnt, w2.trans ih.las, fun x hx => ?_, fun h j => ?_⟩
      · rw [w3] at hx
        rcases List.mem_append.1 hx with hx | hx
        · have := ih.loose x hx; omega
        · simp at hx; subst hx; simp only; omega
      · rw [w4 h]
        by_cases e : j = n + k
        · subst e
          rw [upd_same, if_pos (by omega)]
          congr 3
          omega
        · rw [upd_ne _ _ e, ih.now hdk]
          by_cases h2 : n ≤ j ∧ j < n + k
          · rw [if_pos h2, if_pos (by omega)]
          · rw [if_neg h2, if_neg (by omega)]

theorem syncS_live {s : DS} (hd : s.dead = false) : (syncS s).cnt = s.cnt ∧ ((syncS s).dead = true → (syncS s).las = s.las ∧ (syncS s).loose = s.loose ∧ (syncS s).now = s.now) ∧ ((syncS s).dead = false → (syncS s).las = s.now ∧ (syncS s).loose = [] ∧ (syncS s).now = s.now) := by
  refine ⟨syncS_cnt s, ?_, ?_⟩
  all_goals
    unfold syncS
    rw [hd]
    by_cases hf : s.fuse = 0
    · simp [hf]
    · simp [hf, DS.synced, DS.spent, hd]

/-- Behind the row: dead, and what lasts is as it was; or all of it lasts. -/
theorem holdS_part {s : DS} (hd : s.dead = false) (hl : s.loose = []) (hs : s.las = s.now) (n : Nat) (b : List Int) (hn : n + nch b.length ≤ s.cnt) :
    ((holdS s n b).dead = true ∧ (holdS s n b).las = s.now ∧ ∀ x ∈ (holdS s n b).loose, n ≤ x.1 ∧ x.1 < n + nch b.length) ∨
    ((holdS s n b).dead = false ∧ (holdS s n b).loose = [] ∧ (holdS s n b).las = (holdS s n b).now ∧ ∀ j, (holdS s n b).now j = if n ≤ j ∧ j < n + nch b.length then mkRow (pad64 (chk b (j - n))) else s.now j) := by
  have p := holdW_part hd hl n b (nch b.length) hn
  cases hdk : (holdW s n b (nch b.length)).dead with
  | true =>
    left
    rw [holdS, syncS_dead hdk]
    exact ⟨hdk, p.las.trans hs, p.loose⟩
  | false =>
    obtain ⟨y1, y2, y3⟩ := syncS_live hdk
    rw [holdS]
    cases hds : (syncS (holdW s n b (nch b.length))).dead with
    | true =>
      left
      obtain ⟨z1, z2, z3⟩ := y2 hds
      exact ⟨rfl, by rw [z1, p.las, hs], fun x hx => p.loose x (by rw [← z2]; exact hx)⟩
    | false =>
      right
      obtain ⟨z1, z2, z3⟩ := y3 hds
      exact ⟨rfl, z2, by rw [z1, z3], fun j => by rw [z3]; exact p.now hdk j⟩

/-- Behind the head: dead, and it is there or not; or it lasts. -/
theorem markS_part {s : DS} (hd : s.dead = false) (hl : s.loose = []) (hs : s.las = s.now) (n : Nat) (h : Hd) (ok : h.Ok) (hn : n < s.cnt) :
    ((markS s n h).dead = true ∧ (markS s n h).las = s.now ∧ (markS s n h).loose = [(n, mkRow (pad64 (headB h)))]) ∨
    ((markS s n h).dead = false ∧ (markS s n h).loose = [] ∧ (markS s n h).las = (markS s n h).now ∧ (markS s n h).now = upd s.now n (mkRow (pad64 (headB h)))) := by
  obtain ⟨w1, w2, w3, w4, w5⟩ := writeS_live hd (n := n) (zs := pad64 (headB h)) hn (pad64_len (by have := headB_len h ok; omega))
  rw [hl, List.nil_append] at w3
  rw [markS]
  cases hdk : (writeS s n (pad64 (headB h))).dead with
  | true =>
    left
    rw [syncS_dead hdk]
    exact ⟨hdk, w2.trans hs, w3⟩
  | false =>
    obtain ⟨y1, y2, y3⟩ := syncS_live hdk
    cases hds : (syncS (writeS s n (pad64 (headB h)))).dead with
    | true =>
      left
      obtain ⟨z1, z2, z3⟩ := y2 hds
      exact ⟨rfl, by rw [z1, w2, hs], by rw [z2, w3]⟩
    | false =>
      right
      obtain ⟨z1, z2, z3⟩ := y3 hds
      exact ⟨rfl, z2, by rw [z1, z3], by rw [z3, w4 hdk]⟩

theorem crashRow_out {s : DS} (ch : List Int) (j : Nat) (h : ∀ x ∈ s.loose, x.1 ≠ j) : crashRow s ch j = s.las j := by
  unfold crashRow
  have hk : ∀ x ∈ keptBy ch s.loose, x.1 ≠ j := fun x hx => h x (keptBy_in ch _ x hx)
  generalize keptBy ch s.loose = l at hk
  have : ∀ (l : List (Nat × Row)) (g : Nat → Row), (∀ x ∈ l, x.1 ≠ j) → (l.foldl (fun g x => upd g x.1 x.2) g) j = g j := by
    intro l
    induction l with
    | nil => intro g _; rfl
    | cons x l ih =>
      intro g hx
      rw [List.foldl_cons, ih _ (fun y hy => hx y (List.mem_cons_of_mem _ hy)), upd_ne _ _ (fun e => hx x List.mem_cons_self e.symm)]
  exact this l _ hk
theorem crashRow_one {s : DS} (ch : List Int) (n : Nat) (r : Row) (h : s.loose = [(n, r)]) : (∀ j, crashRow s ch j = s.las j) ∨ (∀ j, crashRow s ch j = upd s.las n r j) := by
  unfold crashRow
  rw [h]
  have e : keptBy ch [(n, r)] = [] ∨ keptBy ch [(n, r)] = [(n, r)] := by
    have := keptBy_snoc ch [] (n, r)
    rw [List.nil_append] at this
    rw [this]
    have h0 : keptBy ch [] = [] := rfl
    rw [h0]
    split
    · exact .inr rfl
    · exact .inl rfl
  rcases e with e | e
  · left; intro j; rw [e]; rfl
  · right; intro j; rw [e]; rfl

/-- A Put of a free slot: it lasts, or the disk is dead, and behind a crash it is there, or nothing is. -/
theorem Ready.put {s : DS} {first : Nat} {hs : List Hd} {want : Nat → List Int} (h : Ready s first hs want) (hd : s.dead = false) (i : Nat) (hi : i < hs.length) (hu : hs[i].used = false) (key b : List Int) (ok : Hd.Ok ⟨true, b.length, key⟩) (hby : ∀ z ∈ b, 0 ≤ z ∧ z ≤ 255) :
    ((putD s (first + i * 8) key b).dead = false ∧ Ready (putD s (first + i * 8) key b) first (hs.set i ⟨true, b.length, key⟩) (upd want i b)) ∨
    ((putD s (first + i * 8) key b).dead = true ∧ ∀ ch, Reads ((putD s (first + i * 8) key b).crashed ch) first hs want ∨ Reads ((putD s (first + i * 8) key b).crashed ch) first (hs.set i ⟨true, b.length, key⟩) (upd want i b)) := by
  have hfit : first + hs.length * 8 ≤ s.cnt := h.reads.fit
  have hb : b.length ≤ 448 := ok.held
  have h7 : nch b.length ≤ 7 := by unfold nch; omega
  have P := h.reads.put i hi key b ok hby
  have A := (flat_alive s.now s.cnt).put (first + i * 8) key b ok (by show _ ≤ s.cnt; omega)
  rcases holdS_part hd h.none h.lasts (first + i * 8 + 1) b (by omega) with ⟨d1, d2, d3⟩ | ⟨d1, d2, d3, d4⟩
  · right
    have e : putD s (first + i * 8) key b = holdS s (first + i * 8 + 1) b := by
      rw [putD, markS, writeS_dead d1, syncS_dead d1]
    rw [e]
    refine ⟨d1, fun ch => .inl (h.reads.loose (flat_alive _ _) (by show (holdS s (first + i * 8 + 1) b).cnt = s.cnt; exact holdS_cnt _ _ _) i hi hu fun j hj => ?_)⟩
    show crashRow (holdS s (first + i * 8 + 1) b) ch j = s.now j
    rw [crashRow_out ch j (fun x hx => by have := d3 x hx; omega), d2]
  · rcases markS_part d1 d2 d3 (first + i * 8) ⟨true, b.length, key⟩ ok (by rw [holdS_cnt]; omega) with ⟨m1, m2, m3⟩ | ⟨m1, m2, m3, m4⟩
    · right
      refine ⟨m1, fun ch => ?_⟩
      rcases crashRow_one ch _ _ m3 with hc | hc
      · left
        refine h.reads.loose (flat_alive _ _) (putD_cnt _ _ _ _) i hi hu fun j hj => ?_
        show crashRow (putD s (first + i * 8) key b) ch j = s.now j
        rw [putD, hc, m2, d4, if_neg (by omega)]
      · right
        refine P.same (flat_alive _ _) ((putD_cnt _ _ _ _).trans (show s.cnt = (putD (flat s.now s.cnt) (first + i * 8) key b).cnt from (putD_cnt (flat s.now s.cnt) _ _ _).symm)) fun j => ?_
        rw [A.2]
        show crashRow (putD s (first + i * 8) key b) ch j = _
        rw [putD, hc]
        by_cases e : j = first + i * 8
        · subst e; rw [upd_same, if_pos rfl]
        · rw [upd_ne _ _ e, if_neg e, m2, d4]; rfl
    · left
      refine ⟨m1, m2, m3, P.same (flat_alive _ _) ((putD_cnt _ _ _ _).trans (show s.cnt = (putD (flat s.now s.cnt) (first + i * 8) key b).cnt from (putD_cnt (flat s.now s.cnt) _ _ _).symm)) fun j => ?_⟩
      rw [A.2]
      show (putD s (first + i * 8) key b).now j = _
      rw [putD, m4]
      by_cases e : j = first + i * 8
      · subst e; rw [upd_same, if_pos rfl]
      · rw [upd_ne _ _ e, if_neg e, d4]; rfl

theorem hd0_ok : hd0.Ok := ⟨by simp [hd0], by simp [hd0], by simp [hd0], fun _ => rfl⟩
/-- A Clear: it lasts, or the disk is dead, and behind a crash it was done, or not. -/
theorem Ready.clear {s : DS} {first : Nat} {hs : List Hd} {want : Nat → List Int} (h : Ready s first hs want) (hd : s.dead = false) (i : Nat) (hi : i < hs.length) :
    ((markS s (first + i * 8) hd0).dead = false ∧ Ready (markS s (first + i * 8) hd0) first (hs.set i hd0) want) ∨
    ((markS s (first + i * 8) hd0).dead = true ∧ ∀ ch, Reads ((markS s (first + i * 8) hd0).crashed ch) first hs want ∨ Reads ((markS s (first + i * 8) hd0).crashed ch) first (hs.set i hd0) want) := by
  have hfit : first + hs.length * 8 ≤ s.cnt := h.reads.fit
  have P := h.reads.clear i hi
  have A := (flat_alive s.now s.cnt).mark (first + i * 8) hd0 hd0_ok (by show _ < s.cnt; omega)
  rcases markS_part hd h.none h.lasts (first + i * 8) hd0 hd0_ok (by omega) with ⟨m1, m2, m3⟩ | ⟨m1, m2, m3, m4⟩
  · right
    refine ⟨m1, fun ch => ?_⟩
    rcases crashRow_one ch _ _ m3 with hc | hc
    · left
      refine h.reads.same (flat_alive _ _) (markS_cnt _ _ _) fun j => ?_
      show crashRow (markS s (first + i * 8) hd0) ch j = s.now j
      rw [hc, m2]
    · right
      refine P.same (flat_alive _ _) ((markS_cnt _ _ _).trans (show s.cnt = (markS (flat s.now s.cnt) (first + i * 8) hd0).cnt from (markS_cnt (flat s.now s.cnt) _ _).symm)) fun j => ?_
      rw [A.2]
      show crashRow (markS s (first + i * 8) hd0) ch j = upd s.now _ _ j
      rw [hc, m2]
  · left
    refine ⟨m1, m2, m3, P.same (flat_alive _ _) ((markS_cnt _ _ _).trans (show s.cnt = (markS (flat s.now s.cnt) (first + i * 8) hd0).cnt from (markS_cnt (flat s.now s.cnt) _ _).symm)) fun j => ?_⟩
    rw [A.2]
    show (markS s (first + i * 8) hd0).now j = upd s.now _ _ j
    rw [m4]
end Go.Proofs.Ytnjlhplcagkcnaa

/- A disk with a fuse: what a Put and a Clear do to its slots; the state of the law SlotDies. -/
namespace Go.Proofs.Ytnjlhplcagkcnaa
open Go.RowKit Go.Shelf

theorem put_die {s : DS} {hs : List Hd} {want : Nat → List Int} (R : Ready s 1 hs want) (hd : s.dead = false) (k : Nat) (hk : k < hs.length) (hu : hs[k].used = false) (key b : List Int) (hkl : key.length ≤ 40) (hbl : b.length ≤ 448) (hky : ∀ z ∈ key, 0 ≤ z ∧ z ≤ 255) (hby : ∀ z ∈ b, 0 ≤ z ∧ z ≤ 255) :
    (putE hs 1 s k key b = 0 ∧ putH hs 1 s k key b = hs.set k ⟨true, b.length, key⟩ ∧ (putS hs 1 s k key b).dead = false ∧ Ready (putS hs 1 s k key b) 1 (hs.set k ⟨true, b.length, key⟩) (upd want k b)) ∨
    (putE hs 1 s k key b = 14 ∧ putH hs 1 s k key b = hs ∧ (putS hs 1 s k key b).dead = true ∧
      ∀ ch, Reads ((putS hs 1 s k key b).crashed ch) 1 hs want ∨ Reads ((putS hs 1 s k key b).crashed ch) 1 (hs.set k ⟨true, b.length, key⟩) (upd want k b)) := by
  have hh : hasS hs k = true := by simp [hasS, hk]
  have hus : usedS hs k = false := by rw [usedS, headS_at hk, hu]
  have hl : ¬ (40 < key.length ∨ 448 < b.length) := by omega
  have ok : Hd.Ok ⟨true, b.length, key⟩ := ⟨hkl, hky, hbl, fun h => by cases h⟩
  have eo : putOk hs k key b = true := by simp [putOk, hus, hh]; omega
  have e1 : putS hs 1 s k key b = putD s (1 + k * 8) key b := by simp only [putS, eo, if_true, Int.toNat_natCast]
  have e3 : putE hs 1 s k key b = deadE (putD s (1 + k * 8) key b) := by simp only [putE, hh, hl, hus, if_false, Int.toNat_natCast]; simp
  have e2 : putH hs 1 s k key b = if (putD s (1 + k * 8) key b).dead then hs else hs.set k ⟨true, b.length, key⟩ := by
    simp only [putH, eo, Bool.true_and, Int.toNat_natCast]
    cases (putD s (1 + k * 8) key b).dead <;> rfl
  rw [e1, e2, e3]
  rcases R.put hd k hk hu key b ok hby with ⟨d, r⟩ | ⟨d, r⟩
  · left
    exact ⟨by rw [deadE, d]; rfl, by rw [d]; rfl, d, r⟩
  · right
    exact ⟨by rw [deadE, d]; rfl, by rw [d]; rfl, d, r⟩

theorem clear_die {s : DS} {hs : List Hd} {want : Nat → List Int} (R : Ready s 1 hs want) (hd : s.dead = false) (k : Nat) (hk : k < hs.length) (hu : hs[k].used = true) :
    (clearE hs 1 s k = 0 ∧ clearH hs 1 s k = hs.set k hd0 ∧ (clearS hs 1 s k).dead = false ∧ Ready (clearS hs 1 s k) 1 (hs.set k hd0) want) ∨
    (clearE hs 1 s k = 14 ∧ clearH hs 1 s k = hs ∧ (clearS hs 1 s k).dead = true ∧
      ∀ ch, Reads ((clearS hs 1 s k).crashed ch) 1 hs want ∨ Reads ((clearS hs 1 s k).crashed ch) 1 (hs.set k hd0) want) := by
  have hh : hasS hs k = true := by simp [hasS, hk]
  have hus : usedS hs k = true := by rw [usedS, headS_at hk, hu]
  have eo : clearOk hs k = true := by simp [clearOk, hh, hus]
  have et : takeE hs k = 0 := by simp [takeE, hh, hus]
  have e1 : clearS hs 1 s k = markS s (1 + k * 8) hd0 := by simp only [clearS, eo, if_true, Int.toNat_natCast]
  have e3 : clearE hs 1 s k = deadE (markS s (1 + k * 8) hd0) := by simp only [clearE, et, if_true, Int.toNat_natCast]
  have e2 : clearH hs 1 s k = if (markS s (1 + k * 8) hd0).dead then hs else hs.set k hd0 := by
    simp only [clearH, eo, Bool.true_and, Int.toNat_natCast]
    cases (markS s (1 + k * 8) hd0).dead <;> rfl
  rw [e1, e2, e3]
  rcases R.clear hd k hk with ⟨d, r⟩ | ⟨d, r⟩
  · left
    exact ⟨by rw [deadE, d]; rfl, by rw [d]; rfl, d, r⟩
  · right
    exact ⟨by rw [deadE, d]; rfl, by rw [d]; rfl, d, r⟩

/-- What stands behind any crash: the slot that was at work is free, or holds pl; all others are as they were. -/
def Fin5 (s : DS) (us : Nat → Bool) (want : Nat → List Int) (x : Int) (pl : List Int) : Prop :=
  ∀ ch, ∃ hs' want', Reads (s.crashed ch) 1 hs' want' ∧ hs'.length = 5 ∧ ∀ j (h : j < hs'.length), if (j : Int) = x then (hs'[j].used = true → want' j = pl) else hs'[j].used = us j ∧ (us j = true → want' j = want j)

theorem fin_live {s : DS} {hs : List Hd} {want : Nat → List Int} {us : Nat → Bool} (R : Ready s 1 hs want) (h5 : hs.length = 5) (hu : ∀ j (h : j < hs.length), hs[j].used = us j) (pl : List Int) : Fin5 s us want (-1) pl := fun ch =>
  ⟨hs, want, R.crash ch, h5, fun j hj => by rw [if_neg (by omega)]; exact ⟨hu j hj, fun _ => rfl⟩⟩
theorem fin_put {s' : DS} {hs : List Hd} {want : Nat → List Int} {us : Nat → Bool} (k : Nat) (hk : k < hs.length) (h5 : hs.length = 5) (hu : ∀ j (h : j < hs.length), hs[j].used = us j) (hf : hs[k].used = false) (key b : List Int)
    (R : ∀ ch, Reads (s'.crashed ch) 1 hs want ∨ Reads (s'.crashed ch) 1 (hs.set k ⟨true, b.length, key⟩) (upd want k b)) : Fin5 s' us want k b := fun ch => by
  rcases R ch with r | r
  · refine ⟨hs, want, r, h5, fun j hj => ?_⟩
    by_cases e : (j : Int) = k
    · rw [if_pos e]
      obtain rfl : j = k := by omega
      intro h; rw [hf] at h; cases h
    · rw [if_neg e]; exact ⟨hu j hj, fun _ => rfl⟩
  · refine ⟨_, _, r, by rw [List.length_set]; exact h5, fun j hj => ?_⟩
    rw [List.length_set] at hj
    by_cases e : (j : Int) = k
    · rw [if_pos e]
      obtain rfl : j = k := by omega
      intro _; exact upd_same _ _ _
    · rw [if_neg e, List.getElem_set_ne (by omega), upd_ne _ _ (by omega)]; exact ⟨hu j hj, fun _ => rfl⟩
theorem fin_clear {s' : DS} {hs : List Hd} {want : Nat → List Int} {us : Nat → Bool} (k : Nat) (hk : k < hs.length) (h5 : hs.length = 5) (hu : ∀ j (h : j < hs.length), hs[j].used = us j)
    (R : ∀ ch, Reads (s'.crashed ch) 1 hs want ∨ Reads (s'.crashed ch) 1 (hs.set k hd0) want) : Fin5 s' us want k (want k) := fun ch => by
  rcases R ch with r | r
  · refine ⟨hs, want, r, h5, fun j hj => ?_⟩
    by_cases e : (j : Int) = k
    · rw [if_pos e]
      obtain rfl : j = k := by omega
      intro _; rfl
    · rw [if_neg e]; exact ⟨hu j hj, fun _ => rfl⟩
  · refine ⟨_, _, r, by rw [List.length_set]; exact h5, fun j hj => ?_⟩
    rw [List.length_set] at hj
    by_cases e : (j : Int) = k
    · rw [if_pos e]
      obtain rfl : j = k := by omega
      intro _; rfl
    · rw [if_neg e, List.getElem_set_ne (by omega)]; exact ⟨hu j hj, fun _ => rfl⟩

theorem and127 {n : Int} (h : 0 ≤ n ∧ n ≤ 255) : ∃ N : Nat, N ≤ 127 ∧ bits BinOp.and IntKind.i64 n 127 = (N : Int) := by
  have hall : (List.range 256).all (fun k => bits BinOp.and IntKind.i64 (k : Int) 127 == ((k % 128 : Nat) : Int)) = true := by kernel_rfl
  obtain ⟨k, rfl⟩ := Int.eq_ofNat_of_zero_le h.1
  have := List.all_eq_true.1 hall k (by simp; omega)
  exact ⟨k % 128, by omega, by simpa using this⟩

/-- The state of the law: its slots, what it wants of them, which are used. -/
structure Dz (W w : World) (q p g gw gu : Nat) (hs : List Hd) (s : DS) (F : List Nat) (K : Nat) (us : Nat → Bool) (wv : Nat → Value) : Prop where
  sl : SlNew W w q p g 1 hs s F K
  five : hs.length = 5
  cnt : s.cnt = 41
  w5 : w.heap[gw]? = some (.cells (row5 wv).toArray 23 (0, 0))
  u5 : w.heap[gu]? = some (.cells (row5 fun k => .bool (us k)).toArray 4 (0, 0))
  sli : ∀ k, k < 5 → ∃ a n c, wv k = .slice a n c
  new : W.heap.size ≤ gw ∧ W.heap.size ≤ gu ∧ gw ≠ gu
  off : ∀ b, b = gw ∨ b = gu → b ∉ F ∧ b ≠ q ∧ b ≠ g

section
variable {W w w' : World} {q p g gw gu : Nat} {hs : List Hd} {s : DS} {F : List Nat} {K : Nat} {us : Nat → Bool} {wv : Nat → Value}
theorem Dz.keep (h : Dz W w q p g gw gu hs s F K us wv) (k : Keeps [] w w') : Dz W w' q p g gw gu hs s F K us wv :=
  ⟨h.sl.keep k, h.five, h.cnt, (k.block _ (lt_of_block h.w5) (by simp)).trans h.w5, (k.block _ (lt_of_block h.u5) (by simp)).trans h.u5, h.sli, h.new, h.off⟩
theorem Dz.mono {K' : Nat} (h : Dz W w q p g gw gu hs s F K us wv) (k : K ≤ K') : Dz W w q p g gw gu hs s F K' us wv :=
  ⟨⟨h.sl.at_.mono k, h.sl.new, h.sl.kept⟩, h.five, h.cnt, h.w5, h.u5, h.sli, h.new, h.off⟩
theorem Dz.cw (h : Dz W w q p g gw gu hs s F K us wv) (k : Nat) (hk : k < 5) : w.cell? ⟨gw, k, none⟩ = some (wv k) := by rw [cell_of_row _ _ k _ _ (0, 0) h.w5]; exact row5_at _ _ hk
theorem Dz.cu (h : Dz W w q p g gw gu hs s F K us wv) (k : Nat) (hk : k < 5) : w.cell? ⟨gu, k, none⟩ = some (.bool (us k)) := by rw [cell_of_row _ _ k _ _ (0, 0) h.u5]; exact row5_at _ _ hk
theorem Dz.fw (h : Dz W w q p g gw gu hs s F K us wv) (k : Nat) : w.frozen? ⟨gw, k, none⟩ = false := by simp [World.frozen?, h.w5]
theorem Dz.fu (h : Dz W w q p g gw gu hs s F K us wv) (k : Nat) : w.frozen? ⟨gu, k, none⟩ = false := by simp [World.frozen?, h.u5]
/-- A deed on the slots, the law's own rows not yet written. -/
theorem Dz.post {hs' : List Hd} {s' : DS} {K' : Nat} {er : Int} {e : Ending} (h : Dz W w q p g gw gu hs s F K us wv) (hp : SlPost w q p g 1 hs' s' F K' er e w') (h5 : hs'.length = 5) (hc : s'.cnt = 41) :
    e = .returned (.int .i64 er) ∧ ∃ F', Dz W w' q p g gw gu hs' s' F' K' us wv ∧ Keeps (g :: F) w w' := by
  have hn : ∀ b, b = gw ∨ b = gu → b ∉ g :: F := fun b hb hm => by
    rcases List.mem_cons.1 hm with hm | hm
    · exact (h.off b hb).2.2 hm
    · exact (h.off b hb).1 hm
  have hlw := lt_of_block h.w5
  have hlu := lt_of_block h.u5
  obtain ⟨rfl, F', h1', h2', h3'⟩ := hp
  obtain ⟨n1, n2, n3⟩ := h.sl.new
  refine ⟨rfl, F', ⟨⟨h1', ⟨n1, n2, fun b hb => ?_⟩, h.sl.kept.trans' h2' (fun i hi hm => ?_)⟩, h5, hc, (h2'.block _ hlw (hn _ (.inl rfl))).trans h.w5, (h2'.block _ hlu (hn _ (.inr rfl))).trans h.u5, h.sli, h.new, fun b hb => ⟨fun hm => ?_, (h.off b hb).2⟩⟩, h2'⟩
  · rcases h3' b hb with h4 | h4
    · exact n3 b h4
    · have := h.sl.kept.size; omega
  · simp only [List.mem_cons] at hm
    rcases hm with hm | hm
    · omega
    · have := n3 i hm; omega
  · rcases h3' b hm with h4 | h4
    · exact (h.off b hb).1 h4
    · rcases hb with rfl | rfl <;> omega
/-- The law's own rows are written. -/
theorem Dz.used (h : Dz W w q p g gw gu hs s F K us wv) (k : Nat) (b : Bool) : Dz W (w.setCell ⟨gu, k, none⟩ (.bool b)) q p g gw gu hs s F K (upd us k b) wv := by
  have kS : Keeps [gu] w (w.setCell ⟨gu, k, none⟩ (.bool b)) := (Keeps.refl _ _).setCell (Or.inl (by simp)) _
  have ogu := h.off gu (.inr rfl)
  refine ⟨⟨h.sl.at_.keep kS (by simp; exact fun e => ogu.2.1 e.symm) (by simp; exact fun e => ogu.2.2 e.symm) (fun b hb hm => by simp at hm; subst hm; exact ogu.1 hb), h.sl.new, h.sl.kept.trans' kS (fun i hi hm => by have := h.new; simp at hm; omega)⟩, h.five, h.cnt,
    (Below.heap_setCell w ⟨gu, k, none⟩ (.bool b) gw (fun e => h.new.2.2 e)).trans h.w5, ?_, h.sli, h.new, h.off⟩
  rw [heap_setCell_same _ _ _ _ _ _ h.u5, row5_set]
  congr 3
  refine row5_congr fun j hj => ?_
  by_cases e : j = k
  · subst e; rw [upd_same, upd_same]
  · rw [upd_ne _ _ e, upd_ne _ _ e]
theorem Dz.wants (h : Dz W w q p g gw gu hs s F K us wv) (k : Nat) (v : Value) (hv : ∃ a n c, v = .slice a n c) : Dz W (w.setCell ⟨gw, k, none⟩ v) q p g gw gu hs s F K us (upd wv k v) := by
  have kS : Keeps [gw] w (w.setCell ⟨gw, k, none⟩ v) := (Keeps.refl _ _).setCell (Or.inl (by simp)) _
  have ogw := h.off gw (.inl rfl)
  refine ⟨⟨h.sl.at_.keep kS (by simp; exact fun e => ogw.2.1 e.symm) (by simp; exact fun e => ogw.2.2 e.symm) (fun b hb hm => by simp at hm; subst hm; exact ogw.1 hb), h.sl.new, h.sl.kept.trans' kS (fun i hi hm => by have := h.new; simp at hm; omega)⟩, h.five, h.cnt,
    ?_, (Below.heap_setCell w ⟨gw, k, none⟩ v gu (fun e => h.new.2.2 e.symm)).trans h.u5, fun j hj => ?_, h.new, h.off⟩
  · rw [heap_setCell_same _ _ _ _ _ _ h.w5, row5_set]
  · by_cases e : j = k
    · subst e; rw [upd_same]; exact hv
    · rw [upd_ne _ _ e]; exact h.sli j hj
end
end Go.Proofs.Ytnjlhplcagkcnaa
