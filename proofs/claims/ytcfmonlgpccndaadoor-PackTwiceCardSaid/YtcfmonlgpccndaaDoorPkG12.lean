/- KitB, LyE, LyF. -/
import Derived.Test.YtcfmonlgpccndaaDoorPkG06
import Derived.Test.YtcfmonlgpccndaaDoorPkG10
import Derived.Test.YtcfmonlgpccndaaDoorPkG11
/- A drawn region in which one of the last operations breaks what the first ones read: a load may be taken first where whatever may come up before it keeps what it reads. -/
namespace Go.Proofs.YtcfmonlgpccndaaDoor
open Go.RowKit Go.Shelf

section
variable {P : Program} {ops : Array Oper} {Q : Exit → Act → World → Prop} {md : Region.Mode} {S : World → Prop} {late : List Nat}

/-- Whatever order is picked: S holds behind every operation that is carried out, but those that are late. -/
def wpAnyT (P : Program) (md : Region.Mode) (ops : Array Oper) (Q : Exit → Act → World → Prop) (S : World → Prop) (late : List Nat) : Nat → Array Bool → Act → World → Prop
  | 0, listed, a, w => Region.ready md ops listed = [] ∧ Q .normal a w
  | fuel + 1, listed, a, w =>
    (Region.ready md ops listed = [] → Q .normal a w) ∧
    ∀ i ∈ Region.ready md ops listed, wpOp P ops Q i (fun a' w' => (late.contains i = true ∨ S w') ∧ wpAnyT P md ops Q S late fuel (listed.setIfInBounds i true) a' w') a w

theorem wpAny_of_late : ∀ (fuel : Nat) (listed : Array Bool) (a : Act) (w : World), wpAnyT P md ops Q S late fuel listed a w → wpAny P md ops Q fuel listed a w
  | 0, _, _, _, h => h
  | fuel + 1, _, _, _, h => ⟨h.1, fun i hi => wpOp_mono (fun a' w' h' => wpAny_of_late fuel _ a' w' h'.2) (h.2 i hi)⟩

/-- All that may come up without number i. -/
def spread (md : Region.Mode) (ops : Array Oper) (i : Nat) : Nat → Array Bool → Array Bool
  | 0, l => l
  | n + 1, l => spread md ops i n ((Region.ready md ops l).foldl (fun l j => if j == i then l else l.setIfInBounds j true) l)

def lateOk (md : Region.Mode) (ops : Array Oper) (listed : Array Bool) (i : Nat) (late : List Nat) (L : Array Bool) : Bool :=
  (L.getD i true == false) && ((Region.ready md ops L).all fun j => j == i) && ((List.range listed.size).all fun j => !listed.getD j false || L.getD j false) && (late.all fun j => L.getD j true == false)

theorem ready_le {l L : Array Bool} (hle : ∀ j, l.getD j false = true → L.getD j false = true) {j : Nat} (hj : j ∈ Region.ready md ops l) (hL : L.getD j true = false) : j ∈ Region.ready md ops L := by
  obtain ⟨_, o, ho, ha⟩ := mem_ready.1 hj
  exact mem_ready.2 ⟨hL, o, ho, fun e he hb => hle _ (ha e he hb)⟩

theorem getD_not {L : Array Bool} {j : Nat} (h : ¬ L.getD j true = false) (hj : j < L.size) : L.getD j false = true := by
  simp [hj] at h ⊢
  exact h

theorem wpAnyT_first {i : Nat} {oi : Oper} {v : Value} (hi : ops[i]? = some oi) (hsel : ∀ (j : Nat) (o : Oper) cs b, ops[j]? = some o → o.op ≠ .select cs b)
    (hQ : ∀ c a w, Q (.panic c) (a.put oi.dst v) w → Q (.panic c) a w) (L : Array Bool) (hL3 : ∀ j, j ∈ Region.ready md ops L → j = i) (hL4 : ∀ j, late.contains j = true → L.getD j true = false) :
    ∀ (fuel : Nat) (listed : Array Bool) (a : Act) (w : World), listed.size = L.size → (∀ j, listed.getD j false = true → L.getD j false = true) →
      (∀ j oj, ops[j]? = some oj → j ≠ i → listed.getD j true = false → (∀ e ∈ oj.after, Region.binds md e = true → e.on ≠ i) → oi.apart ops oj = true) →
      i ∈ Region.ready md ops listed → YieldsIf P ops S oi v a → S w →
      wpAnyT P md ops Q S late fuel (listed.setIfInBounds i true) (a.put oi.dst v) w → wpAnyT P md ops Q S late (fuel + 1) listed a w := by
  intro fuel
  induction fuel with
  | zero =>
    intro listed a w _ _ hfree hr hy hS H
    refine ⟨fun h => (by rw [h] at hr; cases hr), fun j hj => ?_⟩
    by_cases hji : j = i
    · subst hji; exact hy.wpOp hi hS ⟨Or.inr hS, H⟩
    · have := ready_mono hj hji
      rw [H.1] at this
      cases this
  | succ fuel ih =>
    intro listed a w hz hle hfree hr hy hS H
    refine ⟨fun h => (by rw [h] at hr; cases hr), fun j hj => ?_⟩
    by_cases hji : j = i
    · subst hji; exact hy.wpOp hi hS ⟨Or.inr hS, H⟩
    · have h1 := H.2 j (ready_mono hj hji)
      obtain ⟨hjun, oj, hoj, hall⟩ := mem_ready.1 hj
      have hnL : ¬ L.getD j true = false := fun h => hji (hL3 j (ready_le hle hj h))
      have hjs : j < L.size := by
        rw [← hz]
        rcases Nat.lt_or_ge j listed.size with h | h
        · exact h
        · simp [h] at hjun
      have hnl : ¬ late.contains j = true := fun h => hnL (hL4 j h)
      have hnot : ∀ e ∈ oj.after, Region.binds md e = true → e.on ≠ i := fun e he hb heq => by
        have h1 := hall e he hb
        have h0 := (mem_ready.1 hr).1
        rw [heq] at h1
        rcases Nat.lt_or_ge i listed.size with h' | h'
        · simp [h'] at h0 h1; rw [h0] at h1; cases h1
        · simp [Array.getElem?_eq_none h'] at h1
      have h2 := wpOp_putIf hoj (hfree j oj hoj hji hjun hnot) (fun cs b => hsel i oi cs b hi) (fun cs b => hsel j oj cs b hoj) hQ hy h1
      have hfree' : ∀ k ok, ops[k]? = some ok → k ≠ i → (listed.setIfInBounds j true).getD k true = false →
          (∀ e ∈ ok.after, Region.binds md e = true → e.on ≠ i) → oi.apart ops ok = true := fun k ok hk hki hun hno => by
        refine hfree k ok hk hki ?_ hno
        by_cases hjk : j = k
        · subst hjk; exact hjun
        · rw [getD_set_ne true hjk] at hun; exact hun
      have hle' : ∀ k, (listed.setIfInBounds j true).getD k false = true → L.getD k false = true := fun k hk => by
        by_cases hjk : j = k
        · subst hjk; exact getD_not hnL hjs
        · rw [getD_set_ne false hjk] at hk; exact hle k hk
      refine wpOp_mono (fun a' w' h3 => ?_) h2
      have hS' : S w' := h3.2.1.resolve_left hnl
      refine ⟨Or.inr hS', ih (listed.setIfInBounds j true) a' w' (by simpa using hz) hle' hfree' (ready_mono hr (Ne.symm hji)) h3.1 hS' ?_⟩
      rw [Array.setIfInBounds_comm _ _ hji]
      exact h3.2.2

theorem wpAnyT_take {i : Nat} {oi : Oper} {v : Value} {fuel : Nat} {listed : Array Bool} {a : Act} {w : World} (hi : ops[i]? = some oi)
    (hs : Region.noSelect ops = true) (hf : Region.free md ops listed i = true) (hr : (Region.ready md ops listed).contains i = true) (hl : lateOk md ops listed i late (spread md ops i ops.size listed) = true) (hz : listed.size = (spread md ops i ops.size listed).size)
    (hQ : ∀ c a w, Q (.panic c) (a.put oi.dst v) w → Q (.panic c) a w) (hy : YieldsIf P ops S oi v a) (hS : S w)
    (h : wpAnyT P md ops Q S late fuel (listed.setIfInBounds i true) (a.put oi.dst v) w) : wpAnyT P md ops Q S late (fuel + 1) listed a w := by
  simp only [lateOk, Bool.and_eq_true, List.all_eq_true, beq_iff_eq, List.mem_range] at hl
  obtain ⟨⟨⟨_, h3⟩, h1⟩, h4⟩ := hl
  refine wpAnyT_first hi (Region.noSelect_spec hs) hQ (spread md ops i ops.size listed) h3 (fun j hj => h4 j (by simpa using hj)) fuel listed a w hz (fun j hj => ?_) (Region.free_spec hi hf) (by simpa using hr) hy hS h
  have hjs : j < listed.size := by
    rcases Nat.lt_or_ge j listed.size with h | h
    · exact h
    · simp [h] at hj
  have := h1 j hjs
  simp only [Bool.or_eq_true, Bool.not_eq_true'] at this
  rcases this with h | h
  · rw [hj] at h; cases h
  · exact h

theorem wpAnyT_done {listed : Array Bool} {a : Act} {w : World} (hr : Region.ready md ops listed = []) (h : Q .normal a w) :
    ∀ fuel, wpAnyT P md ops Q S late fuel listed a w
  | 0 => ⟨hr, h⟩
  | _ + 1 => ⟨fun _ => h, by rw [hr]; simp⟩

theorem wpAnyT_all {rs : List Nat} {fuel : Nat} {listed : Array Bool} {a : Act} {w : World} (hr : Region.ready md ops listed = rs) (hne : rs ≠ [])
    (h : ∀ i ∈ rs, wpOp P ops Q i (fun a' w' => (late.contains i = true ∨ S w') ∧ wpAnyT P md ops Q S late fuel (listed.setIfInBounds i true) a' w') a w) : wpAnyT P md ops Q S late (fuel + 1) listed a w :=
  ⟨fun h0 => absurd (hr ▸ h0) hne, hr ▸ h⟩

theorem late_take {i : Nat} {oi : Oper} {v : Value} {fuel : Nat} {listed : Array Bool} {a : Act} {w : World} (hi : ops.toList[i]? = some oi)
    (hs : Region.noSelect ops = true) (hf : Region.free md ops listed i = true) (hr : (Region.ready md ops listed).contains i = true) (hl : lateOk md ops listed i late (spread md ops i ops.size listed) = true) (hz : listed.size = (spread md ops i ops.size listed).size)
    (hQ : ∀ c a w, Q (.panic c) (a.put oi.dst v) w → Q (.panic c) a w) (hg : oi.guard = none) (hy : ∀ w, S w → (execOp a.eval oi).run P w = .ok (.value v) w) (hS : S w)
    (h : wpAnyT P md ops Q S late fuel (listed.setIfInBounds i true) (a.put oi.dst v) w) : wpAnyT P md ops Q S late (fuel + 1) listed a w :=
  wpAnyT_take (by simpa using hi) hs hf hr hl hz hQ (Or.inl ⟨by simp [Region.wanted, hg], hy⟩) hS h
theorem late_takeW {i : Nat} {oi : Oper} {v : Value} {fuel : Nat} {listed : Array Bool} {a : Act} {w : World} (hi : ops.toList[i]? = some oi)
    (hs : Region.noSelect ops = true) (hf : Region.free md ops listed i = true) (hr : (Region.ready md ops listed).contains i = true) (hl : lateOk md ops listed i late (spread md ops i ops.size listed) = true) (hz : listed.size = (spread md ops i ops.size listed).size)
    (hQ : ∀ c a w, Q (.panic c) (a.put oi.dst v) w → Q (.panic c) a w) (hw : Region.wanted oi (yielded ops a.tmps) = true) (hy : ∀ w, S w → (execOp a.eval oi).run P w = .ok (.value v) w) (hS : S w)
    (h : wpAnyT P md ops Q S late fuel (listed.setIfInBounds i true) (a.put oi.dst v) w) : wpAnyT P md ops Q S late (fuel + 1) listed a w :=
  wpAnyT_take (by simpa using hi) hs hf hr hl hz hQ (Or.inl ⟨hw, hy⟩) hS h
theorem late_skip {i : Nat} {oi : Oper} {fuel : Nat} {listed : Array Bool} {a : Act} {w : World} (hi : ops.toList[i]? = some oi)
    (hs : Region.noSelect ops = true) (hf : Region.free md ops listed i = true) (hr : (Region.ready md ops listed).contains i = true) (hl : lateOk md ops listed i late (spread md ops i ops.size listed) = true) (hz : listed.size = (spread md ops i ops.size listed).size)
    (hQ : ∀ c a w, Q (.panic c) (a.put oi.dst undef) w → Q (.panic c) a w) (hw : Region.wanted oi (yielded ops a.tmps) = false) (hS : S w)
    (h : wpAnyT P md ops Q S late fuel (listed.setIfInBounds i true) (a.put oi.dst undef) w) : wpAnyT P md ops Q S late (fuel + 1) listed a w :=
  wpAnyT_take (by simpa using hi) hs hf hr hl hz hQ (Or.inr ⟨hw, rfl⟩) hS h
theorem late_do {i : Nat} {o : Oper} {fuel : Nat} {listed : Array Bool} {a : Act} {w : World} (hr : Region.ready md ops listed = [i]) (ho' : ops.toList[i]? = some o) (hg : o.guard = none)
    (h : o.wp P a w (fun a' w' => (late.contains i = true ∨ S w') ∧ wpAnyT P md ops Q S late fuel (listed.setIfInBounds i true) a' w') Q) : wpAnyT P md ops Q S late (fuel + 1) listed a w := by
  have ho : ops[i]? = some o := by simpa using ho'
  have hw : Region.wanted o (yielded ops a.tmps) = true := by simp [Region.wanted, hg]
  refine wpAnyT_all hr (by simp) fun j hj => ?_
  obtain rfl : j = i := by simpa using hj
  unfold wpOp
  simp only [ho, hw, if_true]
  exact Or.inl h
theorem late_doW {i : Nat} {o : Oper} {fuel : Nat} {listed : Array Bool} {a : Act} {w : World} (hr : Region.ready md ops listed = [i]) (ho' : ops.toList[i]? = some o) (hw : Region.wanted o (yielded ops a.tmps) = true)
    (h : o.wp P a w (fun a' w' => (late.contains i = true ∨ S w') ∧ wpAnyT P md ops Q S late fuel (listed.setIfInBounds i true) a' w') Q) : wpAnyT P md ops Q S late (fuel + 1) listed a w := by
  have ho : ops[i]? = some o := by simpa using ho'
  refine wpAnyT_all hr (by simp) fun j hj => ?_
  obtain rfl : j = i := by simpa using hj
  unfold wpOp
  simp only [ho, hw, if_true]
  exact Or.inl h
end
end Go.Proofs.YtcfmonlgpccndaaDoor


/- layout: a fragment is formed: its head's bytes, then its own (form; the reference's head). -/
namespace Go.Proofs.YtcfmonlgpccndaaDoor
open Go.RowKit
set_option maxRecDepth 100000
set_option linter.unusedSimpArgs false
set_option linter.unusedVariables false

theorem ownsRow_low {w : World} {B B' : Nat} {e : TypeId} {s : Nat} {v : Value} {n : Nat} {xs : List Value} (hB : B' ≤ B) (h : w.ownsRow B e s v n xs) : w.ownsRow B' e s v n xs := by
  refine ⟨h.1, ?_⟩
  rcases h.2 with hn | ⟨g, cap, cur, rfl, hb, rest⟩
  · exact Or.inl hn
  · exact Or.inr ⟨g, cap, cur, rfl, Nat.le_trans hB hb, rest⟩
theorem cloneO_any (w : World) (v : Value) (zs : List Int) (h : RowAt w v zs) (hn : zs.length ≤ 35184372088832) :
    Calls Tryd.prog 29 #[v] w (OwnPost w zs) := by
  have HR := hid h
  obtain ⟨a, cap, rfl, h1, h2, h3, h4, h5⟩ := h
  obtain ⟨i0, hi, hz0, hz1, hz2⟩ := info_parts info5
  clear h5 h4 h2
  cases a with
  | none =>
    obtain rfl := h3 rfl
    obtain rfl : zs = [] := List.eq_nil_of_length_eq_zero (by omega)
    clear h1 h3
    have hnil : ∀ W, (binOp .eql 31 (.slice none 0 0) (.slice none 0 0)).run Tryd.prog W = .ok (.bool true) W := fun W => Lib.run_eql_slice_nil W _ _ _ _ _ _ _ Tryd.underlying31
    simp only [List.length_nil] at *
    go_enter Tryd.func29, Tryd.ntmps29
    go_wp2_with fail
    go_ret
    exact ⟨none, 0, rfl, World.ownsRow_nil _ _ _ _, Keeps.refl _ _⟩
  | some ad =>
    clear h3
    have hnil : ∀ W, (binOp .eql 31 (.slice (some ad) zs.length cap) (.slice none 0 0)).run Tryd.prog W = .ok (.bool false) W := fun W => Lib.run_eql_slice_nil W _ _ _ _ _ _ _ Tryd.underlying31
    go_enter Tryd.func29, Tryd.ntmps29
    have HO := hid (World.ownsRow_made (base := w.heap.size) (e := 5) (size := 1) w #[] 0 (Nat.le_refl _) (by unfold maxLen; omega) (by simp))
    have HR2 := hid (HR.out.keep ((Keeps.refl [] w).alloc (.cells #[] 5)) (by intro _ _ _ _ _; simp))
    go_wp2_with (at_builtin; refine wpList_append_row rfl _ _ 31 rfl w.heap.size 5 i0 (.int .u8 0) Tryd.underlying31 hi hz0 hz1 hz2 rfl (.slice (some ⟨w.heap.size, 0, none⟩) 0 0) 0 [] rfl HO.out _ zs rfl HR2.out (by omega) (by simp) ?_; intro a' c' w1 k1 k2 k3; simp only [Nat.zero_add, List.nil_append] at k1 k3 ⊢)
    go_ret
    exact ⟨a', c', rfl, k1.out, ((Keeps.refl [] w).alloc _).grown k2.out (fun k hk => Or.inr (by simp [Value.ownBlock] at hk; omega))⟩
/-- A pen's bytes, the call's own. -/
theorem bytesO_any (w : World) (B p : Nat) (v : Value) (zs : List Int) (h : PenAt w B 118 5 p v zs 0) :
    Calls Tryd.prog 71 #[.pointer (some ⟨p, 0, none⟩)] w fun e w' => ∃ a c, e = .returned (.tuple #[.slice a zs.length c, .int .i64 0]) ∧ w'.ownsRow w.heap.size 5 1 (.slice a zs.length c) zs.length (zs.map (Value.int .u8)) ∧ Keeps [] w w' := by
  have c0 := h.cell0
  have c1 := h.cell1
  have HR := hid (row_of_own h.own h.byte)
  have hn := h.fits
  clear h
  go_enter Tryd.func71, Tryd.ntmps71
  go_wp2_with fail
  refine (cloneO_any _ v zs HR.out (by omega)).mono ?_
  rintro e w1 ⟨a, c, rfl, q1, q3⟩
  have Q1 := hid q1
  have Q3 := hid q3
  clear q1 q3
  go_wp2_with fail
  go_ret2
  exact ⟨a, c, rfl, Q1.out, Q3.out⟩

/-- A head's bytes. -/
def headB13 (h : Hd13) : List Int := be h.s.c 1 ++ be h.s.l 3 ++ be h.s.n 4 ++ be h.i 1 ++ be h.n 1 ++ be h.z 2
theorem headB13_len (h : Hd13) : (headB13 h).length = 12 := by simp [headB13, be_length]
theorem headB13_byte (h : Hd13) : ∀ z ∈ headB13 h, 0 ≤ z ∧ z ≤ 255 := by
  intro z hz
  unfold headB13 at hz
  simp only [List.mem_append] at hz
  rcases hz with ((((hz | hz) | hz) | hz) | hz) | hz <;> exact be_byte _ _ z hz
structure FitH (h : Hd13) : Prop where
  c : FitN h.s.c 1
  l : FitN h.s.l 3
  n : FitN h.s.n 4
  i : FitN h.i 1
  k : FitN h.n 1
  z : FitN h.z 2
theorem fit_n {x : Int} {n : Nat} (h1 : 1 ≤ n) (h7 : n ≤ 7) (h0 : 0 ≤ x) (hx : x < 256 ^ n) : FitN x n := ⟨h1, h7, h0, hx⟩
theorem fitH_of {s : Spe} {i n z : Int} (hs : mayE s = true) (h : SmallF i z n) : FitH ⟨s, i, n, z⟩ := by
  unfold mayE msB at hs
  rw [Bool.and_eq_true, Bool.and_eq_true, btw_is, btw_is, btw_is] at hs
  obtain ⟨i0, i1, z0, z1, n0, n1⟩ := h
  exact ⟨fit_n (by decide) (by decide) (by show 0 ≤ s.c; omega) (by show s.c < 256; omega), fit_n (by decide) (by decide) (by show 0 ≤ s.l; omega) (by show s.l < 16777216; omega), fit_n (by decide) (by decide) (by show 0 ≤ s.n; omega) (by show s.n < 4294967296; omega),
    fit_n (by decide) (by decide) i0 (by show i < 256; omega), fit_n (by decide) (by decide) (by show (0 : Int) ≤ n; omega) (by show n < 256; omega), fit_n (by decide) (by decide) z0 (by show z < 65536; omega)⟩

/-- A number that fits is written. -/
theorem PenSince.numF {w W : World} {p : Nat} {v : Value} {zs : List Int} (x : Int) (n : Nat) (h : PenSince w W 118 p v zs 0) (hf : FitN x n) (hl : zs.length + n ≤ 65536) :
    Calls Tryd.prog 70 #[.pointer (some ⟨p, 0, none⟩), .int .i64 x, .int .i64 n] W fun e W' => e = .returned (.tuple #[]) ∧ ∃ v', PenSince w W' 118 p v' (zs ++ be x n) 0 :=
  (num_any W w.heap.size p v zs 0 x n h.pen h.kept.size).mono fun e W' hq => by
    obtain ⟨rfl, v', q⟩ := h.step hq
    rw [(penNum_fit (n : Int) rfl hf hl).1] at q
    exact ⟨rfl, v', q⟩
/-- The cells of a box that is kept. -/
theorem box_cell13 {w W X : World} {b : Nat} {cs : Array Value} {T : TypeId} (h : W.heap[b]? = some (.cells cs T (0, 0))) (k : Keeps [] W X) (i : Nat) : X.cell? ⟨b, i, none⟩ = cs[i]? :=
  (five_cells ((k.block b (lt_of_block h) (by simp)).trans h) i).1

set_option maxHeartbeats 12800000 in
theorem lform_any (w : World) (h : Hd13) (v : Value) (row : List Int) (hf : FitH h) (hr : RowAt w v row) (hl : row.length ≤ 65536) : Calls Tryd.prog 60 #[hdV13 h, v] w (RowPost w (headB13 h ++ row)) := by
  have BX := hid (heap_alloc_new w (.cells #[.int .i64 h.s.c, .int .i64 h.s.l, .int .i64 h.s.n, .int .i64 h.i, .int .i64 h.n, .int .i64 h.z] 104))
  have KW := hid ((Keeps.refl [] w).alloc (.cells #[.int .i64 h.s.c, .int .i64 h.s.l, .int .i64 h.s.n, .int .i64 h.i, .int .i64 h.n, .int .i64 h.z] 104))
  have P0 := hid (PenSince.new (w.alloc (.cells #[.int .i64 h.s.c, .int .i64 h.s.l, .int .i64 h.s.n, .int .i64 h.i, .int .i64 h.n, .int .i64 h.z] 104)) (Keeps.refl [] _) 118)
  rw [World.size_alloc] at P0
  have HF := hid hf
  clear hf
  have HR := hid hr
  clear hr
  unfold hdV13
  go_enter Tryd.func60, Tryd.ntmps60
  go_wp2_with fail
  refine (P0.out.numF h.s.c 1 HF.out.c (by simp [be_length])).mono ?_
  rintro e W1 ⟨rfl, v1, q⟩
  have P1 := hid q
  clear q
  have cc := box_cell13 (w := w) BX.out P1.out.kept 1
  simp only [List.getElem?_toArray, List.getElem?_cons_zero, List.getElem?_cons_succ] at cc
  go_wp2_with fail
  clear cc
  refine (P1.out.numF h.s.l 3 HF.out.l (by simp [be_length])).mono ?_
  rintro e W2 ⟨rfl, v2, q⟩
  have P2 := hid q
  clear q
  have cc := box_cell13 (w := w) BX.out P2.out.kept 2
  simp only [List.getElem?_toArray, List.getElem?_cons_zero, List.getElem?_cons_succ] at cc
  go_wp2_with fail
  clear cc
  refine (P2.out.numF h.s.n 4 HF.out.n (by simp [be_length])).mono ?_
  rintro e W3 ⟨rfl, v3, q⟩
  have P3 := hid q
  clear q
  have cc := box_cell13 (w := w) BX.out P3.out.kept 3
  simp only [List.getElem?_toArray, List.getElem?_cons_zero, List.getElem?_cons_succ] at cc
  go_wp2_with fail
  clear cc
  refine (P3.out.numF h.i 1 HF.out.i (by simp [be_length])).mono ?_
  rintro e W4 ⟨rfl, v4, q⟩
  have P4 := hid q
  clear q
  have cc := box_cell13 (w := w) BX.out P4.out.kept 4
  simp only [List.getElem?_toArray, List.getElem?_cons_zero, List.getElem?_cons_succ] at cc
  go_wp2_with fail
  clear cc
  refine (P4.out.numF h.n 1 HF.out.k (by simp [be_length])).mono ?_
  rintro e W5 ⟨rfl, v5, q⟩
  have P5 := hid q
  clear q
  have cc := box_cell13 (w := w) BX.out P5.out.kept 5
  simp only [List.getElem?_toArray, List.getElem?_cons_zero, List.getElem?_cons_succ] at cc
  go_wp2_with fail
  clear cc
  refine (P5.out.numF h.z 2 HF.out.z (by simp [be_length])).mono ?_
  rintro e W6 ⟨rfl, v6, q⟩
  have P6 := hid q
  clear q
  go_wp2_with fail
  refine (bytesO_any _ _ _ v6 _ P6.out.pen).mono ?_
  rintro e W7 ⟨a, c, rfl, q1, q2⟩
  have HB := hid (show [] ++ be h.s.c 1 ++ be h.s.l 3 ++ be h.s.n 4 ++ be h.i 1 ++ be h.n 1 ++ be h.z 2 = headB13 h from rfl)
  rw [HB.out] at q1 ⊢
  rw [headB13_len] at q1 ⊢
  have O := hid q1
  have K7 := hid (KW.out.trans (P6.out.kept.trans q2))
  have R7 := hid (HR.out.later K7.out)
  have q2s := hid q2.size
  have S6 := hid P6.out.kept.size
  obtain ⟨i0, hi, hz0, hz1, hz2⟩ := info_parts info5
  clear q1 q2
  go_wp2_with (at_builtin; refine wpList_append_row rfl _ _ 31 rfl W6.heap.size 5 i0 (.int .u8 0) Tryd.underlying31 hi hz0 hz1 hz2 rfl (.slice a 12 c) 12 ((headB13 h).map (Value.int .u8)) rfl O.out _ row rfl R7.out (by omega) q2s.out ?_; intro a' c' w8 k1 k2 k3)
  go_ret
  have k1' := k1.out
  rw [← List.map_append] at k1'
  have hlen : (headB13 h ++ row).length = 12 + row.length := by rw [List.length_append, headB13_len]
  refine ⟨a', c', by rw [hlen]; rfl, ?_, ?_, ?_⟩
  · rw [hlen]
    exact row_of_own (by rw [hlen]; exact k1') (fun z hz => by
      rcases List.mem_append.1 hz with hz | hz
      · exact headB13_byte h z hz
      · exact R7.out.bytes z hz)
  · rintro ad rfl
    have := (k1'.lt _ rfl).1
    have := S6.out
    rw [World.size_alloc] at this
    omega
  · exact K7.out.grown k2.out (fun k hk => Or.inr (by have := (O.out.lt k hk).1; have := S6.out; rw [World.size_alloc] at this; omega))

end Go.Proofs.YtcfmonlgpccndaaDoor


/- layout, plainly: what a fragment's bytes say. -/
namespace Go.Proofs.YtcfmonlgpccndaaDoor
open Go.RowKit
set_option maxRecDepth 100000
set_option linter.unusedSimpArgs false
set_option linter.unusedVariables false

/-- The six numbers of a head. -/
def headS13 (st : PSt) : Hd13 × PSt :=
  let a := numE 1 st; let b := numE 3 a.2; let c := numE 4 b.2; let d := numE 1 c.2; let f := numE 1 d.2; let g := numE 2 f.2
  (⟨⟨a.1, b.1, c.1⟩, d.1, f.1, g.1⟩, g.2)
def hZ13 : Hd13 := ⟨⟨0, 0, 0⟩, 0, 0, 0⟩
theorem headS_of {st s1 s2 s3 s4 s5 s6 : PSt} {x1 x2 x3 x4 x5 x6 : Int} (e1 : numE 1 st = (x1, s1)) (e2 : numE 3 s1 = (x2, s2)) (e3 : numE 4 s2 = (x3, s3)) (e4 : numE 1 s3 = (x4, s4)) (e5 : numE 1 s4 = (x5, s5)) (e6 : numE 2 s5 = (x6, s6)) :
    headS13 st = (⟨⟨x1, x2, x3⟩, x4, x5, x6⟩, s6) := by
  unfold headS13
  rw [e1]; simp only
  rw [e2]; simp only
  rw [e3]; simp only
  rw [e4]; simp only
  rw [e5]; simp only
  rw [e6]
theorem headS_be {h : Hd13} (hf : FitH h) (r : List Int) : headS13 (headB13 h ++ r, 0) = (h, (r, 0)) := by
  unfold headB13
  simp only [List.append_assoc]
  exact headS_of (numE_be 1 rfl hf.c _) (numE_be 3 rfl hf.l _) (numE_be 4 rfl hf.n _) (numE_be 1 rfl hf.i _) (numE_be 1 rfl hf.k _) (numE_be 2 rfl hf.z _)
theorem headS_ok {zs : List Int} (hb : ∀ z ∈ zs, 0 ≤ z ∧ z ≤ 255) (h0 : (headS13 (zs, 0)).2.2 = 0) : zs = headB13 (headS13 (zs, 0)).1 ++ (headS13 (zs, 0)).2.1 ∧ FitH (headS13 (zs, 0)).1 := by
  obtain ⟨x1, s1, e1⟩ : ∃ x s, numE 1 (zs, 0) = (x, s) := ⟨_, _, rfl⟩
  obtain ⟨x2, s2, e2⟩ : ∃ x s, numE 3 s1 = (x, s) := ⟨_, _, rfl⟩
  obtain ⟨x3, s3, e3⟩ : ∃ x s, numE 4 s2 = (x, s) := ⟨_, _, rfl⟩
  obtain ⟨x4, s4, e4⟩ : ∃ x s, numE 1 s3 = (x, s) := ⟨_, _, rfl⟩
  obtain ⟨x5, s5, e5⟩ : ∃ x s, numE 1 s4 = (x, s) := ⟨_, _, rfl⟩
  obtain ⟨x6, s6, e6⟩ : ∃ x s, numE 2 s5 = (x, s) := ⟨_, _, rfl⟩
  rw [headS_of e1 e2 e3 e4 e5 e6] at h0 ⊢
  simp only at h0 ⊢
  have z5 : s5.2 = 0 := numE_was (n := 2) (by rw [e6]; exact h0)
  have z4 : s4.2 = 0 := numE_was (n := 1) (by rw [e5]; exact z5)
  have z3 : s3.2 = 0 := numE_was (n := 1) (by rw [e4]; exact z4)
  have z2 : s2.2 = 0 := numE_was (n := 4) (by rw [e3]; exact z3)
  have z1 : s1.2 = 0 := numE_was (n := 3) (by rw [e2]; exact z2)
  obtain ⟨y1, b1⟩ := s1
  obtain ⟨y2, b2⟩ := s2
  obtain ⟨y3, b3⟩ := s3
  obtain ⟨y4, b4⟩ := s4
  obtain ⟨y5, b5⟩ := s5
  obtain ⟨y6, b6⟩ := s6
  simp only at z1 z2 z3 z4 z5 h0
  subst z1 z2 z3 z4 z5 h0
  have k1 := numE_bytes 1 (st := (zs, 0)) hb
  have o1 := numE_ok (n := 1) 1 rfl (by decide) (by decide) hb (by rw [e1])
  rw [e1] at k1 o1
  have k2 := numE_bytes 3 (st := (y1, 0)) k1
  have o2 := numE_ok (n := 3) 3 rfl (by decide) (by decide) k1 (by rw [e2])
  rw [e2] at k2 o2
  have k3 := numE_bytes 4 (st := (y2, 0)) k2
  have o3 := numE_ok (n := 4) 4 rfl (by decide) (by decide) k2 (by rw [e3])
  rw [e3] at k3 o3
  have k4 := numE_bytes 1 (st := (y3, 0)) k3
  have o4 := numE_ok (n := 1) 1 rfl (by decide) (by decide) k3 (by rw [e4])
  rw [e4] at k4 o4
  have k5 := numE_bytes 1 (st := (y4, 0)) k4
  have o5 := numE_ok (n := 1) 1 rfl (by decide) (by decide) k4 (by rw [e5])
  rw [e5] at k5 o5
  have o6 := numE_ok (n := 2) 2 rfl (by decide) (by decide) k5 (by rw [e6])
  rw [e6] at o6
  simp only at o1 o2 o3 o4 o5 o6
  refine ⟨?_, o1.2, o2.2, o3.2, o4.2, o5.2, o6.2⟩
  unfold headB13
  simp only [List.append_assoc]
  rw [← o6.1, ← o5.1, ← o4.1, ← o3.1, ← o2.1, ← o1.1]
theorem headS_bad (zs : List Int) : (headS13 (zs, 0)).2.2 = 0 ∨ (headS13 (zs, 0)).2.2 = 2 := by
  obtain ⟨x1, s1, e1⟩ : ∃ x s, numE 1 (zs, 0) = (x, s) := ⟨_, _, rfl⟩
  obtain ⟨x2, s2, e2⟩ : ∃ x s, numE 3 s1 = (x, s) := ⟨_, _, rfl⟩
  obtain ⟨x3, s3, e3⟩ : ∃ x s, numE 4 s2 = (x, s) := ⟨_, _, rfl⟩
  obtain ⟨x4, s4, e4⟩ : ∃ x s, numE 1 s3 = (x, s) := ⟨_, _, rfl⟩
  obtain ⟨x5, s5, e5⟩ : ∃ x s, numE 1 s4 = (x, s) := ⟨_, _, rfl⟩
  obtain ⟨x6, s6, e6⟩ : ∃ x s, numE 2 s5 = (x, s) := ⟨_, _, rfl⟩
  rw [headS_of e1 e2 e3 e4 e5 e6]
  have n1 := numE_bad (n := 1) 1 rfl (by decide) (by decide) (zs, 0)
  have n2 := numE_bad (n := 3) 3 rfl (by decide) (by decide) s1
  have n3 := numE_bad (n := 4) 4 rfl (by decide) (by decide) s2
  have n4 := numE_bad (n := 1) 1 rfl (by decide) (by decide) s3
  have n5 := numE_bad (n := 1) 1 rfl (by decide) (by decide) s4
  have n6 := numE_bad (n := 2) 2 rfl (by decide) (by decide) s5
  rw [e1] at n1
  rw [e2] at n2
  rw [e3] at n3
  rw [e4] at n4
  rw [e5] at n5
  rw [e6] at n6
  have r1 : s1.2 = 0 ∨ s1.2 = 2 := by simpa using n1
  have r2 : s2.2 = 0 ∨ s2.2 = 2 := by rcases r1 with h | h <;> rw [h] at n2 <;> simpa using n2
  have r3 : s3.2 = 0 ∨ s3.2 = 2 := by rcases r2 with h | h <;> rw [h] at n3 <;> simpa using n3
  have r4 : s4.2 = 0 ∨ s4.2 = 2 := by rcases r3 with h | h <;> rw [h] at n4 <;> simpa using n4
  have r5 : s5.2 = 0 ∨ s5.2 = 2 := by rcases r4 with h | h <;> rw [h] at n5 <;> simpa using n5
  rcases r5 with h | h <;> rw [h] at n6 <;> simpa using n6
theorem headS_short {zs : List Int} (hb : ∀ z ∈ zs, 0 ≤ z ∧ z ≤ 255) (hl : zs.length < 12) : (headS13 (zs, 0)).2.2 = 2 := by
  rcases headS_bad zs with h | h
  · have := (headS_ok hb h).1
    have hc := congrArg List.length this
    rw [List.length_append, headB13_len] at hc
    omega
  · exact h
/-- What is as long as a head is one. -/
theorem head_of {zs : List Int} (hb : ∀ z ∈ zs, 0 ≤ z ∧ z ≤ 255) (hl : 12 ≤ zs.length) : ∃ h, FitH h ∧ zs = headB13 h ++ zs.drop 12 := by
  have e : ∃ h, FitH h ∧ zs.take 12 = headB13 h := by
    have htl : (zs.take 12).length = 12 := by rw [List.length_take]; omega
    have hk : ∀ (a b : Nat), ∀ z ∈ ((zs.drop a).take b), 0 ≤ z ∧ z ≤ 255 := fun a b z hz => hb z (List.mem_of_mem_drop (List.mem_of_mem_take hz))
    have hf : ∀ (a b : Nat), 1 ≤ b → b ≤ 7 → a + b ≤ 12 → FitN (val ((zs.drop a).take b)) b := fun a b h1 h7 h => by
      have hlen : ((zs.drop a).take b).length = b := by rw [List.length_take, List.length_drop]; omega
      exact ⟨h1, h7, val_bound b _ hlen (hk a b)⟩
    have hbe : ∀ (a b : Nat), a + b ≤ 12 → be (val ((zs.drop a).take b)) b = (zs.drop a).take b := fun a b h => be_val b _ (by rw [List.length_take, List.length_drop]; omega) (hk a b)
    refine ⟨⟨⟨val ((zs.drop 0).take 1), val ((zs.drop 1).take 3), val ((zs.drop 4).take 4)⟩, val ((zs.drop 8).take 1), val ((zs.drop 9).take 1), val ((zs.drop 10).take 2)⟩, ⟨hf 0 1 (by decide) (by decide) (by decide), hf 1 3 (by decide) (by decide) (by decide), hf 4 4 (by decide) (by decide) (by decide), hf 8 1 (by decide) (by decide) (by decide), hf 9 1 (by decide) (by decide) (by decide), hf 10 2 (by decide) (by decide) (by decide)⟩, ?_⟩
    unfold headB13
    simp only
    rw [hbe 0 1 (by decide), hbe 1 3 (by decide), hbe 4 4 (by decide), hbe 8 1 (by decide), hbe 9 1 (by decide), hbe 10 2 (by decide), List.drop_zero, ← List.take_add, ← List.take_add, ← List.take_add, ← List.take_add, ← List.take_add]
  obtain ⟨h, hf, he⟩ := e
  exact ⟨h, hf, by rw [← he, List.take_append_drop]⟩

/-- Is a fragment of this head so long? -/
def fitsH (h : Hd13) (len : Nat) : Bool := mayH h && decide ((len : Int) = 12 + longI h.i h.z h.n)
/-- What Read answers. -/
def readL (zs : List Int) : Hd13 × List Int × Int :=
  if zs.length < 12 then (hZ13, [], 2) else if fitsH (headS13 (zs, 0)).1 zs.length = true then ((headS13 (zs, 0)).1, zs.drop 12, 0) else (hZ13, [], 4)
theorem readL_short {zs : List Int} (h : zs.length < 12) : readL zs = (hZ13, [], 2) := by unfold readL; rw [if_pos h]
theorem readL_head {h : Hd13} (hf : FitH h) (r : List Int) : readL (headB13 h ++ r) = if fitsH h (12 + r.length) = true then (h, r, 0) else (hZ13, [], 4) := by
  unfold readL
  have hlen : (headB13 h ++ r).length = 12 + r.length := by rw [List.length_append, headB13_len]
  rw [if_neg (by omega), headS_be hf, hlen]
  simp only
  have hd : (headB13 h ++ r).drop 12 = r := by
    have := List.drop_left' (l₁ := headB13 h) (l₂ := r) (headB13_len h)
    exact this
  rw [hd]
end Go.Proofs.YtcfmonlgpccndaaDoor
