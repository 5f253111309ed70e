/- once: the reference's window: the walks of row, Ask, Life. -/
import Derived.Test.YtkfebgbgnpdgpaaOnM
namespace Go.Proofs.Ytkfebgbgnpdgpaa
open Go.RowKit Go.Shelf
set_option maxRecDepth 100000
set_option linter.unusedSimpArgs false

theorem refLk_pre8 {T : Tab} {c : Nat} {e : Int × Int × List Int} (h : T c = some e) : ∀ n, c < n → ∃ tl, refLk T n = refLk T c ++ ((c : Int), e.1, e.2.1, e.2.2) :: tl
  | 0, hn => by omega
  | n + 1, hn => by
    rw [refLk_succ]
    by_cases hc : c = n
    · subst hc
      exact ⟨[], by simp [entryT, h]⟩
    · obtain ⟨tl, ht⟩ := refLk_pre8 h n (by omega)
      exact ⟨tl ++ (entryT T n).toList, by rw [ht]; simp⟩
theorem refL_get8 {T : Tab} {c : Nat} {e : Int × Int × List Int} (h : T c = some e) (hc : c < 4) {rs : List Rw} (hr : rs.map Rw.con = refL T) : ∃ hn : (refLk T c).length < rs.length, (rs[(refLk T c).length]'hn).con = ((c : Int), e.1, e.2.1, e.2.2) := by
  obtain ⟨tl, ht⟩ := refLk_pre8 h 4 hc
  have hlen := congrArg List.length hr
  unfold refL at hlen hr
  rw [ht] at hlen hr
  simp only [List.length_map, List.length_append, List.length_cons] at hlen
  refine ⟨by omega, ?_⟩
  have := congrArg (fun l => l[(refLk T c).length]?) hr
  simp only [List.getElem?_map, List.getElem?_eq_getElem (show (refLk T c).length < rs.length by omega), Option.map_some] at this
  rw [List.getElem?_append_right (Nat.le_refl _)] at this
  simpa using this


/-- The reference's window at q: its rows are those of T, rising; neither they nor their bytes lie in the blocks of M. -/
structure RefAt (w : World) (q : Nat) (M : List Nat) (T : Tab) (v : Value) (rs : List Rw) : Prop where
  blk : w.heap[q]? = some (.cells #[v] 55 (0, 0))
  inM : q ∈ M
  rows : RwsAt w M v rs
  con : rs.map Rw.con = refL T
  ok : TabOk T
  lt : ∀ b ∈ M, b < w.heap.size
theorem RefAt.ql {w q M T v rs} (h : RefAt w q M T v rs) : q < w.heap.size := lt_of_block h.blk
theorem RefAt.keep {w w' : World} {q : Nat} {M S : List Nat} {T : Tab} {v : Value} {rs : List Rw} (h : RefAt w q M T v rs) (k : Keeps S w w') (hs : ∀ b ∈ S, b ∈ M) (hq : q ∉ S) : RefAt w' q M T v rs :=
  ⟨(k.block q h.ql hq).trans h.blk, h.inM, h.rows.keep k hs, h.con, h.ok, fun b hb => Nat.lt_of_lt_of_le (h.lt b hb) k.size⟩
theorem RefAt.later {w w' : World} {q : Nat} {M : List Nat} {T : Tab} {v : Value} {rs : List Rw} (h : RefAt w q M T v rs) (k : Keeps [] w w') : RefAt w' q M T v rs := h.keep k (by simp) (by simp)
theorem RefAt.few {w q M T v rs} (h : RefAt w q M T v rs) : rs.length ≤ 4 := by
  have := congrArg List.length h.con
  have h2 := refLk_length T 4
  simp [refL] at this
  omega
theorem RefAt.cell {w q M T v rs} (h : RefAt w q M T v rs) : w.cell? ⟨q, 0, none⟩ = some v := by simp [World.cell?, h.blk]
theorem RefAt.free {w q M T v rs} (h : RefAt w q M T v rs) : w.frozen? ⟨q, 0, none⟩ = false := by simp [World.frozen?, h.blk]

theorem mem_refLk {T : Tab} {x : Cn} : ∀ n : Nat, x ∈ refLk T n → 0 ≤ x.1 ∧ x.1 < n ∧ T x.1.toNat = some (x.2.1, x.2.2.1, x.2.2.2)
  | 0, h => by simp [refLk] at h
  | n + 1, h => by
    rw [refLk_succ] at h
    rcases List.mem_append.1 h with h | h
    · obtain ⟨h1, h2, h3⟩ := mem_refLk n h
      exact ⟨h1, by omega, h3⟩
    · cases hT : T n with
      | none => simp [entryT, hT] at h
      | some e =>
        simp [entryT, hT] at h
        subst h
        exact ⟨by simp, by simp; omega, by simp [hT]⟩
theorem refLk_sorted (T : Tab) : ∀ n : Nat, (refLk T n).Pairwise fun a b => a.1 < b.1
  | 0 => by simp [refLk]
  | n + 1 => by
    rw [refLk_succ, List.pairwise_append]
    refine ⟨refLk_sorted T n, ?_, fun a ha b hb => ?_⟩
    · cases entryT T n <;> simp
    · have h1 := (mem_refLk n ha).2.1
      cases hT : T n with
      | none => simp [entryT, hT] at hb
      | some e =>
        simp [entryT, hT] at hb
        subst hb
        exact h1
/-- A row of the reference is what the table says. -/
theorem RefAt.mem {w q M T v rs} (h : RefAt w q M T v rs) {r : Rw} (hr : r ∈ rs) : 0 ≤ r.c ∧ r.c < 4 ∧ T r.c.toNat = some (r.l, r.s, r.bs) := by
  have : r.con ∈ refL T := by rw [← h.con]; exact List.mem_map.2 ⟨r, hr, rfl⟩
  exact mem_refLk 4 this

/-- What row answers. -/
def IdxPost (rs : List Rw) (c : Int) (w : World) (e : Ending) (w' : World) : Prop :=
  w = w' ∧ ((e = .returned (.int .i64 (-1)) ∧ ∀ r ∈ rs, r.c ≠ c) ∨ (∃ k, ∃ h : k < rs.length, e = .returned (.int .i64 k) ∧ rs[k].c = c))

set_option maxHeartbeats 1600000 in
theorem vRow_any (w : World) (q : Nat) (M : List Nat) (T : Tab) (v : Value) (rs : List Rw) (H : RefAt w q M T v rs) (c : Int) : Calls Try.prog 47 #[.pointer (some ⟨q, 0, none⟩), .int .i64 c] w (IdxPost rs c w) := by
  obtain ⟨a, cp, rfl, -⟩ := id H.rows
  have HH := hid H
  have c0 := H.cell
  have few := H.few
  clear H
  go_enter Try.func47, Try.ntmps47
  go_wp2_with fail
  go_loopw [5] (fun iv wr => ∃ k : Nat, k ≤ rs.length ∧ iv = .int .i64 k ∧ wr = w ∧ ∀ r ∈ rs.take k, r.c ≠ c) (fun iv _ => rs.length - (intOf iv).toNat)
  case atStart => exact ⟨0, by omega, rfl, rfl, by simp⟩
  case round =>
    obtain ⟨k, hk, rfl, rfl, hn⟩ := hrel
    have HN := hid hn
    clear hn
    by_cases hlt : k < rs.length
    · obtain ⟨g, off, ha, -, gl, -, d0, -, -, -⟩ := HH.out.rows.at k hlt
      subst ha
      have HT := hid (List.take_succ_eq_append_getElem hlt)
      obtain ⟨x, hx⟩ : ∃ x, x = rs[k].c := ⟨_, rfl⟩
      rw [← hx] at d0
      have HX := hid hx
      clear hx
      by_cases he : x = c
      · have hb : (x == c) = true := by simpa using he
        have HE := hid he
        clear he
        go_wp2_with fail
        go_ret
        exact ⟨rfl, Or.inr ⟨k, hlt, rfl, by rw [← HX.out, HE.out]⟩⟩
      · have hb : (x == c) = false := by simpa using he
        have HE := hid he
        clear he
        go_wp2_with fail
        go_roundw
        case rel =>
          refine ⟨k + 1, by omega, by go_num, trivial, fun r hr => ?_⟩
          rw [HT.out] at hr
          rcases List.mem_append.1 hr with hr | hr
          · exact HN.out r hr
          · simp at hr; subst hr; rw [← HX.out]; exact HE.out
        case measure => simp [intOf]; omega
    · obtain rfl : k = rs.length := by omega
      rw [List.take_length] at HN
      go_wp2_with fail
      go_ret
      exact ⟨rfl, Or.inl ⟨rfl, HN.out⟩⟩

theorem ref_none {w q M T v rs} (h : RefAt w q M T v rs) {c : Int} (hn : ∀ r ∈ rs, r.c ≠ c) (h0 : 0 ≤ c) (h4 : c < 4) : T c.toNat = none := by
  cases hT : T c.toNat with
  | none => rfl
  | some e =>
    obtain ⟨hk, hc⟩ := refL_get8 hT (by omega) h.con
    exact absurd (by
      simp only [Rw.con, Prod.mk.injEq] at hc
      rw [hc.1]; omega) (hn _ (List.getElem_mem hk))

set_option maxHeartbeats 1600000 in
theorem vLife_any (w : World) (q : Nat) (M : List Nat) (T : Tab) (v : Value) (rs : List Rw) (H : RefAt w q M T v rs) (c : Int) : Calls Try.prog 27 #[.pointer (some ⟨q, 0, none⟩), .int .i64 c] w fun e w' => e = .returned (.int .i64 (lifeS T c)) ∧ w = w' := by
  have VR := hid (vRow_any w q M T v rs H c)
  obtain ⟨a, cp, rfl, -⟩ := id H.rows
  have HH := hid H
  have c0 := H.cell
  clear H
  go_enter Try.func27, Try.ntmps27
  go_wp2_with fail
  refine VR.out.mono ?_
  rintro e _ ⟨rfl, (⟨rfl, hn⟩ | ⟨k, hk, rfl, hc⟩)⟩
  · have L : Hid ((-1 : Int) = lifeS T c) := hid (by
      unfold lifeS
      split
      · rename_i h
        rw [ref_none HH.out hn h.1 h.2]
      · rfl)
    go_wp2_with fail
    go_ret
    exact ⟨ret_i8 L.out, rfl⟩
  · obtain ⟨g, off, ha, -, gl, -, d0, d1, d2, d3⟩ := HH.out.rows.at k hk
    subst ha
    obtain ⟨m1, m2, m3⟩ := HH.out.mem (List.getElem_mem hk)
    have L : Hid (rs[k].l = lifeS T c) := hid (by
      rw [← hc]
      unfold lifeS
      rw [if_pos ⟨m1, m2⟩, m3])
    have hng : decide ((k : Int) < 0) = false := by simp
    clear d0 d2 d3 m1 m2 m3 hc
    go_wp2_with fail
    go_ret
    exact ⟨ret_i8 L.out, rfl⟩
end Go.Proofs.Ytkfebgbgnpdgpaa
