/- The contracts of layer 2 at rows of an earlier world; rows that a law lays itself; the laws' awake. -/
import Derived.Test.YtoglcohdanpciaaPyRefG
import Derived.Test.YtoglcohdanpciaaSame
namespace Go.Proofs.Ytoglcohdanpciaa
open Go.RowKit Go.Shelf

section
variable {w0 w : World} (k : Keeps [] w0 w) (v : Value) (rs : List (El w0)) (hR : RowsAt w v rs) (hl : rs.length ≤ 1099511627776)
include k hR hl

theorem xor_at : Calls Try.prog 57 #[v] w (RowPost w (xorL (raws rs))) := by
  have := xor_any w v (rs.map (El.keep k)) (hR.moved k) (by simpa using hl)
  rwa [raws_keep] at this
theorem rxor_at (hb : longest (raws rs) ≤ 1099511627776) : Calls Try.prog 115 #[v] w (RowPost w (xorL (raws rs))) := by
  have := rxor_any w v (rs.map (El.keep k)) (hR.moved k) (by simpa using hl) (by rw [raws_keep]; exact hb)
  rwa [raws_keep] at this
theorem fill_at (i n : Int) : Calls Try.prog 119 #[v, .int .i64 i, .int .i64 n] w (FillPost w (fillM (raws rs) i n)) := by
  have := fill_any w v (rs.map (El.keep k)) (hR.moved k) (by simpa using hl) i n
  rwa [raws_keep] at this
theorem holds_at : Calls Try.prog 118 #[v] w fun e w' => e = .returned (.bool (zeroB (xorL (raws rs)))) ∧ Keeps [] w w' := by
  have := holds_any w v (rs.map (El.keep k)) (hR.moved k) (by simpa using hl)
  rwa [raws_keep] at this
theorem rholds_at (hb : longest (raws rs) ≤ 1099511627776) : Calls Try.prog 122 #[v] w fun e w' => e = .returned (.bool (zeroB (xorL (raws rs)))) ∧ Keeps [] w w' := by
  have := rholds_any w v (rs.map (El.keep k)) (hR.moved k) (by simpa using hl) (by rw [raws_keep]; exact hb)
  rwa [raws_keep] at this
end

def El.mk' {w : World} {u : Value} {zs : List Int} (h : RowAt w u zs) (hl : zs.length ≤ 140737488351232) : El w := ⟨(u, zs), h, hl⟩

theorem rows_lit {w0 : World} (w : World) (rs : List (El w0)) (T : TypeId) (hm : rs.length ≤ maxLen) :
    RowsAt (w.alloc (.cells (rs.map fun r => r.1.1).toArray T)) (.slice (some ⟨w.heap.size, 0, none⟩) rs.length rs.length) rs := by
  refine ⟨some ⟨w.heap.size, 0, none⟩, rs.length, rfl, Nat.le_refl _, hm, by simp, ?_⟩
  rintro ad had j u hu
  obtain rfl := Option.some.inj had
  rw [Addr.add_lit, cell_of_row _ _ _ _ _ _ (heap_alloc_new w _), Nat.zero_add]
  simpa using hu

theorem els_of {w : World} : ∀ (rs : List Rw) (_ : ∀ r ∈ rs, RwOk w r), ∃ rs' : List (El w), rs'.map (fun r => r.1) = rs
  | [], _ => ⟨[], rfl⟩
  | r :: rs, h => by
    obtain ⟨rs', e⟩ := els_of rs (fun q hq => h q (by simp [hq]))
    exact ⟨⟨r, h r (by simp)⟩ :: rs', by simp [e]⟩

/-- Rows that a law lays itself. -/
theorem rows_lit' (w : World) (rs : List Rw) (h : ∀ r ∈ rs, RwOk w r) (T : TypeId) (hm : rs.length ≤ maxLen) :
    ∃ rs' : List (El w), raws rs' = rs.map Prod.snd ∧ rs'.length = rs.length ∧ RowsAt (w.alloc (.cells (rs.map Prod.fst).toArray T)) (.slice (some ⟨w.heap.size, 0, none⟩) rs.length rs.length) rs' := by
  obtain ⟨rs', e⟩ := els_of rs h
  subst e
  refine ⟨rs', by simp [raws], by simp, ?_⟩
  have := rows_lit w rs' T (by simpa using hm)
  simpa [Function.comp_def] using this

section
variable (w : World) (rs : List Rw) (h : ∀ r ∈ rs, RwOk w r) (T : TypeId) (hm : rs.length ≤ 1099511627776)
include h hm
theorem xor_lit : Calls Try.prog 57 #[.slice (some ⟨w.heap.size, 0, none⟩) rs.length rs.length] (w.alloc (.cells (rs.map Prod.fst).toArray T)) (RowPost (w.alloc (.cells (rs.map Prod.fst).toArray T)) (xorL (rs.map Prod.snd))) := by
  obtain ⟨rs', e, hl, hR⟩ := rows_lit' w rs h T (by unfold maxLen; omega)
  have := xor_at ((Keeps.refl _ _).alloc _) _ rs' hR (by omega)
  rwa [e] at this
theorem fill_lit (i n : Int) : Calls Try.prog 119 #[.slice (some ⟨w.heap.size, 0, none⟩) rs.length rs.length, .int .i64 i, .int .i64 n] (w.alloc (.cells (rs.map Prod.fst).toArray T)) (FillPost (w.alloc (.cells (rs.map Prod.fst).toArray T)) (fillM (rs.map Prod.snd) i n)) := by
  obtain ⟨rs', e, hl, hR⟩ := rows_lit' w rs h T (by unfold maxLen; omega)
  have := fill_at ((Keeps.refl _ _).alloc _) _ rs' hR (by omega) i n
  rwa [e] at this
theorem holds_lit : Calls Try.prog 118 #[.slice (some ⟨w.heap.size, 0, none⟩) rs.length rs.length] (w.alloc (.cells (rs.map Prod.fst).toArray T)) fun e w' => e = .returned (.bool (zeroB (xorL (rs.map Prod.snd)))) ∧ Keeps [] (w.alloc (.cells (rs.map Prod.fst).toArray T)) w' := by
  obtain ⟨rs', e, hl, hR⟩ := rows_lit' w rs h T (by unfold maxLen; omega)
  have := holds_at ((Keeps.refl _ _).alloc _) _ rs' hR (by omega)
  rwa [e] at this
end

theorem RowAt.later {w w' : World} {v : Value} {zs : List Int} (h : RowAt w v zs) (k : Keeps [] w w') : RowAt w' v zs := h.keep k (by intro _ _ _ _ _; simp)

theorem awake_xor : xorL [[1, 2], [3]] = [2, 2] := by decide +kernel

end Go.Proofs.Ytoglcohdanpciaa
