/- Slices of one-cell elements that came in: floats, int16s, bools; the best one's place. -/
import Derived.Test.YtoffepagogmkkaaGrD
import Derived.Deep.Slices
namespace Go.Proofs.Ytoffepagogmkkaa
open Go.ChangeShapes Go.WideShapes Go.ChangeAt Go.RowKit

/-- A slice value whose cells are us. -/
def CellsAt (w : World) (v : Value) (us : List Value) : Prop :=
  ∃ (a : Option Addr) (cap : Nat), v = .slice a us.length cap ∧ us.length ≤ cap ∧ cap ≤ maxLen ∧ (a = none → cap = 0) ∧ ∀ ad, a = some ad → ∀ j u, us[j]? = some u → w.cell? (ad.add j) = some u

theorem CellsAt.open {w : World} {v : Value} {us : List Value} (h : CellsAt w v us) (hne : 0 < us.length) :
    ∃ g off cap, v = .slice (some ⟨g, off, none⟩) us.length cap ∧ us.length ≤ cap ∧ ∀ j (hj : j < us.length), w.cell? ⟨g, off + j, none⟩ = some us[j] := by
  obtain ⟨a, cap, rfl, h1, h2, h3, h4⟩ := h
  cases a with
  | none => have := h3 rfl; omega
  | some ad =>
    obtain ⟨g, off, sp⟩ := ad
    have hc := h4 _ rfl 0 us[0] (List.getElem?_eq_getElem hne)
    have hs := World.cell?_spot hc
    obtain rfl : sp = none := by simpa [Addr.add] using hs
    refine ⟨g, off, cap, rfl, h1, fun j hj => ?_⟩
    have := h4 _ rfl j us[j] (List.getElem?_eq_getElem hj)
    rwa [Addr.add_lit] at this

theorem CellsAt.keep {w w' : World} {v : Value} {us : List Value} (h : CellsAt w v us) (k : Keeps [] w w') : CellsAt w' v us := by
  obtain ⟨a, cap, rfl, h1, h2, h3, h4⟩ := h
  refine ⟨a, cap, rfl, h1, h2, h3, fun ad had j u hu => ?_⟩
  have hc := h4 ad had j u hu
  rw [World.cell?_of_block (w := w) (k.block _ (World.block_lt_of_cell? _ _ hc) (by simp))]
  exact hc

section
variable {H : Type} {enc : TypeId × Value → H}
theorem list_of' {α : Type} {P : Nat → α → Prop} : ∀ (n : Nat), (∀ i, i < n → ∃ d, P i d) → ∃ ds : List α, ds.length = n ∧ ∀ i (h : i < ds.length), P i ds[i]
  | 0, _ => ⟨[], rfl, fun i h => by simp at h⟩
  | n + 1, h => by
    obtain ⟨ds, hl, hd⟩ := list_of' n (fun i hi => h i (by omega))
    obtain ⟨d, hp⟩ := h n (by omega)
    refine ⟨ds ++ [d], by simp [hl], fun i hi => ?_⟩
    rw [List.getElem_append]
    split
    · rename_i hlt
      exact hd i hlt
    · have : i = n := by simp at hi; omega
      subst this
      simpa using hp

/-- A slice of one-cell elements that came in. -/
theorem cells_of_trod {α : Type} (f : α → Value) (Q : α → Prop) {S E : TypeId} (hS : Try.prog.underlying S = some (.slice E)) (hE : Try.prog.cellsOf E = 1)
    {W : World} (hQ : ∀ (m : Nat) (cs : List Value) (y : DataW H × List MemPlace), DataW.trod enc Try.prog W 0 (fun _ => true) true m E cs = some y → ∃ a, cs = [f a] ∧ Q a)
    {fuel : Nat} {cs : List Value} {x : DataW H × List MemPlace} (h : DataW.trod enc Try.prog W 0 (fun _ => true) true fuel S cs = some x) : ∃ (v : Value) (xs : List α), cs = [v] ∧ CellsAt W v (xs.map f) ∧ ∀ x ∈ xs, Q x := by
  rcases Go.Deep.open_slice hS h with ⟨rfl, _⟩ | ⟨a, len, cap, m, n, D, Pl, rfl, _, hl, hm, hmm, rfl, hi⟩
  · exact ⟨_, [], rfl, ⟨none, 0, rfl, by simp, by simp, fun _ => rfl, by simp⟩, by simp⟩
  · simp only [if_true] at hmm
    subst hmm
    obtain ⟨xs, hxl, hxp⟩ := list_of' (P := fun i (b : α) => W.cell? (a.add i) = some (f b) ∧ Q b) len (fun i hil => by
      obtain ⟨cs', hc, ht⟩ := hi i (by omega)
      obtain ⟨b, rfl, hb⟩ := hQ _ _ _ ht
      rw [hE] at hc
      obtain ⟨_, hcl, hat⟩ := World.cells?_some hc
      have := hat 0 (by omega)
      refine ⟨b, ?_, hb⟩
      have hs := World.cell?_spot this
      have e : (a.add (i * 1)).add 0 = a.add i := by
        obtain ⟨g, off, sp⟩ := a
        cases sp <;> simp [Addr.add]
      rw [e] at this
      simpa using this)
    refine ⟨_, xs, rfl, ⟨some a, m, by simp [hxl], by simp; omega, hm, by simp, ?_⟩, ?_⟩
    · rintro ad had j u hu
      obtain rfl := Option.some.inj had
      rw [List.getElem?_map] at hu
      have hj : j < xs.length := by
        refine Nat.lt_of_not_le fun hn => ?_
        rw [List.getElem?_eq_none hn] at hu
        cases hu
      rw [List.getElem?_eq_getElem hj] at hu
      simp at hu
      rw [← hu]
      exact (hxp j hj).1
    · intro b hb
      obtain ⟨j, hj, rfl⟩ := List.getElem_of_mem hb
      exact (hxp j hj).2

def FloatsAt (w : World) (v : Value) (xs : List Nat) : Prop := CellsAt w v (xs.map (Value.float .f64)) ∧ ∀ x ∈ xs, x < 2 ^ 64
def I16sAt (w : World) (v : Value) (xs : List Int) : Prop := CellsAt w v (xs.map (Value.int .i16)) ∧ ∀ x ∈ xs, -32768 ≤ x ∧ x ≤ 32767
def BoolsAt (w : World) (v : Value) (xs : List Bool) : Prop := CellsAt w v (xs.map Value.bool)

theorem cells_float : Try.prog.cellsOf 23 = 1 := by kernel_rfl
theorem cells_bool : Try.prog.cellsOf 4 = 1 := by kernel_rfl
theorem cells_i16 : Try.prog.cellsOf 41 = 1 := by kernel_rfl

theorem float_elem {W : World} {m : Nat} {cs : List Value} {y : DataW H × List MemPlace} (h : DataW.trod enc Try.prog W 0 (fun _ => true) true m 23 cs = some y) : ∃ a, cs = [Value.float .f64 a] ∧ a < 2 ^ 64 := by
  have G : ∃ a, cs = [Value.float .f64 a] ∧ (Lit.float .f64 a).wf = true := by
    cases m with
    | zero => simp [DataW.trod] at h
    | succ n =>
      unfold DataW.trod at h
      rw [Try.underlying23] at h
      split at h <;> simp_all
  obtain ⟨a, e, hw⟩ := G
  exact ⟨a, e, by simpa [Lit.wf] using hw⟩
theorem floats_of_trod {W : World} {fuel : Nat} {cs : List Value} {x : DataW H × List MemPlace} (h : DataW.trod enc Try.prog W 0 (fun _ => true) true fuel 35 cs = some x) : ∃ v xs, cs = [v] ∧ FloatsAt W v xs := by
  obtain ⟨v, xs, e, h1, h2⟩ := cells_of_trod (Value.float .f64) (fun x => x < 2 ^ 64) Try.underlying35 cells_float (fun _ _ _ => float_elem) h
  exact ⟨v, xs, e, h1, h2⟩
theorem bools_of_trod {W : World} {fuel : Nat} {cs : List Value} {x : DataW H × List MemPlace} (h : DataW.trod enc Try.prog W 0 (fun _ => true) true fuel 38 cs = some x) : ∃ v xs, cs = [v] ∧ BoolsAt W v xs := by
  obtain ⟨v, xs, e, h1, _⟩ := cells_of_trod Value.bool (fun _ => True) Try.underlying38 cells_bool (fun _ _ _ h => by
    obtain ⟨b, e, _⟩ := DataW.trod_bool Try.underlying4 h
    exact ⟨b, e, trivial⟩) h
  exact ⟨v, xs, e, h1⟩
theorem i16s_of_trod {W : World} {fuel : Nat} {cs : List Value} {x : DataW H × List MemPlace} (h : DataW.trod enc Try.prog W 0 (fun _ => true) true fuel 40 cs = some x) : ∃ v xs, cs = [v] ∧ I16sAt W v xs := by
  obtain ⟨v, xs, e, h1, h2⟩ := cells_of_trod (Value.int .i16) (fun z => -32768 ≤ z ∧ z ≤ 32767) Try.underlying40 cells_i16 (fun _ _ _ h => by
    obtain ⟨n, e, _, hw⟩ := DataW.trod_int Try.underlying41 h
    refine ⟨n, e, ?_⟩
    simp only [Lit.wf, IntKind.min, IntKind.max, IntKind.signed, IntKind.bits, Bool.and_eq_true] at hw
    simpa using hw) h
  exact ⟨v, xs, e, h1, h2⟩
end

theorem FloatsAt.keep {w w' : World} {v : Value} {xs : List Nat} (h : FloatsAt w v xs) (k : Keeps [] w w') : FloatsAt w' v xs := ⟨h.1.keep k, h.2⟩
theorem FloatsAt.open {w : World} {v : Value} {xs : List Nat} (h : FloatsAt w v xs) (hne : 0 < xs.length) :
    ∃ g off cap, v = .slice (some ⟨g, off, none⟩) xs.length cap ∧ ∀ j (hj : j < xs.length), w.cell? ⟨g, off + j, none⟩ = some (.float .f64 xs[j]) := by
  obtain ⟨g, off, cap, e, _, h1⟩ := h.1.open (by simpa using hne)
  refine ⟨g, off, cap, by simpa using e, fun j hj => ?_⟩
  have := h1 j (by simpa using hj)
  simpa using this
theorem FloatsAt.slice {w : World} {v : Value} {xs : List Nat} (h : FloatsAt w v xs) : ∃ a cap, v = .slice a xs.length cap ∧ xs.length ≤ maxLen := by
  obtain ⟨a, cap, e, h1, h2, _⟩ := h.1
  exact ⟨a, cap, by simpa using e, by simp at h1; omega⟩

/-- The best one's place among the first k. -/
def bestK (xs : List Nat) : Nat → Int
  | 0 => -1
  | k + 1 => if nanB (xs.getD k 0) = false ∧ (bestK xs k < 0 ∨ 0 < cmpF (xs.getD k 0) (xs.getD (bestK xs k).toNat 0)) then k else bestK xs k

theorem bestK_bd (xs : List Nat) : ∀ k, -1 ≤ bestK xs k ∧ bestK xs k < k
  | 0 => by simp [bestK]
  | k + 1 => by
    have := bestK_bd xs k
    unfold bestK
    split <;> omega

set_option maxHeartbeats 4000000 in
theorem best_any (w : World) (v : Value) (xs : List Nat) (hX : FloatsAt w v xs) : Calls Try.prog 13 #[v] w fun e w' => e = .returned (.int .i64 (bestK xs xs.length)) ∧ w = w' := by
  have HX := hid hX
  obtain ⟨a, cap, rfl, hm⟩ := hX.slice
  unfold maxLen at hm
  clear hX
  go_enter Try.func13, Try.ntmps13
  go_wp2_with fail
  go_loop [3, 8] (fun t i => ∃ k : Nat, k ≤ xs.length ∧ i = .int .i64 k ∧ t = .int .i64 (bestK xs k)) (fun _ i => xs.length - (intOf i).toNat)
  case atStart => exact ⟨0, Nat.zero_le _, rfl, rfl⟩
  case round =>
    obtain ⟨k, hk, rfl, rfl⟩ := hrel
    by_cases hlt : k < xs.length
    · obtain ⟨g, o, c, e1, hc⟩ := HX.out.open (by omega)
      injection e1 with e1 _ e3
      subst e1; subst e3
      have d1 := hc k hlt
      obtain ⟨b1, b2⟩ := bestK_bd xs k
      have HS : Hid (bestK xs (k + 1) = if nanB xs[k] = false ∧ (bestK xs k < 0 ∨ 0 < cmpF xs[k] (xs.getD (bestK xs k).toNat 0)) then (k : Int) else bestK xs k) := by
        show bestK xs (k + 1) = _
        rw [bestK, show xs.getD k 0 = xs[k] from by rw [List.getD_eq_getElem?_getD, List.getElem?_eq_getElem hlt]; rfl]
      have x1 := HX.out.2 xs[k] (List.getElem_mem hlt)
      generalize hbk : bestK xs k = q at *
      cases hn : nanB xs[k] with
      | true =>
        rw [hn] at HS
        simp only [Bool.true_eq_false, false_and, if_false] at HS
        have N := fun W => hn ▸ isnan_any xs[k] W
        clear hn hbk x1 hc
        go_wp2_with (go_at_call 19; refine (N _).mono ?_; rintro e w' ⟨rfl, rfl⟩)
        go_round
        case rel => exact ⟨k + 1, by omega, by go_num, by rw [HS.out]⟩
        case measure => simp [intOf]; omega
      | false =>
        rw [hn] at HS
        have N := fun W => hn ▸ isnan_any xs[k] W
        by_cases hq : q < 0
        · have HS' : Hid (bestK xs (k + 1) = k) := by
            have := HS.out
            rw [if_pos ⟨rfl, Or.inl hq⟩] at this
            exact this
          clear HS hn hbk x1 hc
          go_wp2_with (go_at_call 19; refine (N _).mono ?_; rintro e w' ⟨rfl, rfl⟩)
          go_round
          case rel => exact ⟨k + 1, by omega, by go_num, by rw [HS'.out]⟩
          case measure => simp [intOf]; omega
        · obtain ⟨p, rfl⟩ := Int.eq_ofNat_of_zero_le (show 0 ≤ q by omega)
          have hp : p < xs.length := by omega
          have d2 := hc p hp
          have x2 := HX.out.2 xs[p] (List.getElem_mem hp)
          have C := fun W => compare_any xs[k] xs[p] x1 x2 W
          rw [show xs.getD ((p : Int)).toNat 0 = xs[p] from by simp [hp]] at HS
          obtain ⟨r, hr⟩ : ∃ r, r = cmpF xs[k] xs[p] := ⟨_, rfl⟩
          unfold CmpPost at C
          rw [← hr] at C HS
          clear hr hn hbk x1 x2 hc
          by_cases hr : 0 < r
          · have HS' : Hid (bestK xs (k + 1) = k) := by
              have := HS.out
              rw [if_pos ⟨rfl, Or.inr hr⟩] at this
              exact this
            clear HS
            go_wp2_with (first | (go_at_call 19; refine (N _).mono ?_; rintro e w' ⟨rfl, rfl⟩) | (go_at_call 12; refine (C _).mono ?_; rintro e w' ⟨rfl, rfl⟩))
            go_round
            case rel => exact ⟨k + 1, by omega, by go_num, by rw [HS'.out]⟩
            case measure => simp [intOf]; omega
          · have HS' : Hid (bestK xs (k + 1) = p) := by
              have := HS.out
              rw [if_neg (by omega)] at this
              exact this
            clear HS
            go_wp2_with (first | (go_at_call 19; refine (N _).mono ?_; rintro e w' ⟨rfl, rfl⟩) | (go_at_call 12; refine (C _).mono ?_; rintro e w' ⟨rfl, rfl⟩))
            go_round
            case rel => exact ⟨k + 1, by omega, by go_num, by rw [HS'.out]⟩
            case measure => simp [intOf]; omega
    · have : k = xs.length := by omega
      subst this
      go_wp2_with fail
      go_ret
      exact ⟨rfl, rfl⟩
end Go.Proofs.Ytoffepagogmkkaa
