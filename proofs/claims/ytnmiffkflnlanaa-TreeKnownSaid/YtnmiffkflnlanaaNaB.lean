/- Slices of texts in memory; append of one text onto a row of the call's own; strings.Builder's writers. -/
import Derived.Test.YtnmiffkflnlanaaNaA
import Derived.Test.YtnmiffkflnlanaaShelf
import Derived.Test.YtnmiffkflnlanaaCore
import Derived.Lib.AppendStr
namespace Go.Proofs.Ytnmiffkflnlanaa
open Go.RowKit

def bstr (b : List UInt8) : Value := .string ⟨b.toArray⟩
theorem bstr_data (s : ByteArray) : bstr s.data.toList = .string s := by
  unfold bstr
  congr 1

/-- A slice of these texts. -/
def SAt (w : World) (v : Value) (L : List (List UInt8)) : Prop :=
  ∃ (a : Option Addr) (cap : Nat), v = .slice a L.length cap ∧ L.length ≤ cap ∧ cap ≤ maxLen ∧ (a = none → cap = 0) ∧ ∀ ad, a = some ad → ∀ j u, L[j]? = some u → w.cell? (ad.add j) = some (bstr u)

theorem SAt.nil (w : World) : SAt w (.slice none 0 0) [] := ⟨none, 0, rfl, by simp, by simp, fun _ => rfl, by simp⟩

theorem SAt.open {w : World} {v : Value} {L : List (List UInt8)} (h : SAt w v L) (hne : 0 < L.length) :
    ∃ g off cap, v = .slice (some ⟨g, off, none⟩) L.length cap ∧ L.length ≤ cap ∧ ∀ j (hj : j < L.length), w.cell? ⟨g, off + j, none⟩ = some (bstr L[j]) := by
  obtain ⟨a, cap, rfl, h1, h2, h3, h4⟩ := h
  cases a with
  | none => have := h3 rfl; omega
  | some ad =>
    obtain ⟨g, off, sp⟩ := ad
    have hc := h4 _ rfl 0 L[0] (List.getElem?_eq_getElem hne)
    have hs := World.cell?_spot hc
    obtain rfl : sp = none := by simpa [Addr.add] using hs
    refine ⟨g, off, cap, rfl, h1, fun j hj => ?_⟩
    have := h4 _ rfl j L[j] (List.getElem?_eq_getElem hj)
    rwa [Addr.add_lit] at this

theorem SAt.keep {w w' : World} {v : Value} {L : List (List UInt8)} (h : SAt w v L) (k : Keeps [] w w') : SAt w' v L := by
  obtain ⟨a, cap, rfl, h1, h2, h3, h4⟩ := h
  refine ⟨a, cap, rfl, h1, h2, h3, fun ad had j u hu => ?_⟩
  have hc := h4 ad had j u hu
  rw [World.cell?_of_block (w := w) (k.block _ (World.block_lt_of_cell? _ _ hc) (by simp))]
  exact hc

theorem SAt.len {w : World} {v : Value} {L : List (List UInt8)} (h : SAt w v L) : L.length ≤ maxLen := by
  obtain ⟨a, cap, rfl, h1, h2, _⟩ := h; omega

/-- What is owned can be read. -/
theorem SAt.of_own {w : World} {B : Nat} {e : TypeId} {v : Value} {L : List (List UInt8)} (h : w.ownsRow B e 1 v L.length (L.map bstr)) : SAt w v L := by
  rcases h.2 with ⟨rfl, h0⟩ | ⟨g, cap, cur, rfl, hb, hg, hnc, hcm, hcs, ht⟩
  · rw [List.eq_nil_of_length_eq_zero h0]
    exact SAt.nil w
  · refine ⟨_, cap, rfl, hnc, hcm, by simp, ?_⟩
    rintro ad had j u hu
    obtain rfl := Option.some.inj had
    exact h.cells (g := g) rfl j (bstr u) (by rw [List.getElem?_map, hu]; rfl)

/-- The first n of them. -/
theorem SAt.take {w : World} {a : Option Addr} {len cap : Nat} {L : List (List UInt8)} (h : SAt w (.slice a len cap) L) (n : Nat) (hn : n ≤ L.length) : SAt w (.slice a n cap) (L.take n) := by
  obtain ⟨a', cap', hv, h1, h2, h3, h4⟩ := h
  injection hv with e1 e2 e3
  subst e1; subst e2; subst e3
  refine ⟨a, cap, by rw [List.length_take, Nat.min_eq_left hn], by rw [List.length_take]; omega, h2, h3, fun ad had j u hu => h4 ad had j u ?_⟩
  rw [List.getElem?_take] at hu
  split at hu
  · exact hu
  · cases hu

theorem strs_elem : Try.prog.underlying 58 = some (.slice (Try.prog.elem 58)) := by kernel_rfl
theorem strs_el : Try.prog.elem 58 = 9 := by kernel_rfl
theorem size_str (W : World) : (sizeOf 9).run Try.prog W = .ok 1 W := Try.sizeOf9 W
theorem infoStr : (Try.prog.info? 9).map (fun i => (i.zero, i.size, i.bytes)) = some (some (.string ⟨#[]⟩), 1, 16) := by kernel_rfl

theorem run_strs_take (W : World) (a : Option Addr) (len cap n : Nat) (hn : n ≤ cap) :
    (Instr.slice 58 (.slice a len cap) none (some (.int .i64 (n : Int))) none).run Try.prog W = .ok (.slice a n cap) W := by
  have hadd : ∀ ad : Addr, ad.add 0 = ad := fun ad => by unfold Addr.add; split <;> simp_all
  have ha : (if cap = 0 then a else a.map (·.add 0)) = a := by
    split
    · rfl
    · cases a <;> simp [hadd]
  rw [run_slice_h W 58 a len cap strs_elem .i64 n (by omega) (by omega), strs_el, size_str]
  simp [Result.andThen, sliced, ha]

end Go.Proofs.Ytnmiffkflnlanaa
