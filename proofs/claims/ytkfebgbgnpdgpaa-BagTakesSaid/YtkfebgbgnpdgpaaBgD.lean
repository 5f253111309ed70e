/- bag: what a copy of messages is; append that fits. -/
import Derived.Test.YtkfebgbgnpdgpaaBgC
import Derived.Laws.OwnMore
import Derived.OwnWalk
namespace Go.Proofs.Ytkfebgbgnpdgpaa
open Go.RowKit

def lsum : List Mg → Nat
  | [] => 0
  | m :: r => m.bs.length + lsum r
def allb (ms : List Mg) : List Int := ms.flatMap (·.bs)
theorem lsum_append : ∀ (a b : List Mg), lsum (a ++ b) = lsum a + lsum b
  | [], b => by simp [lsum]
  | m :: r, b => by simp only [List.cons_append, lsum, lsum_append r b]; omega
theorem allb_length : ∀ (ms : List Mg), (allb ms).length = lsum ms
  | [] => rfl
  | m :: r => by
    have := allb_length r
    simp only [allb, List.flatMap_cons, List.length_append, lsum] at *
    omega
theorem lsum_le : ∀ (ms : List Mg), (∀ m ∈ ms, m.bs.length ≤ 100) → lsum ms ≤ ms.length * 100
  | [], _ => by simp [lsum]
  | m :: r, h => by
    have := lsum_le r (fun x hx => h x (List.mem_cons_of_mem _ hx))
    have := h m (List.mem_cons_self ..)
    simp only [lsum, List.length_cons]
    omega
theorem lsum_take_succ {ms : List Mg} {k : Nat} (h : k < ms.length) : lsum (ms.take (k + 1)) = lsum (ms.take k) + ms[k].bs.length := by
  rw [List.take_succ_eq_append_getElem h, lsum_append]
  simp [lsum]
theorem lsum_take_le (ms : List Mg) (k : Nat) : lsum (ms.take k) ≤ lsum ms := by
  have := lsum_append (ms.take k) (ms.drop k)
  rw [List.take_append_drop] at this
  omega

/-- The messages whose bytes lie behind one another in block g. -/
def cutM (g : Nat) : Nat → List Mg → List Mg
  | _, [] => []
  | s, m :: r => ⟨m.f, m.t, .slice (some ⟨g, if m.bs.length = 0 then 0 else s, none⟩) m.bs.length m.bs.length, m.bs⟩ :: cutM g (s + m.bs.length) r
theorem cutM_length (g : Nat) : ∀ (s : Nat) (ms : List Mg), (cutM g s ms).length = ms.length
  | _, [] => rfl
  | s, m :: r => by simp [cutM, cutM_length g _ r]
theorem cutM_con (g : Nat) : ∀ (s : Nat) (ms : List Mg), (cutM g s ms).map con = ms.map con
  | _, [] => rfl
  | s, m :: r => by simp [cutM, cutM_con g _ r, con]
theorem cutM_snoc (g : Nat) (m : Mg) : ∀ (s : Nat) (ms : List Mg), cutM g s (ms ++ [m]) = cutM g s ms ++ [⟨m.f, m.t, .slice (some ⟨g, if m.bs.length = 0 then 0 else s + lsum ms, none⟩) m.bs.length m.bs.length, m.bs⟩]
  | s, [] => by simp [cutM, lsum]
  | s, x :: r => by
    simp only [List.cons_append, cutM, cutM_snoc g m _ r, lsum]
    rw [Nat.add_assoc]

theorem cutM_ok {w : World} {g : Nat} : ∀ (s : Nat) (ms : List Mg) (_ : ∀ m ∈ ms, m.bs.length ≤ 100 ∧ i64 m.f ∧ i64 m.t ∧ ∀ z ∈ m.bs, 0 ≤ z ∧ z ≤ 255)
    (_ : ∀ j u, ((allb ms).map (Value.int .u8))[j]? = some u → w.cell? ⟨g, s + j, none⟩ = some u), ∀ m ∈ cutM g s ms, MgOk w [g] m
  | _, [], _, _, m, hm => by simp [cutM] at hm
  | s, m :: r, hok, hc, x, hx => by
    have hm := hok m (List.mem_cons_self ..)
    have hsplit : (allb (m :: r)).map (Value.int .u8) = m.bs.map (Value.int .u8) ++ (allb r).map (Value.int .u8) := by simp [allb]
    rw [cutM] at hx
    rcases List.mem_cons.1 hx with rfl | hx
    · refine ⟨⟨_, _, rfl, Nat.le_refl _, by unfold maxLen; simp; omega, by simp, hm.2.2.2, fun ad had j u hu => ?_⟩, fun ad n c e _ => ?_, hm.1, hm.2.1, hm.2.2.1⟩
      · obtain rfl := Option.some.inj had
        rw [Addr.add_lit]
        have hj : j < m.bs.length := by
          have := (List.getElem?_eq_some_iff.1 hu).1
          simpa using this
        rw [if_neg (by omega)]
        refine hc j u ?_
        rw [hsplit, List.getElem?_append_left (by simpa using hj)]
        exact hu
      · injection e with e _ _
        obtain rfl := Option.some.inj e
        simp
    · refine cutM_ok (s + m.bs.length) r (fun y hy => hok y (List.mem_cons_of_mem _ hy)) (fun j u hu => ?_) x hx
      rw [Nat.add_assoc]
      refine hc _ u ?_
      rw [hsplit, List.getElem?_append_right (by simp)]
      simpa using hu

/-- append of whatever row of single cells, nil or not, that fits. -/
theorem run_fits_src {P : Program} {w : World} (base : Nat) (t ty e : TypeId) (i : TypeInfo) (size : Nat) (ht : P.underlying t = some (.slice e)) (hi : P.info? e = some i) (hsize : i.size = size)
    (g n cap : Nat) (xs : List Value) (hown : w.ownsRow base e size (.slice (some ⟨g, 0, none⟩) n cap) n xs)
    (A : Option Addr) (m c : Nat) (news : List Value) (hl : news.length = m * size) (hA : A = none → c = 0) (hmc : m ≤ c) (hnews : ∀ ad, A = some ad → ∀ j u, news[j]? = some u → w.cell? (ad.add j) = some u) (h1 : ∀ u ∈ news, u.oneCell' = true)
    (hroom : n + m ≤ cap) :
    ∃ w', (Builtin.append_ #[t, t] ty #[.slice (some ⟨g, 0, none⟩) n cap, .slice A m c]).run P w = .ok (.slice (some ⟨g, 0, none⟩) (n + m) cap) w' ∧
      w'.ownsRow base e size (.slice (some ⟨g, 0, none⟩) (n + m) cap) (n + m) (xs ++ news) ∧ w.grownBy w' (some g) := by
  cases A with
  | none =>
    obtain rfl := hA rfl
    obtain rfl : m = 0 := by omega
    have hb : news = [] := List.eq_nil_of_length_eq_zero (by simpa using hl)
    subst hb
    have hrun := run_append_owned_none (P := P) (w := w) base t ty e i size ht hi _ n xs hown
    exact ⟨w, by simpa using hrun, by simpa using hown, ⟨rfl, rfl, rfl, Nat.le_refl _, fun _ _ _ => rfl⟩⟩
  | some ad => exact run_append_fits (P := P) w base t ty e i size ht hi hsize g n cap xs hown ad m c news hl (hnews ad rfl) h1 hroom

/-- bytes[f:e:e]. -/
theorem run_cut3 (g n cap f e : Nat) (h1 : f ≤ e) (h2 : e ≤ cap) (W : World) :
    (Instr.slice 29 (.slice (some ⟨g, 0, none⟩) n cap) (some (.int .i64 (f : Int))) (some (.int .i64 (e : Int))) (some (.int .i64 (e : Int)))).run Try.prog W = .ok (.slice (some ⟨g, if e - f = 0 then 0 else f, none⟩) (e - f) (e - f)) W := by
  rw [run_slice_lhm W 29 _ n cap bytes_elem .i64 .i64 .i64 f e e (by omega) (by omega) (by omega) (by omega), bytes_el, size_u8]
  simp only [Result.andThen, sliced, Int.toNat_natCast, Nat.mul_one]
  by_cases h : e = f
  · subst h
    simp
  · have h3 : ¬ (e - f = 0) := by omega
    simp [h, h3, Addr.add_lit]
end Go.Proofs.Ytkfebgbgnpdgpaa
