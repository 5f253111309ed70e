/- The reference's disk beside the code's: the two states agree but for a fuse that no longer matters. -/
import Derived.Test.YtiljhjegfklgmaaRfK
import Derived.Test.YtiljhjegfklgmaaDkY
namespace Go.Proofs.Ytiljhjegfklgmaa
open Go.RowKit

/-- b is what the reference holds where the code holds a. -/
structure SameD (a b : DS) : Prop where
  eq : b = { a with fuse := b.fuse }
  fz : a.dead = true ∨ a.fuse = b.fuse ∨ (a.fuse < 0 ∧ b.fuse < 0)
  fb : -9223372036854775808 ≤ b.fuse ∧ b.fuse ≤ 9223372036854775807

theorem SameD.cnt {a b : DS} (h : SameD a b) : b.cnt = a.cnt := by rw [h.eq]
theorem SameD.now {a b : DS} (h : SameD a b) : b.now = a.now := by rw [h.eq]
theorem SameD.loose {a b : DS} (h : SameD a b) : b.loose = a.loose := by rw [h.eq]
theorem SameD.ops {a b : DS} (h : SameD a b) : b.ops = a.ops := by rw [h.eq]
theorem SameD.dead {a b : DS} (h : SameD a b) : b.dead = a.dead := by rw [h.eq]
theorem SameD.las {a b : DS} (h : SameD a b) : b.las = a.las := by rw [h.eq]
theorem SameD.refl {a : DS} (h : -9223372036854775808 ≤ a.fuse ∧ a.fuse ≤ 9223372036854775807) : SameD a a := ⟨rfl, .inr (.inl rfl), h⟩
theorem SameD.zero {a b : DS} (h : SameD a b) (hd : a.dead = false) : b.fuse = 0 ↔ a.fuse = 0 := by
  rcases h.fz with h | h | h
  · rw [h] at hd; cases hd
  · rw [h]
  · omega

theorem SameD.readE {a b : DS} (h : SameD a b) (k : Int) : readE b k = readE a k := by unfold Go.Proofs.Ytiljhjegfklgmaa.readE; rw [h.dead, h.cnt]
theorem SameD.readB {a b : DS} (h : SameD a b) (k : Int) : readB b k = readB a k := by unfold Go.Proofs.Ytiljhjegfklgmaa.readB; rw [h.dead, h.cnt, h.now]
theorem SameD.takes {a b : DS} (h : SameD a b) (k : Int) (n : Nat) : b.takes k n ↔ a.takes k n := by unfold DS.takes; rw [h.dead, h.cnt]

theorem SameD.spent {a b : DS} (h : SameD a b) (hd : a.dead = false) : SameD a.spent b.spent := by
  have e := h.eq
  have hz := h.zero hd
  have hf : a.fuse = b.fuse ∨ (a.fuse < 0 ∧ b.fuse < 0) := by
    rcases h.fz with h | h | h
    · rw [h] at hd; cases hd
    · exact .inl h
    · exact .inr h
  have hb := h.fb
  refine ⟨?_, .inr ?_, ?_⟩
  · rw [e]; rfl
  · show (if 0 < a.fuse then a.fuse - 1 else a.fuse) = (if 0 < b.fuse then b.fuse - 1 else b.fuse) ∨ (if 0 < a.fuse then a.fuse - 1 else a.fuse) < 0 ∧ (if 0 < b.fuse then b.fuse - 1 else b.fuse) < 0
    rcases hf with hf | hf
    · rw [hf]; exact .inl rfl
    · right
      rw [if_neg (by omega), if_neg (by omega)]
      exact hf
  · show -9223372036854775808 ≤ (if 0 < b.fuse then b.fuse - 1 else b.fuse) ∧ (if 0 < b.fuse then b.fuse - 1 else b.fuse) ≤ 9223372036854775807
    split <;> omega

theorem SameD.wrote {a b : DS} (h : SameD a b) (hd : a.dead = false) (i : Nat) (r : Row) : SameD (a.wrote i r) (b.wrote i r) := by
  have hz := h.zero hd
  unfold DS.wrote
  by_cases h0 : a.fuse = 0
  · rw [if_pos h0, if_pos (hz.2 h0)]
    exact ⟨by rw [h.eq], .inl rfl, h.fb⟩
  · rw [if_neg h0, if_neg (fun h => h0 (hz.1 h))]
    have h1 : SameD ({ a with loose := a.loose ++ [(i, r)] } : DS) ({ b with loose := b.loose ++ [(i, r)] } : DS) := ⟨by rw [h.eq], h.fz, h.fb⟩
    have h2 := h1.spent hd
    refine ⟨?_, h2.fz, h2.fb⟩
    have e := h2.eq
    rw [e, h.now]

theorem SameD.writeS {a b : DS} (h : SameD a b) (k : Int) (zs : List Int) : SameD (writeS a k zs) (writeS b k zs) := by
  unfold Go.Proofs.Ytiljhjegfklgmaa.writeS
  by_cases ht : a.takes k zs.length
  · rw [if_pos ht, if_pos ((h.takes _ _).2 ht)]
    exact h.wrote ht.1 _ _
  · rw [if_neg ht, if_neg (fun g => ht ((h.takes _ _).1 g))]
    exact h
theorem SameD.writeE {a b : DS} (h : SameD a b) (k : Int) (n : Nat) : writeE b k n = writeE a k n := by
  unfold Go.Proofs.Ytiljhjegfklgmaa.writeE
  by_cases ht : a.takes k n
  · rw [if_pos ht, if_pos ((h.takes _ _).2 ht)]
    by_cases h0 : a.fuse = 0
    · rw [if_pos h0, if_pos ((h.zero ht.1).2 h0)]
    · rw [if_neg h0, if_neg (fun g => h0 ((h.zero ht.1).1 g))]
  · rw [if_neg ht, if_neg (fun g => ht ((h.takes _ _).1 g)), h.dead]

theorem SameD.syncS {a b : DS} (h : SameD a b) : SameD (syncS a) (syncS b) := by
  unfold Go.Proofs.Ytiljhjegfklgmaa.syncS
  rw [h.dead]
  cases hd : a.dead with
  | true => exact h
  | false =>
    simp only [Bool.false_eq_true, if_false]
    by_cases h0 : a.fuse = 0
    · rw [if_pos h0, if_pos ((h.zero hd).2 h0)]
      exact ⟨by rw [h.eq], .inl rfl, h.fb⟩
    · rw [if_neg h0, if_neg (fun g => h0 ((h.zero hd).1 g))]
      have h2 := h.spent hd
      refine ⟨?_, h2.fz, h2.fb⟩
      unfold DS.synced
      have e := h2.eq
      rw [e, h.now]
theorem SameD.syncE {a b : DS} (h : SameD a b) : syncE b = syncE a := by
  unfold Go.Proofs.Ytiljhjegfklgmaa.syncE
  rw [h.dead]
  cases hd : a.dead with
  | true => rfl
  | false =>
    simp only [Bool.false_eq_true, if_false]
    by_cases h0 : a.fuse = 0
    · rw [if_pos h0, if_pos ((h.zero hd).2 h0)]
    · rw [if_neg h0, if_neg (fun g => h0 ((h.zero hd).1 g))]

theorem SameD.fuse {a b : DS} (h : SameD a b) (k : Int) (hk : -9223372036854775808 ≤ k ∧ k ≤ 9223372036854775807) : SameD (fuseS a k) { b with fuse := max k (-1) } := by
  unfold fuseS
  cases hd : a.dead with
  | true => exact ⟨by rw [if_pos rfl, h.eq], .inl (by rw [if_pos rfl]; exact hd), by show -9223372036854775808 ≤ max k (-1) ∧ max k (-1) ≤ 9223372036854775807; omega⟩
  | false =>
    rw [if_neg (by decide)]
    refine ⟨by rw [h.eq]; simp only [hd], .inr ?_, by show -9223372036854775808 ≤ max k (-1) ∧ max k (-1) ≤ 9223372036854775807; omega⟩
    show k = max k (-1) ∨ (k < 0 ∧ max k (-1) < 0)
    omega

theorem SameD.crashed {a b : DS} (h : SameD a b) (ch : List Int) : b.crashed ch = a.crashed ch := by
  have e : crashRow b ch = crashRow a ch := by unfold crashRow; rw [h.loose, h.las]
  unfold DS.crashed
  rw [e, h.cnt]

/-- The reference's disk where the code's is in the state s. -/
def RefS (w : World) (q : Nat) (s : DS) (G : List Nat) : Prop := ∃ sr, SameD s sr ∧ RefAt w q sr G

theorem RefS.keep {w w' : World} {q : Nat} {s : DS} {G S : List Nat} (h : RefS w q s G) (k : Keeps S w w') (hS : ∀ b ∈ G, b ∉ S) : RefS w' q s G := by
  obtain ⟨sr, h1, h2⟩ := h
  exact ⟨sr, h1, h2.keep k hS⟩
theorem RefS.lt {w : World} {q : Nat} {s : DS} {G : List Nat} (h : RefS w q s G) : ∀ b ∈ G, b < w.heap.size := by
  obtain ⟨sr, h1, h2⟩ := h
  exact h2.lt

def RDone (w : World) (q : Nat) (s' : DS) (G : List Nat) (w' : World) : Prop := ∃ G', RefS w' q s' G' ∧ Keeps G w w' ∧ Fresh w G G'

theorem rw_any (w : World) (q : Nat) (s : DS) (G : List Nat) (H : RefS w q s G) (K : Nat) (ok : s.Ok K) (hK : K ≤ 100000) (hl : s.loose.length ≤ 100000) (k : Int) (bv : Value) (zs : List Int) (hb : RowAt w bv zs) (hoff : Off G bv zs) :
    Calls Try.prog 8 #[.pointer (some ⟨q, 0, none⟩), .int .i64 k, bv] w fun e w' => e = .returned (.int .i64 (writeE s k zs.length)) ∧ RDone w q (writeS s k zs) G w' := by
  obtain ⟨sr, hs, vf, uf, hi, rfl⟩ := H
  by_cases ht : sr.takes k zs.length
  · obtain ⟨i, rfl⟩ := Int.eq_ofNat_of_zero_le ht.2.1
    refine (rwrite_yes w q sr vf uf hi hs.fb (by rw [hs.ops]; have := ok.op; omega) (by rw [hs.cnt]; exact ok.hi) (by rw [hs.loose]; exact hl) i bv zs hb hoff ht).mono ?_
    rintro e w' ⟨rfl, G', h1, h2, h3⟩
    have e1 : writeE s (i : Int) zs.length = if sr.fuse = 0 then 14 else 0 := by rw [← hs.writeE]; unfold writeE; rw [if_pos ht]
    have e2 : writeS sr (i : Int) zs = sr.wrote i (mkRow zs) := by unfold writeS; rw [if_pos ht]; rfl
    exact ⟨by rw [e1], G', ⟨_, hs.writeS (i : Int) zs, by rw [e2]; exact h1⟩, h2, h3⟩
  · refine (rwrite_no w q sr vf uf hi k bv zs hb ht).mono ?_
    rintro e w' ⟨rfl, rfl⟩
    have e2 : writeS sr k zs = sr := by unfold writeS; rw [if_neg ht]
    refine ⟨by rw [hs.writeE], _, ⟨sr, ?_, vf, uf, hi, rfl⟩, Keeps.refl _ _, fun b hb => .inl hb⟩
    have := hs.writeS k zs
    rwa [e2] at this

/-- What is read of the reference's struct. -/
theorem RefS.cells {w : World} {q : Nat} {s : DS} {G : List Nat} (h : RefS w q s G) :
    w.cell? ⟨q, 4, none⟩ = some (.int .i64 s.ops) ∧ w.cell? ⟨q, 6, none⟩ = some (.bool s.dead) ∧ (∃ a c, w.cell? ⟨q, 0, none⟩ = some (.slice a s.cnt c)) ∧ q ∈ G ∧ q < w.heap.size := by
  obtain ⟨sr, hs, vf, uf, hi, rfl⟩ := h
  refine ⟨by rw [← hs.ops]; exact hi.c4, by rw [← hs.dead]; exact hi.c6, ?_, (rbl_iff _ _ _ _).2 (.inl rfl), hi.lt' q (.inl rfl)⟩
  obtain ⟨a, c, e⟩ := ownsRow_slice (hi.row 0 (by decide) (by decide)).own
  refine ⟨a, c, ?_⟩
  rw [hi.c0, e, (hi.row 0 (by decide) (by decide)).len]
  show some (Value.slice a (rsOf sr 0).length c) = _
  rw [← hs.cnt]
  simp [rsOf]

/-- The fuse is set. -/
theorem RefS.fused {w : World} {q : Nat} {s : DS} {G : List Nat} (h : RefS w q s G) (k : Int) (hk : -9223372036854775808 ≤ k ∧ k ≤ 9223372036854775807) :
    RefS (w.setCell ⟨q, 5, none⟩ (.int .i64 (max k (-1)))) q (fuseS s k) G ∧ w.cell? ⟨q, 5, none⟩ ≠ none ∧ w.frozen? ⟨q, 5, none⟩ = false := by
  obtain ⟨sr, hs, vf, uf, hi, rfl⟩ := h
  exact ⟨⟨_, hs.fuse k hk, vf, uf, hi.set (s' := ({ sr with fuse := max k (-1) } : DS).ref) 5 _ (by simp [rcells, DS.ref]) rfl rfl, rfl⟩, by rw [hi.c5]; simp, hi.fr 5⟩
end Go.Proofs.Ytiljhjegfklgmaa
