/- The code's tree in memory: a directory's map of names; the things, by number. -/
import Derived.Test.YtnmiffkflnlanaaTrA
import Derived.Test.YtnmiffkflnlanaaNaB
import Derived.Test.YtnmiffkflnlanaaKitE
import Derived.Maps.OwnSet
import Derived.StringKeys
namespace Go.Proofs.Ytnmiffkflnlanaa
open Go.RowKit Go.Maps Go.WideElems
set_option maxRecDepth 100000

theorem keyedS : Keyed Try.prog 9 := string_keyed (by kernel_rfl)
theorem uNames : Try.prog.underlying 63 = some (.map 9 3) := by kernel_rfl
abbrev numN (k : Nat) : Value := .int .i64 k
def RT (v : Value) : Option (DataW Value × List MemPlace) := some (.held v, [])
theorem RT_inv {v : Value} {x : DataW Value} {ps : List MemPlace} (h : RT v = some (x, ps)) : x = .held v := by
  unfold RT at h
  injection h with h
  injection h with h _
  exact h.symm
theorem uInt10 : Try.prog.underlying 3 = some (.int .i64) := by kernel_rfl
theorem uStr10 : Try.prog.underlying 9 = some .string := by kernel_rfl
theorem zeroInt10 (w : World) : (zeroValue 3).run Try.prog w = .ok (numN 0) w := Try.zeroValue3 w
theorem key_bstr (s : List UInt8) (hs : s.length ≤ maxLen) : keyOf Try.prog 9 (bstr s) = some (.string s) := by
  have h := WideMaps.keyOf_string_mk (P := Try.prog) uStr10 (s := ⟨s.toArray⟩) (by show s.toArray.size ≤ maxLen; simpa using hs)
  unfold bstr
  rw [h]

/-- Block m is a map of at most n entries: under s it has f s, where that is not 0. -/
def MapT (w : World) (m n : Nat) (f : List UInt8 → Nat) : Prop :=
  ∃ D : DataW Value, w.ownsMap Try.prog 9 RT m n D ∧ (∀ s, D.atKey (.string s) (.held (numN 0)) = .held (numN (f s))) ∧ (∀ s, Maps.has D (.string s) = true ↔ f s ≠ 0) ∧ (∀ k, Maps.has D k = true → ∃ s, k = .string s)
def updS {α : Type} (f : List UInt8 → α) (s : List UInt8) (v : α) : List UInt8 → α := fun u => if u = s then v else f u
theorem updS_same {α : Type} (f : List UInt8 → α) (s : List UInt8) (v : α) : updS f s v s = v := by simp [updS]
theorem updS_ne {α : Type} (f : List UInt8 → α) {s u : List UInt8} (v : α) (h : u ≠ s) : updS f s v u = f u := by simp [updS, h]

theorem MapT.made (w : World) : MapT (w.alloc (.map #[] 0)) w.heap.size 0 fun _ => 0 :=
  ⟨.map [], World.ownsMap_made _ _ _ _, fun s => by simp [DataW.atKey], fun s => by simp [Maps.has], fun k h => by simp [Maps.has] at h⟩
theorem MapT.lt {w : World} {m n : Nat} {f} (h : MapT w m n f) : m < w.heap.size := by
  obtain ⟨D, ho, _⟩ := h
  exact ho.lt
theorem MapT.mono {w : World} {m n n' : Nat} {f} (h : MapT w m n f) (hn : n ≤ n') : MapT w m n' f := by
  obtain ⟨D, ho, r⟩ := h
  exact ⟨D, ho.mono hn, r⟩
theorem MapT.block {w w' : World} {m n : Nat} {f} (h : MapT w m n f) (hb : w'.heap[m]? = w.heap[m]?) : MapT w' m n f := by
  obtain ⟨D, ⟨es, clock, h1, h2⟩, r⟩ := h
  exact ⟨D, ⟨es, clock, hb.trans h1, h2⟩, r⟩
theorem MapT.keep {w w' : World} {m n : Nat} {f} {S : List Nat} (h : MapT w m n f) (k : Keeps S w w') (hm : m ∉ S) : MapT w' m n f := h.block (k.block m h.lt hm)

theorem MapT.look {w : World} {m n : Nat} {f} (h : MapT w m n f) (s : List UInt8) (hs : s.length ≤ maxLen) : (Instr.lookup 63 (.map (some m)) (bstr s) true).run Try.prog w = .ok (.tuple #[numN (f s), .bool (f s != 0)]) w := by
  obtain ⟨D, ho, hr, hh, _⟩ := h
  obtain ⟨v, ps, hrun, hv⟩ := ho.look_ok keyedS uNames (zeroInt10 w) (show RT (numN 0) = some (.held (numN 0), []) from rfl) (key_bstr s hs)
  rw [hr s] at hv
  have hv2 := RT_inv hv
  injection hv2 with hv2
  rw [hrun, ← hv2]
  have e : Maps.has D (.string s) = (f s != 0) := by
    cases hq : Maps.has D (.string s) with
    | true => have := (hh s).1 hq; simp [this]
    | false =>
      by_cases h0 : f s = 0
      · simp [h0]
      · have := (hh s).2 h0; rw [hq] at this; cases this
  rw [e]
theorem MapT.store {w : World} {m n : Nat} {f} (h : MapT w m n f) (s : List UInt8) (hs : s.length ≤ maxLen) (hn : n < 140737488351232) (k : Nat) (hk : k ≠ 0) :
    ∃ w', (Instr.mapUpdate 63 (.map (some m)) (bstr s) (numN k)).run Try.prog w = .ok () w' ∧ MapT w' m (n + 1) (updS f s k) ∧ Keeps [m] w w' := by
  obtain ⟨D, ho, hr, hh, hk'⟩ := h
  obtain ⟨w', hrun, ho', hg⟩ := ho.update keyedS uNames (by unfold maxLen; omega) (key_bstr s hs) (show RT (numN k) = some (.held (numN k), []) from rfl)
  refine ⟨w', hrun, ⟨_, ho', fun u => ?_, fun u => ?_, fun l hl => ?_⟩, (Keeps.refl _ _).grown hg fun j hj => Or.inl (by injection hj with hj; simp [hj])⟩
  · by_cases e : u = s
    · subst e
      rw [updS_same]
      exact atKey_put_same (k := .string u) ho.isMap (keyedS.key (key_bstr u hs)) _ _
    · rw [updS_ne _ _ e, ← hr u]
      exact atKey_put_other (fun e' => e (by injection e')) _ _
  · by_cases e : u = s
    · subst e
      rw [updS_same]
      exact ⟨fun _ => hk, fun _ => has_put_same ho.isMap (keyedS.key (key_bstr u hs)) _⟩
    · rw [updS_ne _ _ e, ← hh u, has_put_other (fun e' => e (by injection e'))]
  · by_cases e : l = .string s
    · exact ⟨s, e⟩
    · rw [has_put_other e] at hl
      exact hk' l hl
theorem MapT.drop {w : World} {m n : Nat} {f} (h : MapT w m n f) (s : List UInt8) (hs : s.length ≤ maxLen) (ty : TypeId) :
    ∃ w', (Builtin.delete_ #[63, 9] ty #[.map (some m), bstr s]).run Try.prog w = .ok (.tuple #[]) w' ∧ MapT w' m n (updS f s 0) ∧ Keeps [m] w w' := by
  obtain ⟨D, ho, hr, hh, hk'⟩ := h
  obtain ⟨w', hrun, ho', ht⟩ := ho.drop keyedS uNames (key_bstr s hs) ty
  refine ⟨w', hrun, ⟨_, ho', fun u => ?_, fun u => ?_, fun l hl => ?_⟩, (Keeps.refl _ _).grown ht.grown fun j hj => Or.inl (by injection hj with hj; simp [hj])⟩
  · by_cases e : u = s
    · subst e
      rw [updS_same]
      exact atKey_del_same _
    · rw [updS_ne _ _ e, ← hr u]
      exact atKey_del_other (fun e' => e (by injection e')) _
  · by_cases e : u = s
    · subst e
      rw [updS_same, has_del_same]
      simp
    · rw [updS_ne _ _ e, ← hh u, has_del_other (fun e' => e (by injection e'))]
  · by_cases e : l = .string s
    · rw [e, has_del_same] at hl
      cases hl
    · rw [has_del_other e] at hl
      exact hk' l hl
theorem MapT.len {w : World} {m n : Nat} {f} (h : MapT w m n f) (ty : TypeId) :
    ∃ c : Nat, (Builtin.len_ #[63] ty #[.map (some m)]).run Try.prog w = .ok (numN c) w ∧ (c = 0 ↔ ∀ s, f s = 0) := by
  obtain ⟨D, ho, hr, hh, hk'⟩ := h
  refine ⟨_, ho.len uNames ty, ?_⟩
  obtain ⟨es, clock, hb, F, hs, rfl⟩ := ho
  generalize hl : (es.toList.map (rg Try.prog 9 RT)).foldr DataW.insert [] = L at hr hh hk'
  constructor
  · intro h0 s
    cases L with
    | nil =>
      by_cases e : f s = 0
      · exact e
      · have := (hh s).2 e
        simp [Maps.has] at this
    | cons p L => simp [Maps.size] at h0
  · intro h0
    cases L with
    | nil => rfl
    | cons p L =>
      have hp : p ∈ (es.toList.map (rg Try.prog 9 RT)).foldr DataW.insert [] := by rw [hl]; simp
      obtain ⟨v, hv⟩ := fit_keys F p (mem_sorted.1 hp)
      have hp1 : Maps.has (DataW.map (p :: L)) p.1 = true := by
        rw [Maps.has_eq]
        exact List.any_eq_true.2 ⟨p, by simp, WideAt.sameKey_self (keyedS.key hv)⟩
      obtain ⟨s, hs2⟩ := hk' _ hp1
      rw [hs2] at hp1
      exact absurd (h0 s) ((hh s).1 hp1)

/-! The things. -/
structure Tg where
  there : Bool
  up : Nat
  nm : List UInt8
  dir : Bool
def tg0 : Tg := ⟨false, 0, [], false⟩
def tgC (x : Tg) (g : Nat) : List Value := [.bool x.there, numN x.up, bstr x.nm, .map (if x.dir then some g else none)]
def tgV (x : Tg) (g : Nat) : Value := .agg (tgC x g).toArray
def upT (T : TL) (n : Nat) : Nat := match findT T n with | some x => x.up | none => 0
def nmT (T : TL) (n : Nat) : List UInt8 := match findT T n with | some x => x.nm | none => []
def xT (T : TL) (n : Nat) : Tg := ⟨hasT T n, upT T n, nmT T n, isDirT T n⟩

/-- The struct at q: the things X, the directories' maps at G, with K in them. -/
structure MidIn (w : World) (q : Nat) (X : Nat → Tg) (G : Nat → Nat) (K : Nat → List UInt8 → Nat) (c : Nat) : Prop where
  lt : q < w.heap.size
  fr : ∀ i, w.frozen? ⟨q, i, none⟩ = false
  cells : ∀ n, n < 129 → w.rangeAt q (n * 4) (tgC (X n) (G n))
  map : ∀ n, n < 129 → (X n).dir = true → MapT w (G n) c (K n)
  inj : ∀ n m, n < 129 → m < 129 → (X n).dir = true → (X m).dir = true → G n = G m → n = m
  ne : ∀ n, n < 129 → (X n).dir = true → G n ≠ q
def foot (q : Nat) (X : Nat → Tg) (G : Nat → Nat) : List Nat := q :: ((List.range 129).filter fun n => (X n).dir).map G
theorem mem_footT {q : Nat} {X : Nat → Tg} {G : Nat → Nat} {b : Nat} : b ∈ foot q X G ↔ b = q ∨ ∃ n, n < 129 ∧ (X n).dir = true ∧ G n = b := by
  unfold foot
  rw [List.mem_cons, List.mem_map]
  simp only [List.mem_filter, List.mem_range]
  constructor
  · rintro (h | ⟨n, ⟨h1, h2⟩, h3⟩)
    · exact Or.inl h
    · exact Or.inr ⟨n, h1, h2, h3⟩
  · rintro (h | ⟨n, h1, h2, h3⟩)
    · exact Or.inl h
    · exact Or.inr ⟨n, ⟨h1, h2⟩, h3⟩
theorem cell_block {w w' : World} {b : Nat} (h : w'.heap[b]? = w.heap[b]?) (o : Nat) : w'.cell? ⟨b, o, none⟩ = w.cell? ⟨b, o, none⟩ ∧ w'.frozen? ⟨b, o, none⟩ = w.frozen? ⟨b, o, none⟩ := by
  simp [World.cell?, World.frozen?, h]
section
variable {w w' : World} {q c : Nat} {X : Nat → Tg} {G : Nat → Nat} {K : Nat → List UInt8 → Nat}
theorem MidIn.keep {S : List Nat} (h : MidIn w q X G K c) (k : Keeps S w w') (hS : ∀ b ∈ foot q X G, b ∉ S) : MidIn w' q X G K c := by
  have hb := k.block q h.lt (hS q (by simp [foot]))
  refine ⟨Nat.lt_of_lt_of_le h.lt k.size, fun i => by rw [(cell_block hb i).2]; exact h.fr i, fun n hn j v hv => by rw [(cell_block hb _).1]; exact h.cells n hn j v hv, fun n hn hd => (h.map n hn hd).keep k (hS _ (mem_footT.2 (Or.inr ⟨n, hn, hd, rfl⟩))), h.inj, h.ne⟩
theorem MidIn.mono {c' : Nat} (h : MidIn w q X G K c) (hc : c ≤ c') : MidIn w q X G K c' := ⟨h.lt, h.fr, h.cells, fun n hn hd => (h.map n hn hd).mono hc, h.inj, h.ne⟩
theorem MidIn.foot_lt (h : MidIn w q X G K c) : ∀ b ∈ foot q X G, b < w.heap.size := fun b hb => by
  rcases mem_footT.1 hb with rfl | ⟨n, hn, hd, rfl⟩
  · exact h.lt
  · exact (h.map n hn hd).lt
theorem MidIn.c0 (h : MidIn w q X G K c) (n : Nat) (hn : n < 129) : w.cell? ⟨q, n * 4, none⟩ = some (.bool (X n).there) := h.cells n hn 0 _ rfl
theorem MidIn.c1 (h : MidIn w q X G K c) (n : Nat) (hn : n < 129) : w.cell? ⟨q, n * 4 + 1, none⟩ = some (numN (X n).up) := h.cells n hn 1 _ rfl
theorem MidIn.c2 (h : MidIn w q X G K c) (n : Nat) (hn : n < 129) : w.cell? ⟨q, n * 4 + 2, none⟩ = some (bstr (X n).nm) := h.cells n hn 2 _ rfl
theorem MidIn.c3 (h : MidIn w q X G K c) (n : Nat) (hn : n < 129) : w.cell? ⟨q, n * 4 + 3, none⟩ = some (.map (if (X n).dir then some (G n) else none)) := h.cells n hn 3 _ rfl
theorem MidIn.there (h : MidIn w q X G K c) (n : Nat) (hn : n < 129) (i k : Nat) (hk : i + k ≤ 4) : w.there q (n * 4 + i) k := fun j hj => by
  refine ⟨?_, h.fr _⟩
  have : i + j < 4 := by omega
  have hl : (tgC (X n) (G n))[i + j]? = some (tgC (X n) (G n))[i + j] := List.getElem?_eq_getElem (by show i + j < 4; omega)
  have := h.cells n hn (i + j) _ hl
  rw [show n * 4 + i + j = n * 4 + (i + j) by omega, this]
  rfl
/-- Cells of one thing written. -/
theorem MidIn.set (h : MidIn w q X G K c) {X' : Nat → Tg} {G' : Nat → Nat} {K' : Nat → List UInt8 → Nat} (n : Nat) (hn : n < 129) (i : Nat) (vs : List Value) (hi : i + vs.length ≤ 4)
    (hX : ∀ m, m ≠ n → X' m = X m) (hG : ∀ m, m < 129 → m ≠ n → (X m).dir = true → G' m = G m) (hK : ∀ m, m < 129 → m ≠ n → (X m).dir = true → K' m = K m)
    (hv : ∀ j v, (tgC (X' n) (G' n))[j]? = some v → (i ≤ j ∧ j < i + vs.length → vs[j - i]? = some v) ∧ (¬ (i ≤ j ∧ j < i + vs.length) → (tgC (X n) (G n))[j]? = some v))
    (hm : (X' n).dir = true → MapT w (G' n) c (K' n) ∧ (∀ m, m < 129 → m ≠ n → (X m).dir = true → G m ≠ G' n) ∧ G' n ≠ q) :
    MidIn (w.setCells q (n * 4 + i) vs) q X' G' K' c ∧ Keeps [q] w (w.setCells q (n * 4 + i) vs) := by
  have kk : ∀ (vs : List Value) (o : Nat) (w : World), Keeps [q] w (w.setCells q o vs) := by
    intro vs
    induction vs with
    | nil => exact fun o w => Keeps.refl _ _
    | cons v l ih => exact fun o w => ((Keeps.refl [q] w).setCell (p := ⟨q, o, none⟩) (Or.inl (by simp)) v).trans (ih (o + 1) _)
  have K1 := kk vs (n * 4 + i) w
  refine ⟨⟨Nat.lt_of_lt_of_le h.lt K1.size, fun j => by rw [World.frozen?_setCells]; exact h.fr j, fun m hm' j v hv' => ?_, fun m hm' hd => ?_, ?_, ?_⟩, K1⟩
  · by_cases e : m = n
    · subst e
      have hj : j < 4 := (List.getElem?_eq_some_iff.1 hv').1
      by_cases hin : i ≤ j ∧ j < i + vs.length
      · have h1 := (hv j v hv').1 hin
        have h2 := World.cell?_setCells_in q vs (m * 4 + i) w (fun k hk => by exact (h.there m hn i vs.length hi k hk).1) (j - i) (by omega)
        rw [show m * 4 + i + (j - i) = m * 4 + j by omega] at h2
        rw [h2]
        rw [List.getElem?_eq_getElem (by omega)] at h1
        exact h1
      · have h1 := (hv j v hv').2 hin
        rw [World.cell?_setCells_out]
        · exact h.cells m hn j v h1
        · intro _ _
          show m * 4 + j < m * 4 + i ∨ m * 4 + i + vs.length ≤ m * 4 + j
          omega
    · have hj : j < 4 := (List.getElem?_eq_some_iff.1 hv').1
      rw [World.cell?_setCells_out]
      · rw [hX m e] at hv'
        refine h.cells m hm' j v ?_
        by_cases hd : (X m).dir = true
        · rw [hG m hm' e hd] at hv'; exact hv'
        · unfold tgC at hv' ⊢
          rw [if_neg hd] at hv' ⊢
          exact hv'
      · intro _ _
        show m * 4 + j < n * 4 + i ∨ n * 4 + i + vs.length ≤ m * 4 + j
        omega
  · by_cases e : m = n
    · subst e
      exact (hm hd).1.keep K1 (by simpa using (hm hd).2.2)
    · have hd' : (X m).dir = true := by rw [← hX m e]; exact hd
      rw [hG m hm' e hd', hK m hm' e hd']
      exact (h.map m hm' hd').keep K1 (by simpa using h.ne m hm' hd')
  · intro a b ha hb hda hdb hab
    by_cases ea : a = n <;> by_cases eb : b = n
    · rw [ea, eb]
    · subst ea
      have hdb' : (X b).dir = true := by rw [← hX b eb]; exact hdb
      rw [hG b hb eb hdb'] at hab
      exact absurd hab.symm ((hm hda).2.1 b hb eb hdb')
    · subst eb
      have hda' : (X a).dir = true := by rw [← hX a ea]; exact hda
      rw [hG a ha ea hda'] at hab
      exact absurd hab ((hm hdb).2.1 a ha ea hda')
    · have hda' : (X a).dir = true := by rw [← hX a ea]; exact hda
      have hdb' : (X b).dir = true := by rw [← hX b eb]; exact hdb
      rw [hG a ha ea hda', hG b hb eb hdb'] at hab
      exact h.inj a b ha hb hda' hdb' hab
  · intro a ha hda
    by_cases ea : a = n
    · subst ea
      exact (hm hda).2.2
    · have hda' : (X a).dir = true := by rw [← hX a ea]; exact hda
      rw [hG a ha ea hda']
      exact h.ne a ha hda'
/-- One map turned. -/
theorem MidIn.mapped (h : MidIn w q X G K c) {c' : Nat} (hc : c ≤ c') (n : Nat) (hn : n < 129) (hd : (X n).dir = true) {f : List UInt8 → Nat} (k : Keeps [G n] w w') (M : MapT w' (G n) c' f) :
    MidIn w' q X G (fun m => if m = n then f else K m) c' := by
  have hb := k.block q h.lt (by simpa using (h.ne n hn hd).symm)
  refine ⟨Nat.lt_of_lt_of_le h.lt k.size, fun i => by rw [(cell_block hb i).2]; exact h.fr i, fun m hm j v hv => by rw [(cell_block hb _).1]; exact h.cells m hm j v hv, fun m hm hdm => ?_, h.inj, h.ne⟩
  by_cases e : m = n
  · subst e
    rw [if_pos rfl]
    exact M
  · rw [if_neg e]
    exact ((h.map m hm hdm).mono hc).keep k (by simpa using fun e' => e (h.inj m n hm hn hdm hd e'))
end

/-- The tree at q: its directories' maps at G. -/
def TreeIn (w : World) (q : Nat) (T : TL) (G : Nat → Nat) (c : Nat) : Prop := InvT T ∧ MidIn w q (xT T) G (kidT T) c
def TreeAt (w : World) (q : Nat) (T : TL) (F : List Nat) (c : Nat) : Prop := ∃ G, TreeIn w q T G c ∧ F = foot q (xT T) G
section
variable {w w' : World} {q c : Nat} {T : TL} {F : List Nat}
theorem TreeAt.keep {S : List Nat} (h : TreeAt w q T F c) (k : Keeps S w w') (hS : ∀ b ∈ F, b ∉ S) : TreeAt w' q T F c := by
  obtain ⟨G, ⟨I, M⟩, rfl⟩ := h
  exact ⟨G, ⟨I, M.keep k hS⟩, rfl⟩
theorem TreeAt.keep0 (h : TreeAt w q T F c) (k : Keeps [] w w') : TreeAt w' q T F c := h.keep k (by simp)
theorem TreeAt.mono {c' : Nat} (h : TreeAt w q T F c) (hc : c ≤ c') : TreeAt w q T F c' := by
  obtain ⟨G, ⟨I, M⟩, rfl⟩ := h
  exact ⟨G, ⟨I, M.mono hc⟩, rfl⟩
theorem TreeAt.lt (h : TreeAt w q T F c) : ∀ b ∈ F, b < w.heap.size := by
  obtain ⟨G, ⟨I, M⟩, rfl⟩ := h
  exact M.foot_lt
theorem TreeAt.mem (h : TreeAt w q T F c) : q ∈ F := by
  obtain ⟨G, _, rfl⟩ := h
  simp [foot]
theorem TreeAt.inv (h : TreeAt w q T F c) : InvT T := h.choose_spec.1.1
end
end Go.Proofs.Ytnmiffkflnlanaa
