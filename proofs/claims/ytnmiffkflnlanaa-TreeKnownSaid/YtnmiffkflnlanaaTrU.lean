/- The code's tree: entries sorted. -/
import Derived.Test.YtnmiffkflnlanaaTrS
import Derived.Shelf.SlSortCmp.NoneTotal
namespace Go.Proofs.Ytnmiffkflnlanaa
open Go.RowKit Go.Maps Go.Sort
set_option maxRecDepth 100000

def entT (T : TL) (n : Nat) (s : List UInt8) : En := ⟨s, kidT T n s, isDirT T (kidT T n s)⟩
/-- A slice of entries. -/
def EnsAt (w : World) (v : Value) (es : List En) : Prop :=
  ∃ (a : Option Addr) (cap : Nat), v = .slice a es.length cap ∧ es.length ≤ cap ∧ cap ≤ maxLen ∧ (a = none → cap = 0) ∧ ∀ ad, a = some ad → ad.spot = none ∧ w.rangeAt ad.block ad.off (ensC es)
/-- What a directory holds, by the names' bytes rising. -/
structure EnsOf (T : TL) (n : Nat) (es : List En) : Prop where
  sort : es.Pairwise fun x y => ltN x.nm y.nm
  mem : ∀ x, x ∈ es ↔ kidT T n x.nm ≠ 0 ∧ x = entT T n x.nm
theorem keeps_sort (w : World) (blk off n : Nat) (d : Array En) (os : Array Obj) : Keeps [blk] w (sortWorldK enC 3 w blk off n d os) := by
  unfold sortWorldK putRowK putRow mapBlock grow Sort.ahead
  refine ⟨rfl, rfl, rfl, by simp, fun k hk hm => ?_⟩
  have hne : k ≠ blk := by simpa using hm
  show (_ ++ os)[k]? = _
  rw [Array.getElem?_append_left (by simpa using hk)]
  rw [Array.getElem?_modify]
  simp [Ne.symm hne]

theorem ownsRow_keepT {w w' : World} {B k : Nat} {e : TypeId} {v : Value} {n : Nat} {xs : List Value} {S : List Nat} (h : w.ownsRow B e k v n xs) (kp : Keeps S w w') (ho : ∀ g, v.ownBlock = some g → g ∉ S) : w'.ownsRow B e k v n xs := by
  refine ⟨h.1, ?_⟩
  rcases h.2 with hn | ⟨g, cap, cur, hv, hb, rest⟩
  · exact Or.inl hn
  · refine Or.inr ⟨g, cap, cur, hv, hb, ?_, rest.2⟩
    rw [kp.block g (lt_of_block rest.1) (ho g (by rw [hv]; rfl))]
    exact rest.1
theorem own_ge {w : World} {B k : Nat} {e : TypeId} {v : Value} {n : Nat} {xs : List Value} (h : w.ownsRow B e k v n xs) {g : Nat} (hg : v.ownBlock = some g) : B ≤ g := by
  rcases h.2 with ⟨rfl, _⟩ | ⟨g', cap, cur, rfl, hB, _⟩
  · cases hg
  · have : g' = g := by simpa [Value.ownBlock] using hg
    rw [← this]
    exact hB

theorem flat3_at : ∀ (l : List En) (i : Nat) (h : i < l.length) (j : Nat), j < 3 → (ensC l)[i * 3 + j]? = (enC l[i])[j]?
  | x :: l, 0, _, j, hj => by
    unfold ensC
    rw [List.flatMap_cons, List.getElem?_append_left (by show 0 * 3 + j < 3; omega)]
    simp
  | x :: l, i + 1, h, j, hj => by
    have hx : (enC x).length = 3 := rfl
    have ih := flat3_at l i (by simpa using h) j hj
    unfold ensC at ih ⊢
    rw [List.flatMap_cons, List.getElem?_append_right (by rw [hx]; omega), hx, show (i + 1) * 3 + j - 3 = i * 3 + j by omega, ih]
    simp
theorem flatK_at (d : Array En) (t : Nat) (h : t < d.size * 3) : (ensC d.toList)[t]? = some (flatK enC 3 d)[t]! := by
  have hi : t / 3 < d.toList.length := by rw [Array.length_toList]; omega
  have hj : t % 3 < 3 := Nat.mod_lt _ (by omega)
  have := flat3_at d.toList (t / 3) hi (t % 3) hj
  rw [show t / 3 * 3 + t % 3 = t by omega] at this
  rw [this, get_flatK _ _ _ _ h]
  have e1 : d[t / 3]! = d.toList[t / 3] := by
    rw [getElem!_pos d (t / 3) (by rw [← Array.length_toList]; exact hi)]
    simp
  rw [e1]
  have hl : (enC d.toList[t / 3]).length = 3 := rfl
  rw [List.getElem?_eq_getElem (by omega), getElem!_pos (enC d.toList[t / 3]) (t % 3) (by omega)]
theorem holds_own {w : World} {B g n c : Nat} {d : Array En} (hown : w.ownsRow B 33 3 (.slice (some ⟨g, 0, none⟩) n c) n (ensC d.toList)) (hn : n = d.size) : HoldsK enC 3 w g 0 d ∧ g < w.heap.size ∧ n ≤ c ∧ c ≤ maxLen := by
  rcases hown.2 with ⟨h, _⟩ | ⟨g', cap, cur, hv, hB, hblk, h1, h2, h3, h4⟩
  · cases h
  · injection hv with e1 _ e3
    injection e1 with e1
    injection e1 with e1
    subst e1; subst e3
    refine ⟨fun j hj => ?_, lt_of_block hblk, h1, h2⟩
    have hj' : j < d.size * 3 := by simpa using hj
    have hf := flatK_at d j hj'
    rw [← h4, List.getElem?_take, if_pos (by rw [hn]; exact hj')] at hf
    refine ⟨?_, by simp [World.frozen?, hblk]⟩
    rw [Nat.zero_add, cell_of_row _ _ j _ _ (0, 0) hblk]
    rw [Array.getElem?_toList] at hf
    exact hf
theorem ens_holds {w : World} {g c : Nat} {d : Array En} (h : HoldsK enC 3 w g 0 d) (h1 : d.size ≤ c) (h2 : c ≤ maxLen) : EnsAt w (.slice (some ⟨g, 0, none⟩) d.toList.length c) d.toList := by
  refine ⟨_, c, rfl, by rw [Array.length_toList]; exact h1, h2, by simp, fun ad had => ?_⟩
  obtain rfl := Option.some.inj had
  refine ⟨rfl, fun j v hv => ?_⟩
  have hj : j < d.size * 3 := by
    have := (List.getElem?_eq_some_iff.1 hv).1
    rw [ensC_len, Array.length_toList] at this
    exact this
  have hf := flatK_at d j hj
  rw [hf] at hv
  obtain rfl := Option.some.inj hv
  exact (h j (by simpa using hj)).1

theorem isAggEntry : ∀ w, (isAgg 33).run Try.prog w = .ok true w := fun w => by unfold isAgg; rw [Sem.run_bind, run_underlying (Try.underlying33)]; rfl
theorem sizeEntry : ∀ w, (Go.sizeOf 33).run Try.prog w = .ok 3 w := fun w => by
  obtain ⟨i, hi, _, hs, _⟩ := infoEntry
  simp [Go.sizeOf, typeInfo, hi, hs]
/-- The order's sort over a row of the call's own. -/
theorem sort_own (w : World) (B : Nat) (a : Option Addr) (es : List En) (cc : Nat) (hown : w.ownsRow B 33 3 (.slice a es.length cc) es.length (ensC es)) (few : es.length ≤ 100000) (hnd : (es.map (·.nm)).Nodup) :
    Calls Try.prog 35 #[.slice a es.length cc, .func (.func 36) #[] #[]] w fun e w' => e = .returned (.tuple #[]) ∧ ∃ fs, fs.Perm es ∧ fs.Pairwise (fun x y => ltN x.nm y.nm) ∧ EnsAt w' (.slice a es.length cc) fs ∧ Keeps (Value.slice a es.length cc).ownBlock.toList w w' := by
  by_cases h0 : es.length = 0
  · have e0 : es = [] := List.eq_nil_of_length_eq_zero h0
    subst e0
    have h := AnyF.slices_SortFunc_none Try.sortE a cc (.func (.func 36) #[] #[]) w
    change Calls Try.prog 35 #[.slice a 0 cc, _] w _ at h
    refine h.mono ?_
    rintro e w' ⟨rfl, rfl⟩
    refine ⟨rfl, [], List.Perm.refl _, List.Pairwise.nil, ?_, Keeps.refl _ _⟩
    rcases hown.2 with ⟨hv, _⟩ | ⟨g', cap, cur, hv, hB, hblk, h1, h2, h3, h4⟩
    · injection hv with e1 _ e3
      subst e1; subst e3
      exact ⟨none, 0, rfl, by simp, by simp, by simp, by simp⟩
    · injection hv with e1 _ e3
      subst e1; subst e3
      refine ⟨_, cc, rfl, by simp, h2, by simp, fun ad had => ?_⟩
      obtain rfl := Option.some.inj had
      exact ⟨rfl, fun j v hv => by simp [ensC] at hv⟩
  · obtain ⟨d, rfl⟩ : ∃ d : Array En, es = d.toList := ⟨es.toArray, by simp⟩
    rcases hown.2 with ⟨_, hz⟩ | ⟨g, cap, cur, hv, hB, hblk, h1, h2, h3, h4⟩
    · exact absurd hz h0
    · injection hv with e1 _ e3
      subst e1; subst e3
      have hlen : d.toList.length = d.size := Array.length_toList
      obtain ⟨hH, hg, hc1, hc2⟩ := holds_own hown hlen
      have eg : ∀ args w, (callFunc 36 args).run Try.prog w = .ok (.enter 36 args) w := enters_of Try.func36 (by kernel_rfl) rfl
      have h := AnyQ.slices_SortFunc Try.sortE 3 isAggEntry sizeEntry enC (fun _ => rfl) (fun x v hv => by
        have := enC_one x
        rw [Array.all_eq_true_iff_forall_mem] at this
        exact this v (by simpa using hv)) cfE swoE 36 #[] g 0 cc d w eg (cmpLays_E g 0 d.size w) hH hg (by rw [← hlen]; omega)
      rw [← hlen] at h
      change Calls Try.prog 35 #[.slice _ _ cc, _] w _ at h
      refine h.mono ?_
      rintro e w' ⟨rfl, d', n, os, hp, hs, rfl⟩
      rw [hlen] at hp hs ⊢
      have hsz := hp.1
      have hperm : d'.toList.Perm d.toList := by
        have := hp.2.2
        have e1 : d'.extract 0 d.size = d' := by rw [← hsz]; simp
        rw [e1] at this
        simpa using this
      refine ⟨rfl, d'.toList, hperm, ?_, ?_, keeps_sort w g 0 n d' os⟩
      · have hnd' : (d'.toList.map (·.nm)).Nodup := (hperm.map _).nodup_iff.2 hnd
        rw [List.pairwise_iff_getElem]
        intro i j hi hj hij
        have hi' : i < d'.size := by rw [← Array.length_toList]; exact hi
        have hj' : j < d'.size := by rw [← Array.length_toList]; exact hj
        have h := hs i j (Nat.zero_le _) hij (by rw [← hsz]; exact hj')
        rw [getElem!_pos d' i hi', getElem!_pos d' j hj'] at h
        have h2 := of_decide_eq_false h
        unfold cfE at h2
        have hne : d'[i].nm ≠ d'[j].nm := fun e => by
          have := List.pairwise_iff_getElem.1 hnd' i j (by simpa using hi') (by simpa using hj') hij
          simp at this
          exact this e
        have f := cmp_flip d'[i].nm d'[j].nm
        have h3 : Lib.compareBytes d'[i].nm d'[j].nm ≠ 0 := fun e => hne (cmp_zero e)
        show Lib.compareBytes d'.toList[i].nm d'.toList[j].nm < 0
        simp only [Array.getElem_toList]
        omega
      · have hh := holdsK_sortWorldK enC 3 w g 0 n d d' os hg hH hsz
        have := ens_holds hh (show d'.size ≤ cc by omega) hc2
        rw [Array.length_toList, hsz] at this
        exact this
end Go.Proofs.Ytnmiffkflnlanaa
