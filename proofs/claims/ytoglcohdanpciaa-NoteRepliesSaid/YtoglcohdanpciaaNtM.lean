/- note: things as bytes, plainly: how they are read, written, cut (for every layer). -/
import Derived.Test.YtoglcohdanpciaaDeP
import Derived.Test.YtoglcohdanpciaaDeN
import Derived.Test.YtoglcohdanpciaaBoolE
namespace Go.Proofs.Ytoglcohdanpciaa
open Go.RowKit Go.Shelf
set_option maxRecDepth 100000
set_option linter.unusedSimpArgs false
set_option linter.unusedVariables false

def Byt (zs : List Int) : Prop := ∀ z ∈ zs, 0 ≤ z ∧ z ≤ 255
/-- A kind of things: how one is read, its bytes, how both pens write it, which ones are read, which are written. -/
structure Cdc (α : Type) where
  g : PSt → α × PSt
  b : α → List Int
  p : α → PSt → PSt
  q : α → PSt → PSt
  f : α → Prop
  e : α → Prop
structure Cdc.Ok {α : Type} (c : Cdc α) : Prop where
  be : ∀ x r, c.f x → c.g (c.b x ++ r, 0) = (x, (r, 0))
  ok : ∀ zs, Byt zs → (c.g (zs, 0)).2.2 = 0 → zs = c.b (c.g (zs, 0)).1 ++ (c.g (zs, 0)).2.1 ∧ c.f (c.g (zs, 0)).1
  stay : ∀ st, st.2 ≠ 0 → (c.g st).2 = st
  cut : ∀ x j, c.f x → j < (c.b x).length → (c.g ((c.b x).take j, 0)).2.2 = 2
  rel : ∀ x s r, Rel s r → Rel (c.p x s) (c.q x r)
  pok : ∀ x s, (c.p x (s, 0)).2 = 0 → c.p x (s, 0) = (s ++ c.b x, 0) ∧ c.e x
  pfit : ∀ x s, c.e x → s.length + (c.b x).length ≤ 65536 → c.p x (s, 0) = (s ++ c.b x, 0)
  pstay : ∀ x st, st.2 ≠ 0 → (c.p x st).2 = st.2
  fe : ∀ x, c.f x → c.e x
theorem Cdc.Ok.was {α : Type} {c : Cdc α} (h : c.Ok) {st : PSt} (hz : (c.g st).2.2 = 0) : st.2 = 0 := by
  by_cases hb : st.2 = 0
  · exact hb
  · rw [h.stay st hb] at hz; exact hz
theorem Byt.right {a b : List Int} (h : Byt (a ++ b)) : Byt b := fun z hz => h z (List.mem_append.2 (Or.inr hz))
theorem Byt.drop {a : List Int} (h : Byt a) (k : Nat) : Byt (a.drop k) := fun z hz => h z (List.mem_of_mem_drop hz)
theorem Byt.take {a : List Int} (h : Byt a) (k : Nat) : Byt (a.take k) := fun z hz => h z (List.mem_of_mem_take hz)
theorem Cdc.Ok.back {α : Type} {c : Cdc α} (h : c.Ok) {st : PSt} (hb : Byt st.1) (hz : (c.g st).2.2 = 0) : st.2 = 0 ∧ st.1 = c.b (c.g st).1 ++ (c.g st).2.1 ∧ c.f (c.g st).1 ∧ Byt (c.g st).2.1 := by
  have h0 := h.was hz
  obtain ⟨zs, b⟩ := st
  simp only at h0 hb
  subst h0
  obtain ⟨h1, h2⟩ := h.ok zs hb hz
  refine ⟨rfl, h1, h2, ?_⟩
  rw [h1] at hb
  exact hb.right

/-- One behind the other. -/
def seqC {α β : Type} (c : Cdc α) (d : Cdc β) : Cdc (α × β) where
  g := fun st => (((c.g st).1, (d.g (c.g st).2).1), (d.g (c.g st).2).2)
  b := fun x => c.b x.1 ++ d.b x.2
  p := fun x s => d.p x.2 (c.p x.1 s)
  q := fun x s => d.q x.2 (c.q x.1 s)
  f := fun x => c.f x.1 ∧ d.f x.2
  e := fun x => c.e x.1 ∧ d.e x.2
theorem seqC_ok {α β : Type} {c : Cdc α} {d : Cdc β} (hc : c.Ok) (hd : d.Ok) : (seqC c d).Ok where
  be := fun x r h => by
    show ((_, _), _) = _
    rw [show (seqC c d).b x ++ r = c.b x.1 ++ (d.b x.2 ++ r) from List.append_assoc _ _ _, hc.be _ _ h.1]
    simp only
    rw [hd.be _ _ h.2]
  ok := fun zs hb hz => by
    have hz' : (d.g (c.g (zs, 0)).2).2.2 = 0 := hz
    have h1 := hd.was hz'
    obtain ⟨_, e1, f1, b1⟩ := hc.back (st := (zs, 0)) hb h1
    obtain ⟨_, e2, f2, b2⟩ := hd.back b1 hz'
    refine ⟨?_, f1, f2⟩
    have e3 : zs = c.b (c.g (zs, 0)).1 ++ (d.b (d.g (c.g (zs, 0)).2).1 ++ (d.g (c.g (zs, 0)).2).2.1) := by rw [← e2]; exact e1
    show zs = (c.b _ ++ d.b _) ++ _
    rw [List.append_assoc]
    exact e3
  stay := fun st h => by
    have h1 := hc.stay st h
    show (d.g (c.g st).2).2 = st
    rw [h1]
    exact hd.stay st h
  cut := fun x j h hj => by
    show (d.g (c.g ((c.b x.1 ++ d.b x.2).take j, 0)).2).2.2 = 2
    have hl : (c.b x.1 ++ d.b x.2).length = (c.b x.1).length + (d.b x.2).length := List.length_append
    have hj' : j < (c.b x.1).length + (d.b x.2).length := by rw [← hl]; exact hj
    rcases Nat.lt_or_ge j (c.b x.1).length with hlt | hge
    · rw [List.take_append_of_le_length (by omega)]
      have h1 := hc.cut x.1 j h.1 hlt
      rw [hd.stay _ (by rw [h1]; decide), h1]
    · rw [List.take_append, List.take_of_length_le hge, hc.be _ _ h.1]
      exact hd.cut x.2 _ h.2 (by omega)
  rel := fun x s r h => hd.rel _ _ _ (hc.rel _ _ _ h)
  pok := fun x s h => by
    have h' : (d.p x.2 (c.p x.1 (s, 0))).2 = 0 := h
    have h1 : (c.p x.1 (s, 0)).2 = 0 := by
      by_cases hb : (c.p x.1 (s, 0)).2 = 0
      · exact hb
      · rw [hd.pstay _ _ hb] at h'; exact h'
    obtain ⟨e1, f1⟩ := hc.pok x.1 s h1
    rw [e1] at h'
    obtain ⟨e2, f2⟩ := hd.pok x.2 _ h'
    refine ⟨?_, f1, f2⟩
    show d.p x.2 (c.p x.1 (s, 0)) = (s ++ (c.b x.1 ++ d.b x.2), 0)
    rw [e1, e2, List.append_assoc]
  pfit := fun x s h hl => by
    have hl' : s.length + ((c.b x.1).length + (d.b x.2).length) ≤ 65536 := by rw [← List.length_append]; exact hl
    show d.p x.2 (c.p x.1 (s, 0)) = (s ++ (c.b x.1 ++ d.b x.2), 0)
    rw [hc.pfit x.1 s h.1 (by omega), hd.pfit x.2 _ h.2 (by rw [List.length_append]; omega), List.append_assoc]
  pstay := fun x st h => by
    show (d.p x.2 (c.p x.1 st)).2 = st.2
    have h1 := hc.pstay x.1 st h
    rw [hd.pstay x.2 _ (by rw [h1]; exact h), h1]
  fe := fun x h => ⟨hc.fe _ h.1, hd.fe _ h.2⟩

theorem penNum_pok {x : Int} {n : Nat} (m : Int) (hm : m = (n : Int)) (h1 : 1 ≤ n) (h7 : n ≤ 7) {s : List Int} (h : (penNum x m (s, 0)).2 = 0) : penNum x m (s, 0) = (s ++ be x n, 0) ∧ FitN x n := by
  subst hm
  unfold penNum at h ⊢
  by_cases hv : 1 ≤ (n : Int) ∧ (n : Int) ≤ 7 ∧ 0 ≤ x ∧ x / 2 ^ (8 * (n : Int).toNat) = 0
  · rw [if_pos hv] at h ⊢
    rw [Int.toNat_natCast] at h ⊢
    unfold penAdd at h ⊢
    rw [if_neg (by simp)] at h ⊢
    by_cases hl : 65536 < s.length + (be x n).length
    · rw [if_pos hl] at h; cases h
    · rw [if_neg hl]
      refine ⟨rfl, h1, h7, hv.2.2.1, ?_⟩
      rw [pow256]
      have := (range_iff x n hv.2.2.1).1 (by have := hv.2.2.2; rwa [Int.toNat_natCast] at this)
      exact this
  · rw [if_neg hv] at h
    unfold penFail at h
    rw [if_pos rfl] at h
    cases h
/-- A number in so many bytes. -/
def nC (n : Nat) : Cdc Int where
  g := numE n
  b := fun x => be x n
  p := fun x s => penNum x n s
  q := fun x s => refNum x n s
  f := fun x => FitN x n
  e := fun x => FitN x n
theorem nC_ok {n : Nat} (h1 : 1 ≤ n) (h7 : n ≤ 7) : (nC n).Ok where
  be := fun x r h => numE_be (n := n) n rfl h r
  ok := fun zs hb hz => numE_ok n rfl h1 h7 hb hz
  stay := fun st h => by show (numE n st).2 = st; rw [numE_stay _ h]
  cut := fun x j h hj => by
    have hj' : j < n := by have := hj; rwa [show (nC n).b x = be x n from rfl, be_length] at this
    show (numE n ((be x n).take j, 0)).2.2 = 2
    rw [numE_short (n := n) n rfl h1 h7 (by rw [List.length_take]; omega)]
  rel := fun x s r h => h.num x n
  pok := fun x s h => penNum_pok n rfl h1 h7 h
  pfit := fun x s h hl => (penNum_fit (n := n) n rfl h (by have := hl; rwa [show (nC n).b x = be x n from rfl, be_length] at this)).1
  pstay := fun x st h => by show (penNum x n st).2 = st.2; rw [penNum_fail h]
  fe := fun x h => h
/-- What a read of a row of bytes answers, and what is left. -/
def rawE (st : PSt) : List Int × PSt := (((after st.1 st.2 (rdCount 65535 st.1)).1).getD [], (after st.1 st.2 (rdCount 65535 st.1)).2)
theorem rawE_stay {st : PSt} (h : st.2 ≠ 0) : rawE st = ([], st) := by
  obtain ⟨zs, b⟩ := st
  unfold rawE after
  rw [if_pos h]
  rfl
theorem penRaw_pok {bs s : List Int} (h : (penRaw bs (s, 0)).2 = 0) : penRaw bs (s, 0) = (s ++ (be bs.length 2 ++ bs), 0) ∧ bs.length ≤ 65535 := by
  unfold penRaw at h ⊢
  by_cases hl : bs.length > 65535
  · rw [if_pos hl] at h
    unfold penFail at h
    rw [if_pos rfl] at h
    cases h
  · rw [if_neg hl] at h ⊢
    have h1 : (penNum (bs.length : Int) 2 (s, 0)).2 = 0 := by
      by_cases hb : (penNum (bs.length : Int) 2 (s, 0)).2 = 0
      · exact hb
      · rw [penAdd_fail hb] at h; exact absurd h hb
    have e1 := (penNum_pok (n := 2) 2 rfl (by decide) (by decide) h1).1
    rw [e1] at h ⊢
    unfold penAdd at h ⊢
    rw [if_neg (by simp)] at h ⊢
    by_cases hf : 65536 < (s ++ be (bs.length : Int) 2).length + bs.length
    · rw [if_pos hf] at h; cases h
    · rw [if_neg hf, List.append_assoc]
      exact ⟨rfl, by omega⟩
theorem penRaw_fail {bs : List Int} {st : PSt} (h : st.2 ≠ 0) : penRaw bs st = st := by
  unfold penRaw
  rw [penNum_fail h, penAdd_fail h, penFail_fail h]
  split <;> rfl
def rowC : Cdc (List Int) where
  g := rawE
  b := fun x => be x.length 2 ++ x
  p := fun x s => penRaw x s
  q := fun x s => refRaw x s
  f := fun x => x.length ≤ 65535
  e := fun x => x.length ≤ 65535
theorem rowC_ok : rowC.Ok where
  be := fun x r h => by
    have h' : x.length ≤ 65535 := h
    have e := rdCount_ok (most := 65535) (bs := x) (rest := r) h' (by omega)
    show rawE (be x.length 2 ++ x ++ r, 0) = _
    unfold rawE after
    simp only
    rw [e, if_neg (by simp)]
    rfl
  ok := fun zs hb hz => by
    have hz' : (rawE (zs, 0)).2.2 = 0 := hz
    show zs = be (rawE (zs, 0)).1.length 2 ++ (rawE (zs, 0)).1 ++ (rawE (zs, 0)).2.1 ∧ (rawE (zs, 0)).1.length ≤ 65535
    unfold rawE after at hz' ⊢
    simp only at hz' ⊢
    rw [if_neg (by simp)] at hz' ⊢
    unfold rdCount at hz' ⊢
    rw [if_neg (by decide)] at hz' ⊢
    by_cases h2 : zs.length < 2
    · rw [if_pos h2] at hz'; cases hz'
    · rw [if_neg h2] at hz' ⊢
      have hv := val_bound 2 (zs.take 2) (by rw [List.length_take]; omega) (hb.take 2)
      have hv2 : val (zs.take 2) < 65536 := hv.2
      by_cases h3 : (65535 : Int) < val (zs.take 2)
      · omega
      · rw [if_neg h3] at hz' ⊢
        by_cases h4 : (zs.drop 2).length < (val (zs.take 2)).toNat
        · rw [if_pos h4] at hz'; cases hz'
        · rw [if_neg h4]
          simp only [Option.getD_some]
          have hlen : ((zs.drop 2).take (val (zs.take 2)).toNat).length = (val (zs.take 2)).toNat := by rw [List.length_take]; omega
          refine ⟨?_, by rw [hlen]; omega⟩
          rw [hlen, show (((val (zs.take 2)).toNat : Nat) : Int) = val (zs.take 2) by omega, be_val 2 (zs.take 2) (by rw [List.length_take]; omega) (hb.take 2), List.append_assoc, List.take_append_drop, List.take_append_drop]
  stay := fun st h => by show (rawE st).2 = st; rw [rawE_stay h]
  cut := fun x j h hj => by
    have h' : x.length ≤ 65535 := h
    have hj' : j < 2 + x.length := by have := hj; rwa [show rowC.b x = be x.length 2 ++ x from rfl, List.length_append, be_length] at this
    show (rawE ((be x.length 2 ++ x).take j, 0)).2.2 = 2
    unfold rawE after
    simp only
    rw [if_neg (by simp)]
    unfold rdCount
    rw [if_neg (by decide)]
    by_cases h2 : ((be (x.length : Int) 2 ++ x).take j).length < 2
    · rw [if_pos h2]
    · rw [if_neg h2]
      rw [List.length_take, List.length_append, be_length] at h2
      have ht : (be (x.length : Int) 2 ++ x).take j = be (x.length : Int) 2 ++ x.take (j - 2) := by
        rw [List.take_append, be_length, List.take_of_length_le (by rw [be_length]; omega)]
      have h5 : (be (x.length : Int) 2 ++ x.take (j - 2)).take 2 = be (x.length : Int) 2 := by
        rw [List.take_append_of_le_length (by rw [be_length]; omega), List.take_of_length_le (by rw [be_length]; omega)]
      have h6 : (be (x.length : Int) 2 ++ x.take (j - 2)).drop 2 = x.take (j - 2) := List.drop_left' (be_length _ _)
      have hv : val (be (x.length : Int) 2) = x.length := val_be 2 _ (by omega) (by show (x.length : Int) < 65536; omega)
      rw [ht, h5, h6, hv, if_neg (by omega), if_pos (by rw [List.length_take]; omega)]
  rel := fun x s r h => h.raw x
  pok := fun x s h => penRaw_pok h
  pfit := fun x s h hl => by
    have h' : x.length ≤ 65535 := h
    have hl' : s.length + (2 + x.length) ≤ 65536 := by have := hl; rwa [show rowC.b x = be x.length 2 ++ x from rfl, List.length_append, be_length] at this
    show penRaw x (s, 0) = (s ++ (be x.length 2 ++ x), 0)
    rw [penRaw_ok (s := (s, 0)) rfl h' (by simp only; omega), List.append_assoc]
  pstay := fun x st h => by show (penRaw x st).2 = st.2; rw [penRaw_fail h]
  fe := fun x h => h
theorem strOf_codes (s : ByteArray) : strOfNums (codes s) = s := by
  have h : (strOfNums (codes s)).data.toList = s.data.toList := by
    unfold codes strOfNums
    simp only [List.toList_toArray, List.map_map]
    conv => rhs; rw [← List.map_id s.data.toList]
    apply List.map_congr_left
    intro z _
    simp [Function.comp]
  cases s with
  | mk d =>
    simp only at h
    have h2 : (strOfNums (codes ⟨d⟩)).data = d := Array.toList_inj.1 h
    cases hh : strOfNums (codes ⟨d⟩) with
    | mk d2 => rw [hh] at h2; simp only at h2; rw [h2]
/-- A text. -/
def txE (st : PSt) : ByteArray × PSt := (strOfNums (rawE st).1, (rawE st).2)
theorem rawE_byt {zs : List Int} (hb : Byt zs) (hz : (rawE (zs, 0)).2.2 = 0) : Byt (rawE (zs, 0)).1 := by
  have h := (rowC_ok.ok zs hb hz).1
  have h' : zs = (be (rawE (zs, 0)).1.length 2 ++ (rawE (zs, 0)).1) ++ (rawE (zs, 0)).2.1 := h
  intro z hz2
  rw [h'] at hb
  exact hb z (by simp [hz2])
def txC : Cdc ByteArray where
  g := txE
  b := fun x => be x.size 2 ++ codes x
  p := fun x s => penRaw (codes x) s
  q := fun x s => refRaw (codes x) s
  f := fun x => x.size ≤ 65535
  e := fun x => x.size ≤ 65535
theorem txC_b (x : ByteArray) : txC.b x = rowC.b (codes x) := by
  show be x.size 2 ++ codes x = be (codes x).length 2 ++ codes x
  rw [codes_length]
theorem txC_ok : txC.Ok where
  be := fun x r h => by
    have h' : (codes x).length ≤ 65535 := by rw [codes_length]; exact h
    have e := rowC_ok.be (codes x) r h'
    have e' : rawE (rowC.b (codes x) ++ r, 0) = (codes x, (r, 0)) := e
    show (strOfNums (rawE (txC.b x ++ r, 0)).1, (rawE (txC.b x ++ r, 0)).2) = _
    rw [txC_b, e', strOf_codes]
  ok := fun zs hb hz => by
    have hz' : (rawE (zs, 0)).2.2 = 0 := hz
    have h := rowC_ok.ok zs hb hz'
    have hy := rawE_byt hb hz'
    have h1 : zs = (be (rawE (zs, 0)).1.length 2 ++ (rawE (zs, 0)).1) ++ (rawE (zs, 0)).2.1 := h.1
    have h2 : (rawE (zs, 0)).1.length ≤ 65535 := h.2
    have e : txC.b (strOfNums (rawE (zs, 0)).1) = be (rawE (zs, 0)).1.length 2 ++ (rawE (zs, 0)).1 := by
      rw [txC_b, codes_strOf _ hy]
      rfl
    refine ⟨?_, ?_⟩
    · show zs = txC.b (strOfNums (rawE (zs, 0)).1) ++ (rawE (zs, 0)).2.1
      rw [e]; exact h1
    · show (strOfNums (rawE (zs, 0)).1).size ≤ 65535
      rw [← codes_length, codes_strOf _ hy]; exact h2
  stay := fun st h => by show (rawE st).2 = st; rw [rawE_stay h]
  cut := fun x j h hj => by
    rw [txC_b] at hj ⊢
    exact rowC_ok.cut (codes x) j (by show (codes x).length ≤ 65535; rw [codes_length]; exact h) hj
  rel := fun x s r h => h.raw _
  pok := fun x s h => by
    have := penRaw_pok (bs := codes x) (s := s) h
    rw [codes_length] at this
    exact this
  pfit := fun x s h hl => by
    have e := rowC_ok.pfit (codes x) s (by show (codes x).length ≤ 65535; rw [codes_length]; exact h) (by rw [← txC_b]; exact hl)
    rw [txC_b]
    exact e
  pstay := fun x st h => by show (penRaw (codes x) st).2 = st.2; rw [penRaw_fail h]
  fe := fun x h => h
theorem boolE_stay {st : PSt} (h : st.2 ≠ 0) : boolE st = (false, st) := by
  obtain ⟨zs, b⟩ := st
  unfold boolE after
  rw [if_pos h]
  rfl
theorem fit_bit (b : Bool) : FitN (bitI b) 1 := by
  refine ⟨by decide, by decide, ?_, ?_⟩ <;> cases b <;> decide
def boC : Cdc Bool where
  g := boolE
  b := fun x => be (bitI x) 1
  p := fun x s => penBool x s
  q := fun x s => refBool x s
  f := fun _ => True
  e := fun _ => True
theorem boC_ok : boC.Ok where
  be := fun x r _ => boolE_be x r
  ok := fun zs hb hz => by
    refine ⟨?_, trivial⟩
    have hz' : (boolE (zs, 0)).2.2 = 0 := hz
    show zs = be (bitI (boolE (zs, 0)).1) 1 ++ (boolE (zs, 0)).2.1
    unfold boolE after at hz' ⊢
    simp only at hz' ⊢
    rw [if_neg (by simp)] at hz' ⊢
    unfold rdBool at hz' ⊢
    by_cases h1 : zs.length < 1
    · rw [if_pos h1] at hz'; cases hz'
    · rw [if_neg h1] at hz' ⊢
      by_cases h2 : (1 : Int) < val (zs.take 1)
      · rw [if_pos h2] at hz'; cases hz'
      · rw [if_neg h2]
        simp only [Option.getD_some]
        have hv := val_bound 1 (zs.take 1) (by rw [List.length_take]; omega) (hb.take 1)
        have e : bitI (val (zs.take 1) == 1) = val (zs.take 1) := by
          unfold bitI
          by_cases h3 : val (zs.take 1) = 1
          · rw [h3]; rfl
          · rw [if_neg (by simpa using h3)]; omega
        rw [e, be_val 1 (zs.take 1) (by rw [List.length_take]; omega) (hb.take 1), List.take_append_drop]
  stay := fun st h => by show (boolE st).2 = st; rw [boolE_stay h]
  cut := fun x j _ hj => by
    have hj' : j < 1 := by have := hj; rwa [show boC.b x = be (bitI x) 1 from rfl, be_length] at this
    obtain rfl : j = 0 := by omega
    show (boolE ([], 0)).2.2 = 2
    rfl
  rel := fun x s r h => h.bool x
  pok := fun x s h => ⟨(penNum_pok (n := 1) 1 rfl (by decide) (by decide) (x := bitI x) h).1, trivial⟩
  pfit := fun x s _ hl => (penNum_fit (n := 1) 1 rfl (fit_bit x) (by have := hl; rwa [show boC.b x = be (bitI x) 1 from rfl, be_length] at this)).1
  pstay := fun x st h => by show (penNum _ 1 st).2 = st.2; rw [penNum_fail h]
  fe := fun _ _ => trivial

/-- So many of one kind. -/
def itG {α : Type} (g : PSt → α × PSt) (st : PSt) : Nat → List α × PSt
  | 0 => ([], st)
  | k + 1 => ((itG g st k).1 ++ [(g (itG g st k).2).1], (g (itG g st k).2).2)
theorem itG_succ {α : Type} (g : PSt → α × PSt) (st : PSt) (k : Nat) : itG g st (k + 1) = ((itG g st k).1 ++ [(g (itG g st k).2).1], (g (itG g st k).2).2) := rfl
theorem itG_len {α : Type} (g : PSt → α × PSt) (st : PSt) : ∀ k, (itG g st k).1.length = k
  | 0 => rfl
  | k + 1 => by unfold itG; simp [itG_len g st k]
def lsG {α : Type} (g : PSt → α × PSt) (st : PSt) : List α × PSt := if 4000 < (numE 2 st).1 then ([], ((numE 2 st).2.1, 3)) else itG g (numE 2 st).2 (numE 2 st).1.toNat
def lsP {α : Type} (p : α → PSt → PSt) (l : List α) (s : PSt) : PSt := l.foldl (fun t x => p x t) s
def lsC {α : Type} (c : Cdc α) : Cdc (List α) where
  g := lsG c.g
  b := fun l => be l.length 2 ++ l.flatMap c.b
  p := fun l s => lsP c.p l (penNum l.length 2 s)
  q := fun l s => lsP c.q l (refNum l.length 2 s)
  f := fun l => l.length ≤ 4000 ∧ ∀ x ∈ l, c.f x
  e := fun l => l.length ≤ 65535 ∧ ∀ x ∈ l, c.e x
section
variable {α : Type} {c : Cdc α}
theorem it_be (h : c.Ok) {l : List α} (hf : ∀ x ∈ l, c.f x) (r : List Int) : ∀ k, k ≤ l.length → itG c.g (l.flatMap c.b ++ r, 0) k = (l.take k, ((l.drop k).flatMap c.b ++ r, 0))
  | 0, _ => by simp [itG]
  | k + 1, hk => by
    rw [itG_succ, it_be h hf r k (by omega)]
    simp only
    have hd : l.drop k = l[k] :: l.drop (k + 1) := List.drop_eq_getElem_cons (by omega)
    rw [hd, List.flatMap_cons, List.append_assoc, h.be _ _ (hf _ (List.getElem_mem (by omega))), List.take_succ_eq_append_getElem (by omega)]
theorem it_stay (h : c.Ok) {st : PSt} (hs : st.2 ≠ 0) : ∀ k, (itG c.g st k).2 = st
  | 0 => rfl
  | k + 1 => by rw [itG_succ]; simp only; rw [it_stay h hs k]; exact h.stay st hs
theorem it_stop (h : c.Ok) {st : PSt} {k : Nat} (hs : (itG c.g st k).2.2 ≠ 0) : ∀ n, (itG c.g st (k + n)).2 = (itG c.g st k).2
  | 0 => rfl
  | n + 1 => by
    show (c.g (itG c.g st (k + n)).2).2 = _
    rw [it_stop h hs n]
    exact h.stay _ hs
theorem it_back (h : c.Ok) {st : PSt} (hb : Byt st.1) : ∀ k, (itG c.g st k).2.2 = 0 → st.2 = 0 ∧ st.1 = (itG c.g st k).1.flatMap c.b ++ (itG c.g st k).2.1 ∧ (∀ x ∈ (itG c.g st k).1, c.f x) ∧ Byt (itG c.g st k).2.1
  | 0, h0 => ⟨h0, by simp [itG], by simp [itG], hb⟩
  | k + 1, h0 => by
    rw [itG_succ] at h0 ⊢
    simp only at h0 ⊢
    have h1 := h.was h0
    obtain ⟨a1, a2, a3, a4⟩ := it_back h hb k h1
    obtain ⟨b1, b2, b3, b4⟩ := h.back a4 h0
    refine ⟨a1, ?_, ?_, b4⟩
    · rw [List.flatMap_append, List.append_assoc]
      simp only [List.flatMap_cons, List.flatMap_nil, List.append_nil]
      rw [← b2]; exact a2
    · intro x hx
      rcases List.mem_append.1 hx with hx | hx
      · exact a3 x hx
      · simp at hx; rw [hx]; exact b3
theorem it_cut (h : c.Ok) {l : List α} (hf : ∀ x ∈ l, c.f x) {j : Nat} (hj : j < (l.flatMap c.b).length) : ∀ k, k ≤ l.length →
    (itG c.g ((l.flatMap c.b).take j, 0) k = (l.take k, (((l.drop k).flatMap c.b).take (j - ((l.take k).flatMap c.b).length), 0)) ∧ ((l.take k).flatMap c.b).length ≤ j) ∨ (itG c.g ((l.flatMap c.b).take j, 0) k).2.2 = 2
  | 0, _ => by left; simp [itG]
  | k + 1, hk => by
    rcases it_cut h hf hj k (by omega) with ⟨ih, il⟩ | ih
    · have hd : l.drop k = l[k] :: l.drop (k + 1) := List.drop_eq_getElem_cons (by omega)
      have hx := hf l[k] (List.getElem_mem (by omega))
      have ht : l.take (k + 1) = l.take k ++ [l[k]] := List.take_succ_eq_append_getElem (by omega)
      have hfl : ((l.take (k + 1)).flatMap c.b).length = ((l.take k).flatMap c.b).length + (c.b l[k]).length := by rw [ht, List.flatMap_append, List.length_append]; simp
      rw [itG_succ, ih]
      simp only
      rw [hd, List.flatMap_cons]
      rcases Nat.lt_or_ge (j - ((l.take k).flatMap c.b).length) (c.b l[k]).length with hlt | hge
      · right
        rw [List.take_append_of_le_length (by omega)]
        exact h.cut _ _ hx hlt
      · left
        refine ⟨?_, by omega⟩
        rw [List.take_append, List.take_of_length_le hge, h.be _ _ hx, hfl, Nat.sub_add_eq, ht]
    · right
      rw [itG_succ]
      simp only
      rw [h.stay _ (by rw [ih]; decide), ih]
theorem ls_pstay (h : c.Ok) : ∀ (l : List α) (st : PSt), st.2 ≠ 0 → (lsP c.p l st).2 = st.2
  | [], _, _ => rfl
  | x :: l, st, hs => by
    show (lsP c.p l (c.p x st)).2 = st.2
    have := h.pstay x st hs
    rw [ls_pstay h l _ (by rw [this]; exact hs), this]
theorem ls_pok (h : c.Ok) : ∀ (l : List α) (s : List Int), (lsP c.p l (s, 0)).2 = 0 → lsP c.p l (s, 0) = (s ++ l.flatMap c.b, 0) ∧ ∀ x ∈ l, c.e x
  | [], s, _ => by simp [lsP]
  | x :: l, s, hz => by
    have hz' : (lsP c.p l (c.p x (s, 0))).2 = 0 := hz
    have h1 : (c.p x (s, 0)).2 = 0 := by
      by_cases hb : (c.p x (s, 0)).2 = 0
      · exact hb
      · rw [ls_pstay h l _ hb] at hz'; exact hz'
    obtain ⟨e1, f1⟩ := h.pok x s h1
    rw [e1] at hz'
    obtain ⟨e2, f2⟩ := ls_pok h l _ hz'
    refine ⟨?_, fun y hy => ?_⟩
    · show lsP c.p l (c.p x (s, 0)) = _
      rw [e1, e2, List.flatMap_cons, List.append_assoc]
    · rcases List.mem_cons.1 hy with rfl | hy
      · exact f1
      · exact f2 y hy
theorem ls_pfit (h : c.Ok) : ∀ (l : List α) (s : List Int), (∀ x ∈ l, c.e x) → s.length + (l.flatMap c.b).length ≤ 65536 → lsP c.p l (s, 0) = (s ++ l.flatMap c.b, 0)
  | [], s, _, _ => by simp [lsP]
  | x :: l, s, hf, hl => by
    rw [List.flatMap_cons, List.length_append] at hl
    show lsP c.p l (c.p x (s, 0)) = _
    rw [h.pfit x s (hf x (by simp)) (by omega), ls_pfit h l _ (fun y hy => hf y (by simp [hy])) (by rw [List.length_append]; omega), List.flatMap_cons, List.append_assoc]
theorem ls_rel (h : c.Ok) : ∀ (l : List α) (s r : PSt), Rel s r → Rel (lsP c.p l s) (lsP c.q l r)
  | [], _, _, hr => hr
  | x :: l, s, r, hr => ls_rel h l _ _ (h.rel x s r hr)
theorem len_fit2 {n : Nat} (h : n ≤ 65535) : FitN (n : Int) 2 := ⟨by decide, by decide, by omega, by show (n : Int) < 65536; omega⟩
theorem lsC_ok (h : c.Ok) : (lsC c).Ok where
  be := fun l r hf => by
    show lsG c.g (be l.length 2 ++ l.flatMap c.b ++ r, 0) = _
    unfold lsG
    have hl : l.length ≤ 4000 := hf.1
    have e := numE_be (n := 2) 2 rfl (len_fit2 (n := l.length) (by omega)) (l.flatMap c.b ++ r)
    rw [List.append_assoc, e]
    simp only
    rw [if_neg (by omega), Int.toNat_natCast, it_be h hf.2 r l.length (Nat.le_refl _), List.take_length, List.drop_length]
    simp
  ok := fun zs hb hz => by
    have hz' : (lsG c.g (zs, 0)).2.2 = 0 := hz
    show zs = (be (lsG c.g (zs, 0)).1.length 2 ++ (lsG c.g (zs, 0)).1.flatMap c.b) ++ (lsG c.g (zs, 0)).2.1 ∧ _
    show zs = _ ∧ (lsG c.g (zs, 0)).1.length ≤ 4000 ∧ ∀ x ∈ (lsG c.g (zs, 0)).1, c.f x
    unfold lsG at hz' ⊢
    by_cases hb4 : 4000 < (numE 2 (zs, 0)).1
    · rw [if_pos hb4] at hz'; cases hz'
    · rw [if_neg hb4] at hz' ⊢
      have hn0 : (numE 2 (zs, 0)).2.2 = 0 := by
        by_cases h0 : (numE 2 (zs, 0)).2.2 = 0
        · exact h0
        · rw [it_stay h h0] at hz'; exact hz'
      have hbn : Byt (numE 2 (zs, 0)).2.1 := numE_bytes 2 (st := (zs, 0)) hb
      obtain ⟨o1, o2⟩ := numE_ok (n := 2) 2 rfl (by decide) (by decide) hb hn0
      obtain ⟨a1, a2, a3, a4⟩ := it_back h hbn _ hz'
      have hlo : 0 ≤ (numE 2 (zs, 0)).1 := o2.2.2.1
      refine ⟨?_, ?_, a3⟩
      · rw [itG_len, show (((numE 2 (zs, 0)).1.toNat : Nat) : Int) = (numE 2 (zs, 0)).1 by omega, List.append_assoc, ← a2]
        exact o1
      · rw [itG_len]; omega
  stay := fun st hs => by
    show (lsG c.g st).2 = st
    unfold lsG
    rw [numE_stay 2 hs]
    simp only
    rw [if_neg (by decide)]
    rfl
  cut := fun l j hf hj => by
    have hl : l.length ≤ 4000 := hf.1
    have hj' : j < 2 + (l.flatMap c.b).length := by have := hj; rwa [show (lsC c).b l = be l.length 2 ++ l.flatMap c.b from rfl, List.length_append, be_length] at this
    show (lsG c.g ((be l.length 2 ++ l.flatMap c.b).take j, 0)).2.2 = 2
    unfold lsG
    rcases Nat.lt_or_ge j 2 with h2 | h2
    · rw [numE_short (n := 2) 2 rfl (by decide) (by decide) (by rw [List.length_take]; omega)]
      simp only
      rw [if_neg (by decide)]
      rfl
    · have ht : (be (l.length : Int) 2 ++ l.flatMap c.b).take j = be (l.length : Int) 2 ++ (l.flatMap c.b).take (j - 2) := by
        rw [List.take_append, be_length, List.take_of_length_le (by rw [be_length]; omega)]
      rw [ht, numE_be (n := 2) 2 rfl (len_fit2 (n := l.length) (by omega))]
      simp only
      rw [if_neg (by omega), Int.toNat_natCast]
      rcases it_cut h hf.2 (j := j - 2) (by omega) l.length (Nat.le_refl _) with ⟨_, hx⟩ | hx
      · rw [List.take_length] at hx; omega
      · exact hx
  rel := fun l s r hr => ls_rel h l _ _ (hr.num _ _)
  pok := fun l s hz => by
    have hz' : (lsP c.p l (penNum l.length 2 (s, 0))).2 = 0 := hz
    have h1 : (penNum (l.length : Int) 2 (s, 0)).2 = 0 := by
      by_cases hb : (penNum (l.length : Int) 2 (s, 0)).2 = 0
      · exact hb
      · rw [ls_pstay h l _ hb] at hz'; exact hz'
    obtain ⟨e1, f1⟩ := penNum_pok (n := 2) 2 rfl (by decide) (by decide) h1
    rw [e1] at hz'
    obtain ⟨e2, f2⟩ := ls_pok h l _ hz'
    have hlt : (l.length : Int) < 65536 := f1.2.2.2
    refine ⟨?_, by show l.length ≤ 65535; omega, f2⟩
    show lsP c.p l (penNum l.length 2 (s, 0)) = (s ++ (be l.length 2 ++ l.flatMap c.b), 0)
    rw [e1, e2, List.append_assoc]
  pfit := fun l s hf hl => by
    have hl' : s.length + (2 + (l.flatMap c.b).length) ≤ 65536 := by have := hl; rwa [show (lsC c).b l = be l.length 2 ++ l.flatMap c.b from rfl, List.length_append, be_length] at this
    show lsP c.p l (penNum l.length 2 (s, 0)) = (s ++ (be l.length 2 ++ l.flatMap c.b), 0)
    rw [(penNum_fit (n := 2) 2 rfl (len_fit2 (n := l.length) hf.1) (by omega)).1, ls_pfit h l _ hf.2 (by rw [List.length_append, be_length]; omega), List.append_assoc]
  pstay := fun l st hs => by
    show (lsP c.p l (penNum l.length 2 st)).2 = st.2
    rw [penNum_fail hs, ls_pstay h l st hs]
  fe := fun l hf => ⟨by have := hf.1; omega, fun x hx => h.fe x (hf.2 x hx)⟩
end
end Go.Proofs.Ytoglcohdanpciaa
