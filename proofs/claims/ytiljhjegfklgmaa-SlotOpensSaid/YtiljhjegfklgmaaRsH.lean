/- The reference's slots: Put. -/
import Derived.Test.YtiljhjegfklgmaaRsG
namespace Go.Proofs.Ytiljhjegfklgmaa
open Go.RowKit Go.Shelf
set_option maxRecDepth 100000
set_option linter.unusedSimpArgs false

theorem refNum_okS {x n : Int} {s : List Int × Int} (h1 : 1 ≤ n) (h7 : n ≤ 7) (hx : 0 ≤ x) (hd : x < 2 ^ (8 * n.toNat)) (hs : s.2 = 0) (hl : s.1.length + n.toNat ≤ 65536) : refNum x n s = (s.1 ++ be x n.toNat, 0) := by
  unfold refNum refAdd
  rw [if_pos hs, if_pos ⟨h1, h7, hx, hd⟩, if_pos hs, if_neg (by simp [be]; omega)]
theorem penR1 : refNum 1 1 ([], 0) = ([1], 0) := by
  rw [refNum_okS (by omega) (by omega) (by omega) (by decide) rfl (by simp)]
  rfl
theorem penR2 {n : Nat} (h : n ≤ 448) : refNum n 2 ([1], 0) = ([1] ++ be n 2, 0) := by
  have e : (2 : Int) ^ (8 * (2 : Int).toNat) = 65536 := by decide
  rw [refNum_okS (by omega) (by omega) (by omega) (by rw [e]; omega) rfl (by simp)]
  rfl
theorem penR3 {n : Nat} (key : List Int) (h : key.length ≤ 40) : refRaw key ([1] ++ be n 2, 0) = (headB ⟨true, n, key⟩, 0) := by
  have e : (2 : Int) ^ (8 * (2 : Int).toNat) = 65536 := by decide
  have hl : ([1] ++ be (n : Int) 2).length = 3 := by simp [be]
  unfold refRaw
  have hb : refRawBad key ([1] ++ be (n : Int) 2, 0) = 0 := by
    unfold refRawBad
    simp only [if_true, hl]
    rw [if_neg (by omega), if_neg (by omega)]
  rw [hb, show ((key.length : Int) % 65536) = (key.length : Int) by omega, refNum_okS (by omega) (by omega) (by omega) (by rw [e]; omega) rfl (by simp only [hl]; decide)]
  unfold refAdd
  simp only [if_true]
  rw [if_neg (by simp [be]; omega)]
  rfl

/-- A row of padded, in whichever world. -/
theorem RowsOwn.pad {w : World} {v : Value} {us : List Value} {b : List Int} {N : Nat} (h : RowsOwn w v us (padR b N)) (k : Nat) (hk : k < N) :
    ∃ g c a uc, v = .slice (some ⟨g, 0, none⟩) N c ∧ w.cell? ⟨g, k, none⟩ = some (.slice a 64 uc) ∧ RowAt w (.slice a 64 uc) (pad64 (chk b k)) ∧ (∀ x, (Value.slice a 64 uc).ownBlock = some x → x ∈ us.filterMap Value.ownBlock) := by
  have hkl : k < (padR b N).length := by rw [padR_len]; exact hk
  obtain ⟨g, c, a, uc, e1, e2, e3, e4⟩ := h.at k hkl
  have el : (padR b N)[k] = pad64 (chk b k) := by simp [padR]
  rw [el] at e2 e3
  rw [pad64_len (chk_le b k)] at e2 e3
  rw [padR_len] at e1
  refine ⟨g, c, a, uc, e1, e2, e3, fun x hx => ?_⟩
  have hul : k < us.length := by rw [h.len]; exact hkl
  obtain ⟨g2, c2, e5, _, e6⟩ := h.open (by omega)
  rw [e1] at e5
  injection e5 with e5 _ _
  injection e5 with e5
  injection e5 with e5
  subst e5
  have e7 := e6 k hul
  rw [e2] at e7
  injection e7 with e7
  exact List.mem_filterMap.2 ⟨_, List.getElem_mem hul, by rw [← e7]; exact hx⟩

theorem holdW_fit {s : DS} {K : Nat} (h : s.Fit K) (n : Nat) (b : List Int) : ∀ k, (holdW s n b k).Fit (K + k)
  | 0 => h
  | k + 1 => (holdW_fit h n b k).writeS _ _

/-- Between two writes of a Put. -/
structure PuAt (w wr : World) (q p first : Nat) (hs : List Hd) (s : DS) (M G : List Nat) (K : Nat) (g lc : Nat) (rs : List Rh) (lv : Value) (us : List Value) (b : List Int) (bg k : Nat) (Gk : List Nat) : Prop where
  rd : RdAt wr q p first hs (holdW s (bg + 1) b k) M Gk (K + k)
  rl : RslIn wr q p first (.slice (some ⟨g, 0, none⟩) rs.length lc) rs
  ro : RowsOwn wr lv us (padR b (nch b.length))
  out : ∀ x, lv.ownBlock = some x ∨ x ∈ us.filterMap Value.ownBlock → x ∉ Gk ∧ x < wr.heap.size
  kp : Keeps (M ++ G) w wr
  fr : Fresh w G Gk
  al : (holdW s (bg + 1) b k).dead = false
/-- In the midst of a Put. -/
structure PvAt (w W : World) (q p first : Nat) (hs : List Hd) (M G : List Nat) (g lc : Nat) (rs : List Rh) (st : DS) (Gx : List Nat) (Kx : Nat) : Prop where
  rd : RdAt W q p first hs st M Gx Kx
  rl : RslIn W q p first (.slice (some ⟨g, 0, none⟩) rs.length lc) rs
  kp : Keeps (M ++ G) w W
  fr : Fresh w G Gx
section
variable {w W W' : World} {q p first : Nat} {hs : List Hd} {M G : List Nat} {g lc : Nat} {rs : List Rh} {st st' : DS} {Gx : List Nat} {Kx Kx' : Nat}
theorem PvAt.keep (h : PvAt w W q p first hs M G g lc rs st Gx Kx) (k : Keeps [] W W') : PvAt w W' q p first hs M G g lc rs st Gx Kx :=
  ⟨h.rd.keep k (by simp) (by simp), h.rl.keep k (by simp), h.kp.trans' k (by simp), h.fr⟩
theorem PvAt.disk (h : PvAt w W q p first hs M G g lc rs st Gx Kx) (eM : M = rsl q (.slice (some ⟨g, 0, none⟩) rs.length lc) rs) (d : RDone W p st' Gx W') (f : st'.Fit Kx') (hc : st'.cnt = st.cnt) :
    ∃ G', PvAt w W' q p first hs M G g lc rs st' G' Kx' := by
  obtain ⟨G2, H2, _, fr2⟩ := h.rd.disk d f hc
  obtain ⟨_, _, kx, _⟩ := id d
  have hz := h.kp.size
  exact ⟨G2, H2, h.rl.keep kx (by have := h.rd.dis; rw [eM] at this; exact this), h.kp.trans' kx (fun i hi hm => by
    rcases h.fr i hm with h | h
    · exact List.mem_append.2 (.inr h)
    · omega), fun x hx => by
    rcases fr2 x hx with h1 | h1
    · exact h.fr x h1
    · exact .inr (by omega)⟩
theorem PvAt.done {K er : _} (h : PvAt w W q p first hs M G g lc rs st Gx Kx) (hk : Kx ≤ K) : RdPost w q p first hs st M G K er (.returned (.int .i64 er)) W :=
  ⟨rfl, M, Gx, ⟨h.rd.sl, h.rd.dk, h.rd.dis, h.rd.fit.mono hk, h.rd.room, h.rd.ok⟩, h.kp, fun _ h => .inl h, h.fr⟩
end
theorem headB_nch (n : Nat) (key : List Int) (h : key.length ≤ 40) : nch (headB ⟨true, n, key⟩).length = 1 := by
  unfold headB nch
  simp [be]
  omega
theorem headB_chk (n : Nat) (key : List Int) (h : key.length ≤ 40) : chk (headB ⟨true, n, key⟩) 0 = headB ⟨true, n, key⟩ := by
  unfold chk
  rw [Nat.zero_mul, List.drop_zero, List.take_of_length_le]
  unfold headB
  simp [be]
  omega
end Go.Proofs.Ytiljhjegfklgmaa
