/- once: the walk of Load. -/
import Derived.Test.YtkfebgbgnpdgpaaOnJ
namespace Go.Proofs.Ytkfebgbgnpdgpaa
open Go.RowKit Go.Shelf
set_option maxRecDepth 100000
set_option linter.unusedSimpArgs false

/-- What rows load as: none, if a stamp may not be, or clients do not rise. -/
def loadF : Int → Tab → List Rw → Option Tab
  | _, T, [] => some T
  | last, T, r :: rs => if mayS r.c r.l r.s = true ∧ last < r.c then loadF r.c (T.put r.c.toNat (r.l, r.s, r.bs)) rs else none

def LoadPost (w : World) (M : List Nat) (o : Option Tab) (e : Ending) (w' : World) : Prop :=
  (o = none ∧ e = .returned (.tuple #[.pointer none, .int .i64 4]) ∧ Keeps [] w w') ∨
  (∃ T p, o = some T ∧ w.heap.size ≤ p ∧ e = .returned (.tuple #[.pointer (some ⟨p, 0, none⟩), .int .i64 0]) ∧ WinF w' p (p :: M) T ∧ Keeps [] w w')

theorem keepF {w : World} {p : Nat} {M : List Nat} {T : Tab} (h : WinF w p M T) (c l s : Int) (hm : mayS c l s = true) (ra : Option Addr) (rc n : Nat) (bs : List Int) (hn : n = bs.length) (hr : RowAt w (.slice ra n rc) bs) (hl : bs.length ≤ 100) :
    Calls Try.prog 45 #[.pointer (some ⟨p, 0, none⟩), stV c l s, .slice ra n rc] w (DoneF w p M (T.put c.toNat (l, s, bs)) (.tuple #[])) := by
  subst hn
  obtain ⟨q1, q2, _⟩ := mayS_is.1 hm
  obtain ⟨k, rfl⟩ : ∃ k : Nat, c = k := ⟨c.toNat, by omega⟩
  obtain ⟨R, hR⟩ := h.ex
  refine (nKeep_any w p M h.lt R T hR k l s hm ra rc bs hr hl).mono ?_
  rintro e w' ⟨h1, h2, h3⟩
  rw [Int.toNat_natCast]
  exact ⟨h1, ⟨h2, fun b hb => Nat.lt_of_lt_of_le (h.lt b hb) h3.size⟩, h3⟩
theorem rowsF {w : World} {p : Nat} {M : List Nat} {T : Tab} (h : WinF w p M T) : Calls Try.prog 30 #[.pointer (some ⟨p, 0, none⟩)] w (RowsPost w M T) := by
  obtain ⟨R, hR⟩ := h.ex
  exact nRows_any w p M h.lt R T hR

theorem loadRow8 {w : World} {b o : Nat} {a : Option Addr} {n cp : Nat} (c : w.cell? ⟨b, o, none⟩ = some (.slice a n cp)) : (Instr.loadAt 29 (.pointer (some ⟨b, o, none⟩))).run Try.prog w = .ok (.slice a n cp) w := run_loadCell w _ _ _ c (agg_no _ (by kernel_rfl))
theorem loadRw {w : World} {b o : Nat} {x0 x1 x2 x3 : Value} (c0 : w.cell? ⟨b, o, none⟩ = some x0) (c1 : w.cell? ⟨b, o + 1, none⟩ = some x1) (c2 : w.cell? ⟨b, o + 2, none⟩ = some x2) (c3 : w.cell? ⟨b, o + 3, none⟩ = some x3) :
    (Instr.loadAt 82 (.pointer (some ⟨b, o, none⟩))).run Try.prog w = .ok (.agg #[x0, x1, x2, x3]) w := load_row [x0, x1, x2, x3] Try.underlying82 rfl iRow8 (cells4 c0 c1 c2 c3)

set_option maxHeartbeats 6400000 in
theorem nLoad_any (w : World) (M : List Nat) (hM : ∀ b ∈ M, b < w.heap.size) (v : Value) (rs : List Rw) (h : RwsAt w M v rs) (hl : rs.length ≤ 1000) : Calls Try.prog 31 #[v] w (LoadPost w M (loadF (-1) tab0 rs)) := by
  obtain ⟨a, c, rfl, -⟩ := id h
  have HH := hid h
  have NW := hid (newF w M hM)
  clear h hM
  go_enter Try.func31, Try.ntmps31
  go_wp2_with (first | (go_at_call 19; refine NW.out.mono ?_; rintro e w1 ⟨p, hp, rfl, h1, k1⟩; have H1 := hid h1; have K1 := hid k1; have HP := hid hp; clear h1 k1 hp) | fail)
  go_loopw [5, 11] (fun lv iv wr => ∃ (k : Nat) (last : Int) (T : Tab), k ≤ rs.length ∧ iv = .int .i64 k ∧ lv = .int .i64 last ∧ WinF wr p (p :: M) T ∧ loadF (-1) tab0 rs = loadF last T (rs.drop k) ∧ Keeps [] w wr) (fun _ iv _ => rs.length - (intOf iv).toNat)
  case atStart => exact ⟨0, -1, tab0, by omega, rfl, rfl, H1.out, rfl, K1.out⟩
  case round =>
    obtain ⟨k, last, T, hk, rfl, rfl, hw, hL, kk⟩ := hrel
    have KK := hid kk
    have HW := hid hw
    have HL := hid hL
    clear kk hw hL
    by_cases hlt : k < rs.length
    · obtain ⟨g, off, ha, -, gl, gM, d0, d1, d2, d3⟩ := (HH.out.later KK.out).at k hlt
      subst ha
      have OK := hid ((HH.out.ok rs[k] (List.getElem_mem _)).later KK.out)
      obtain ⟨ra, rc, hrow, -⟩ := OK.out.row
      rw [hrow] at d3
      have HROW := hid hrow
      have HD := hid (List.drop_eq_getElem_cons hlt)
      obtain ⟨r, hr⟩ : ∃ r, r = rs[k] := ⟨_, rfl⟩
      rw [← hr] at OK HROW HD d0 d1 d2 d3
      clear hrow hr
      have LD := hid (loadRw d0 d1 d2 d3)
      have ka := (Keeps.refl [] wr).alloc (.cells #[.int .i64 r.c, .int .i64 r.l, .int .i64 r.s, .slice ra r.bs.length rc] 82)
      have BX := hid (heap_alloc_new wr (.cells #[.int .i64 r.c, .int .i64 r.l, .int .i64 r.s, .slice ra r.bs.length rc] 82))
      have KA := hid ka
      have MB := hid (fun W => nMay_any W r.c r.l r.s)
      clear ka d0 d1 d2 d3 gl gM
      unfold stV at MB
      by_cases hm : mayS r.c r.l r.s = true
      · rw [hm] at MB
        by_cases hc : last < r.c
        · have hb : decide (r.c ≤ last) = false := by simp; omega
          have HL2 : Hid (loadF (-1) tab0 rs = loadF r.c (T.put r.c.toNat (r.l, r.s, r.bs)) (rs.drop (k + 1))) := hid (by
            rw [HL.out, HD.out]
            simp only [loadF]
            rw [if_pos ⟨hm, hc⟩])
          have MM := hid hm
          clear hm hc
          go_wp2_with (first | (refine wpList_isW rfl _ _ (exec_load _ _ _ _ rfl rfl LD.out) ?_) | (refine wpList_allocRw rfl rfl ?_) | (refine wpList_storeRw rfl _ _ rfl wr rfl rfl r.c r.l r.s ra r.bs.length rc rfl ?_) | (refine wpList_isW rfl _ _ (exec_load _ _ _ _ rfl rfl (loadSt (block_cells4 BX.out).1 (block_cells4 BX.out).2.1 (block_cells4 BX.out).2.2.1)) ?_) | (refine wpList_isW rfl _ _ (exec_load _ _ _ _ rfl rfl (loadI8 (block_cells4 BX.out).1)) ?_) | (refine wpList_isW rfl _ _ (exec_load _ _ _ _ rfl rfl (loadRow8 (block_cells4 BX.out).2.2.2)) ?_) | (go_at_call 49; refine (MB.out _).mono ?_; rintro e w3 ⟨rfl, k3⟩; have BX := hid ((k3.block _ (lt_of_block BX.out) (by simp)).trans BX.out); have KB := hid (KA.out.trans k3); have rr := (OK.out.later KB.out).row; rw [HROW.out] at rr; have KP := hid (keepF (HW.out.later KB.out) r.c r.l r.s MM.out ra rc _ r.bs rfl rr OK.out.fit); unfold stV at KP; clear k3 rr) | (go_at_call 45; refine KP.out.mono ?_; rintro e w4 ⟨rfl, h4, k4⟩; have H4 := hid h4; have K4 := hid k4; clear h4 k4) | fail)
          go_roundw
          case rel => exact ⟨k + 1, r.c, _, by omega, by go_num, rfl, H4.out, HL2.out, (KK.out.trans KB.out).trans' K4.out (fun j hj hm => by have := HP.out; simp at hm; omega)⟩
          case measure => simp [intOf]; omega
        · have hb : decide (r.c ≤ last) = true := by simp; omega
          have HN : Hid (loadF (-1) tab0 rs = none) := hid (by
            rw [HL.out, HD.out]
            simp only [loadF]
            rw [if_neg (fun h => hc h.2)])
          clear hm hc
          go_wp2_with (first | (refine wpList_isW rfl _ _ (exec_load _ _ _ _ rfl rfl LD.out) ?_) | (refine wpList_allocRw rfl rfl ?_) | (refine wpList_storeRw rfl _ _ rfl wr rfl rfl r.c r.l r.s ra r.bs.length rc rfl ?_) | (refine wpList_isW rfl _ _ (exec_load _ _ _ _ rfl rfl (loadSt (block_cells4 BX.out).1 (block_cells4 BX.out).2.1 (block_cells4 BX.out).2.2.1)) ?_) | (refine wpList_isW rfl _ _ (exec_load _ _ _ _ rfl rfl (loadI8 (block_cells4 BX.out).1)) ?_) | (go_at_call 49; refine (MB.out _).mono ?_; rintro e w3 ⟨rfl, k3⟩; have BX := hid ((k3.block _ (lt_of_block BX.out) (by simp)).trans BX.out); have KB := hid (KA.out.trans k3); clear k3) | fail)
          go_ret2
          exact Or.inl ⟨HN.out, rfl, KK.out.trans KB.out⟩
      · have hm' : mayS r.c r.l r.s = false := by simpa using hm
        rw [hm'] at MB
        have HN : Hid (loadF (-1) tab0 rs = none) := hid (by
          rw [HL.out, HD.out]
          simp only [loadF]
          rw [if_neg (fun h => hm h.1)])
        clear hm hm'
        go_wp2_with (first | (refine wpList_isW rfl _ _ (exec_load _ _ _ _ rfl rfl LD.out) ?_) | (refine wpList_allocRw rfl rfl ?_) | (refine wpList_storeRw rfl _ _ rfl wr rfl rfl r.c r.l r.s ra r.bs.length rc rfl ?_) | (refine wpList_isW rfl _ _ (exec_load _ _ _ _ rfl rfl (loadSt (block_cells4 BX.out).1 (block_cells4 BX.out).2.1 (block_cells4 BX.out).2.2.1)) ?_) | (go_at_call 49; refine (MB.out _).mono ?_; rintro e w3 ⟨rfl, k3⟩; have KB := hid (KA.out.trans k3); clear k3) | fail)
        go_ret2
        exact Or.inl ⟨HN.out, rfl, KK.out.trans KB.out⟩
    · obtain rfl : k = rs.length := by omega
      have HS : Hid (loadF (-1) tab0 rs = some T) := hid (by rw [HL.out, List.drop_length]; rfl)
      go_wp2_with fail
      go_ret2
      exact Or.inr ⟨T, p, HS.out, HP.out, rfl, HW.out, KK.out⟩
end Go.Proofs.Ytkfebgbgnpdgpaa
