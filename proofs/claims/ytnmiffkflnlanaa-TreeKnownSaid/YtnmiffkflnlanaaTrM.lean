/- The code's tree: Move. -/
import Derived.Test.YtnmiffkflnlanaaTrL
namespace Go.Proofs.Ytnmiffkflnlanaa
open Go.RowKit
set_option maxRecDepth 100000

theorem xT_set {T : TL} {x : Th} (h : findT T x.ino = some x) (d : Nat) (s : List UInt8) (m : Nat) : xT (setT T x.ino d s) m = updX (xT T) x.ino ((xT T x.ino).at_ d s) m := by
  by_cases e : m = x.ino
  · subst e
    rw [updX_same]
    simp [xT, hasT, upT, nmT, isDirT, find_set, h, Tg.at_, movT]
  · rw [updX_ne _ _ e]
    have hf : findT (setT T x.ino d s) m = findT T m := by
      rw [find_set]
      cases hq : findT T m with
      | none => rfl
      | some y =>
        have : y.ino = m := by simpa using List.find?_some hq
        simp [movT, this, e]
    simp [xT, hasT, upT, nmT, isDirT, hf]
theorem findR_err {T : TL} {p : List UInt8} : (lookT T p).2.2 = (findR T p).2 ∧ ((findR T p).2 = 0 → (lookT T p).1 = (findR T p).1) := by
  rw [lookT_find]
  by_cases h0 : (findR T p).2 = 0
  · rw [if_pos h0]; exact ⟨h0.symm, fun _ => rfl⟩
  · rw [if_neg h0]; exact ⟨rfl, fun h => absurd h h0⟩
def moveR (T : TL) (p to : List UInt8) : TL × Int :=
  if (findR T p).2 ≠ 0 then (T, (findR T p).2)
  else if (findR T p).1 = 1 then (T, 8)
  else if (withinN to p || withinN p to) = true then (T, 1)
  else if (spotT T to).2.2 ≠ 0 then (T, (spotT T to).2.2)
  else (setT T (findR T p).1 (spotT T to).1 (spotT T to).2.1, 0)
theorem moveR_is (T : TL) (p to : List UInt8) : moveT T p to = moveR T p to := by
  unfold moveT moveR
  obtain ⟨h1, h2⟩ := findR_err (T := T) (p := p)
  rw [h1]
  by_cases h0 : (findR T p).2 = 0
  · rw [h2 h0]
  · rw [if_pos h0, if_pos h0]

set_option maxHeartbeats 1600000 in
theorem move_in (w : World) (q c : Nat) (T : TL) (G : Nat → Nat) (TI : TreeIn w q T G c) (hc : c ≤ 10000000) (s t : ByteArray) (hs : s.size ≤ 140737488351232) (ht : t.size ≤ 140737488351232) :
    Calls Try.prog 12 #[.pointer (some ⟨q, 0, none⟩), .string s, .string t] w (DoPost w q (moveT T s.data.toList t.data.toList).1 (foot q (xT T) G) c (.int .i64 (moveT T s.data.toList t.data.toList).2)) := by
  have HI := hid TI
  have HSP := hid (find_any10 w q c T G TI s hs)
  have HTO := hid (fun W (k : Keeps [] w W) => spot_any10 W q c T G (TI.keep0 k) t ht)
  have HW1 := hid (fun W => within_any t s W ht hs)
  have HW2 := hid (fun W => within_any s t W hs ht)
  have HOK := hid (findR_has (p := s.data.toList) TI.1)
  have HSK := hid (spot_ok (p := t.data.toList) TI.1)
  obtain ⟨r, hr⟩ : ∃ r, r = moveT T s.data.toList t.data.toList := ⟨_, rfl⟩
  rw [← hr]
  rw [moveR_is] at hr
  unfold moveR at hr
  clear TI
  unfold SpotPost at HTO
  unfold WithinPost at HW1 HW2
  generalize findR T s.data.toList = sp at HSP HOK hr
  generalize spotT T t.data.toList = tp at HTO HSK hr
  generalize withinN t.data.toList s.data.toList = b1 at HW1 hr
  generalize withinN s.data.toList t.data.toList = b2 at HW2 hr
  have HR := hid hr
  clear hr
  obtain ⟨n, x⟩ := sp
  obtain ⟨d, u, y⟩ := tp
  go_enter Try.func12, Try.ntmps12
  go_wp2_with fail
  refine HSP.out.mono ?_
  rintro e w1 ⟨rfl, k1⟩
  have K1 := hid k1
  have HI1 := hid (HI.out.keep0 k1)
  clear k1
  by_cases hx : x = 0
  · subst hx
    have OK := hid (HOK.out rfl)
    have hn2 := (hasT_le HI.out.1 OK.out).2
    clear HOK
    by_cases h1 : n = 1
    · subst h1
      go_wp2_with fail
      go_ret
      rw [HR.out, if_neg (fun h => h rfl), if_pos trivial]
      exact DoPost.no (v := .int .i64 8) HI1.out K1.out
    · have h1' : ((n : Int) == 1) = false := by simp; omega
      have H1 := hid h1
      clear h1
      cases b1 with
      | true =>
        go_wp2_with fail
        refine (HW1.out w1).mono ?_
        rintro e w2 ⟨rfl, k2⟩
        go_wp2_with fail
        go_ret
        rw [HR.out, if_neg (fun h => h rfl), if_neg H1.out, if_pos (show (true || b2) = true from rfl)]
        exact DoPost.no (v := .int .i64 1) (HI1.out.keep0 k2) (K1.out.trans k2)
      | false =>
        go_wp2_with fail
        refine (HW1.out w1).mono ?_
        rintro e w2 ⟨rfl, k2⟩
        have K2 := hid (K1.out.trans k2)
        clear k2
        go_wp2_with fail
        refine (HW2.out w2).mono ?_
        rintro e w3 ⟨rfl, k3⟩
        have K3 := hid (K2.out.trans k3)
        have HI3 := hid (HI.out.keep0 K3.out)
        clear k3
        cases b2 with
        | true =>
          go_wp2_with fail
          go_ret
          rw [HR.out, if_neg (fun h => h rfl), if_neg H1.out, if_pos (show (false || true) = true from rfl)]
          exact DoPost.no (v := .int .i64 1) HI3.out K3.out
        | false =>
          go_wp2_with fail
          refine (HTO.out w3 K3.out).mono ?_
          rintro e w4 ⟨rfl, k4⟩
          have kA : Keeps [] w4 (w4.alloc (.cells (plC d u).toArray 62)) := (Keeps.refl [] w4).alloc _
          have gA := heap_alloc_new w4 (.cells (plC d u).toArray 62)
          have K5 := hid ((K3.out.trans k4).trans kA)
          have HI5 := hid (HI.out.keep0 K5.out)
          have Z4 := hid (K3.out.trans k4).size
          clear k4
          by_cases hy : y = 0
          · subst hy
            have SK := hid (HSK.out rfl)
            have hd2 := (hasT_le HI.out.1 (isDirT_has SK.out.1)).2
            clear HSK
            obtain ⟨x, hxm, hxi, hxf⟩ := has_mem OK.out H1.out
            have hxf2 : findT T x.ino = some x := by rw [hxi]; exact hxf
            obtain ⟨e1, e2⟩ := xT_of hxf2
            have hup := HI.out.1.up x hxm
            have hup2 := (hasT_le HI.out.1 (isDirT_has hup)).2
            have hx2 := (HI.out.1.ino x hxm).1
            subst hxi
            have G5 := hid gA
            have U := unhang_mid _ q c (xT T) G (kidT T) HI5.out.2 x.ino (by omega) (by rw [e1]; omega) (by rw [e1]; exact hup) (by rw [e2]; have := (mayN_len (HI.out.1.may x hxm)).2; exact Nat.le_trans this (by decide))
            unfold UnhangPost at U
            rw [e1, e2] at U
            have HU := hid U
            have HXM := hid hxm
            have HXF := hid hxf2
            have hul : u.length ≤ maxLen := by have := (mayN_len SK.out.2.2.1).2; exact Nat.le_trans this (by decide)
            have HUL := hid hul
            clear U hxf hxf2 e1 e2 hxm gA kA hul
            go_wp2_with (first | (refine wpList_is rfl _ _ (exec_alloc 62 plZ iPlace rfl) ?_) | (refine wpList_noval rfl _ (exec_storeNew 62 _ _ rfl w4 plZ (plC d u).toArray rfl rfl rfl iPlace rfl (plC_one _ _)) ?_) | fail)
            refine HU.out.mono ?_
            rintro e w6 ⟨rfl, m6, k6⟩
            have hgl : G x.up < w.heap.size := (HI.out.2.map x.up (by omega) hup).lt
            have G6 := hid ((k6.block _ (lt_of_block G5.out) (by have := Z4.out; simp; omega)).trans G5.out)
            have R6 := hid (show w6.rangeAt w4.heap.size 0 (plC d u) from fun j v hv => by rw [Nat.zero_add, cell_of_row _ _ j _ _ (0, 0) G6.out]; simpa using hv)
            have M6 := hid m6
            have K6 := hid ((K5.out.mono (by simp)).trans k6)
            have HH := hid (hang_mid w6 q c _ _ _ m6 (by omega) x.ino d (by omega) (by omega) (by omega) SK.out.1 u HUL.out)
            clear m6 k6
            go_wp2_with (first | (refine wpList_loadPl rfl _ rfl w4.heap.size 0 rfl d u R6.out ?_) | fail)
            refine HH.out.mono ?_
            rintro e w7 ⟨rfl, m7, k7⟩
            have M7 := hid m7
            have K7 := hid (K6.out.mono (S' := [G x.up, q, G d]) (by intro _ _ h; simp at h; simp [h]) |>.trans' k7 (fun i hi hm => by simp at hm; rcases hm with h | h <;> simp [h]))
            clear m7 k7
            go_wp2_with fail
            go_ret
            rw [HR.out, if_neg (fun h => h rfl), if_neg H1.out, if_neg (by decide), if_neg (fun h => h rfl)]
            have J : InvT (setT T x.ino d u) := HI.out.1.set SK.out.1 SK.out.2.2.1 SK.out.2.1
            have xe := xT_set (T := T) HXF.out d u
            refine ⟨rfl, foot q (xT (setT T x.ino d u)) G, ⟨G, ⟨J, M7.out.congr (fun m _ => xe m) (fun m hm hd => ?_)⟩, rfl⟩, ?_, ?_⟩
            · funext v
              rw [kid_set HI.out.1 HXM.out J]
              unfold updK
              by_cases e : m = d
              · subst e
                rw [if_pos rfl]
                unfold updS
                by_cases e2 : v = u
                · simp [e2]
                · by_cases e3 : m = x.up
                  · by_cases e4 : v = x.nm
                    · simp [e3, e4]
                    · simp [e2, e3, e4]
                  · simp [e2, e3]
              · rw [if_neg e, if_neg (fun h => e h.1)]
                by_cases e3 : m = x.up
                · subst e3
                  rw [if_pos rfl]
                  unfold updS
                  by_cases e4 : v = x.nm
                  · simp [e4]
                  · simp [e4]
                · rw [if_neg e3, if_neg (fun h => e3 h.1)]
            · have hq : q ∈ foot q (xT T) G := by simp [foot]
              have hgd : G d ∈ foot q (xT T) G := mem_footT.2 (Or.inr ⟨d, by omega, SK.out.1, rfl⟩)
              have hgu : G x.up ∈ foot q (xT T) G := mem_footT.2 (Or.inr ⟨x.up, by omega, hup, rfl⟩)
              exact K7.out.mono (fun i hi hm => by simp at hm; rcases hm with h | h | h <;> rw [h]; exact hgu; exact hq; exact hgd)
            · intro b hb
              rcases mem_footT.1 hb with rfl | ⟨m, hm, hd, rfl⟩
              · exact Or.inl (by simp [foot])
              · have hd' : isDirT (setT T x.ino d u) m = true := hd
                rw [isDir_set] at hd'
                exact Or.inl (mem_footT.2 (Or.inr ⟨m, hm, hd', rfl⟩))
          · have hy' : (y != 0) = true := by simpa using hy
            have HY := hid hy
            clear hy kA gA
            go_wp2_with (first | (refine wpList_is rfl _ _ (exec_alloc 62 plZ iPlace rfl) ?_) | (refine wpList_noval rfl _ (exec_storeNew 62 _ _ rfl w4 plZ (plC d u).toArray rfl rfl rfl iPlace rfl (plC_one _ _)) ?_) | fail)
            go_ret
            rw [HR.out, if_neg (fun h => h rfl), if_neg H1.out, if_neg (by decide), if_pos HY.out]
            exact DoPost.no (v := .int .i64 y) HI5.out K5.out
  · have hx' : (x != 0) = true := by simpa using hx
    have HX := hid hx
    clear hx
    go_wp2_with fail
    go_ret
    rw [HR.out, if_pos HX.out]
    exact DoPost.no (v := .int .i64 x) HI1.out K1.out
end Go.Proofs.Ytnmiffkflnlanaa
