/- Two rows of things, written by one pen or by two (the law WireJoins): the walk. -/
import Derived.Test.YtfkafelidkcinaaEff
import Derived.Test.YtfkafelidkcinaaDeedApp
import Derived.Test.YtfkafelidkcinaaAppG
import Derived.Test.YtfkafelidkcinaaWrites
namespace Go.Proofs.Ytfkafelidkcinaa
open Go.RowKit

theorem PenSince.keep {w w2 w3 : World} {T p v zs bad} (h : PenSince w w2 T p v zs bad) (k : Keeps [] w2 w3) : PenSince w w3 T p v zs bad :=
  ⟨h.pen.keep k (by simp) (by simp), h.kept.trans k⟩

theorem join1 {w w3 w4 : World} {o : Obj} (h : Keeps [] w w3) (k : Keeps [w3.heap.size] (w3.alloc o) w4) : Keeps [] w w4 :=
  (h.alloc o).trans' k (fun i hi hm => by have := h.size; simp at hm; omega)

theorem join2 {w w3 w4 w5 : World} {S : List Nat} (h : Keeps [] w w4) (hs : ∀ k ∈ S, w3.heap.size ≤ k) (h3 : Keeps [] w w3) (k : Keeps S w4 w5) : Keeps [] w w5 :=
  h.trans' k (fun i hi hm => by have := h3.size; have := hs i hm; omega)

theorem OwnDeeds.ge {w : World} {B : Nat} {a : Option Addr} {n c : Nat} {ds : List Dd} (h : OwnDeeds w B (.slice a n c) ds) : ∀ k ∈ (Value.slice a n c).ownBlock.toList, B ≤ k :=
  fun k hk => (h.1.lt k (by simpa using hk)).1

theorem rows_off {w : World} {S : List Nat} {ds : List Dd} (h : ∀ d ∈ ds, DeedOk w d) (hs : ∀ k ∈ S, w.heap.size ≤ k) : ∀ d ∈ ds, Off S d.row d.bs :=
  fun d hd => off_old (h d hd).row hs

set_option maxRecDepth 100000 in
set_option maxHeartbeats 3200000 in
theorem joins_any (w : World) (u v : Value) (act x n : Int) (rv : Value) (dl dk : List Dd) (bs : List Int) (hu : DeedsAt w u dl) (hv : DeedsAt w v dk) (hr : RowAt w rv bs) (hbl : bs.length ≤ 140737488351232) :
    Calls Try.prog 7 #[u, v, .agg #[.int .i64 act, .int .i64 x, .int .i64 n, rv]] w fun e w' => e = .returned (.bool true) ∧ Keeps [] w w' := by
  have DL := hid hu
  have DK := hid hv
  have RB := hid hr
  obtain ⟨la, lc, rfl, z⟩ := hu
  obtain ⟨ka, kc, rfl, z2⟩ := hv
  obtain ⟨ra, rc, rfl, z3⟩ := hr
  clear z z2 z3
  have K0 := hid ((Keeps.refl [] w).alloc (.cells #[.int .i64 act, .int .i64 x, .int .i64 n, .slice ra bs.length rc] 49))
  have X0 := hid (heap_alloc_new w (.cells #[.int .i64 act, .int .i64 x, .int .i64 n, .slice ra bs.length rc] 49))
  go_enter Try.func7, Try.ntmps7
  go_wp2_with fail
  generalize hw0 : w.alloc (.cells #[.int .i64 act, .int .i64 x, .int .i64 n, .slice ra bs.length rc] 49) = w0 at *
  clear hw0
  refine (awake_any w0).mono ?_
  rintro e w1 ⟨rfl, q1⟩
  have K1 := hid (K0.out.trans q1)
  have X1 : Hid (w1.heap[w.heap.size]? = some (.cells #[.int .i64 act, .int .i64 x, .int .i64 n, .slice ra bs.length rc] 49 (0, 0))) := by
    show w1.heap[w.heap.size]? = _
    rw [q1.block w.heap.size (lt_of_block X0.out) (by simp)]; exact X0.out
  have X1lt := X1
  clear q1 X0 K0
  go_wp2_with fail
  refine (room_any w1 _ dl (DL.out.keep K1.out)).mono ?_
  rintro e w2 ⟨b, rfl, rfl, hroom⟩
  cases b with
  | false =>
    clear hroom
    go_wp2_with fail
    go_ret
    exact ⟨rfl, K1.out⟩
  | true =>
    have HR1 := hid (hroom rfl)
    clear hroom
    go_wp2_with fail
    refine (room_any w1 _ dk (DK.out.keep K1.out)).mono ?_
    rintro e w2 ⟨b, rfl, rfl, hroom⟩
    cases b with
    | false =>
      clear hroom
      go_wp2_with fail
      go_ret
      exact ⟨rfl, K1.out⟩
    | true =>
      have HR2 := hid (hroom rfl)
      have x3 : w1.cell? ⟨w.heap.size, 3, none⟩ = some (.slice ra bs.length rc) := by simp [World.cell?, X1.out]
      clear hroom
      by_cases hbig : 70000 < bs.length
      · have hbig' : decide ((70000 : Int) < bs.length) = true := by simp; omega
        go_wp2_with fail
        go_ret
        exact ⟨rfl, K1.out⟩
      · have hbig' : decide ((70000 : Int) < bs.length) = false := by simp; omega
        go_wp2_with fail
        refine (write_any w1 _ dl (DL.out.keep K1.out) (by have := HR1.out.1; omega) HR1.out.2).mono ?_
        rintro e w2 ⟨p, p', pv, pv', rfl, q1⟩
        have P2 : Hid (PenSince w1 w2 31 p pv _ _) := ⟨q1.pen, q1.kept⟩
        have K2 := hid (K1.out.trans q1.kept)
        have X2 : Hid (w2.heap[w.heap.size]? = some (.cells #[.int .i64 act, .int .i64 x, .int .i64 n, .slice ra bs.length rc] 49 (0, 0))) := by
          show w2.heap[w.heap.size]? = _
          rw [q1.kept.block w.heap.size (lt_of_block X1.out) (by simp)]; exact X1.out
        clear q1 X1 x3
        go_wp2_with fail
        refine (write_any w2 _ dk (DK.out.keep K2.out) (by have := HR2.out.1; omega) HR2.out.2).mono ?_
        rintro e w3 ⟨q, q', qv, qv', rfl, q1⟩
        have Q3 : Hid (PenSince w2 w3 31 q qv _ _) := ⟨q1.pen, q1.kept⟩
        have P3 := hid (P2.out.keep q1.kept)
        have K3 := hid (K2.out.trans q1.kept)
        have X3 : Hid (w3.heap[w.heap.size]? = some (.cells #[.int .i64 act, .int .i64 x, .int .i64 n, .slice ra bs.length rc] 49 (0, 0))) := by
          show w3.heap[w.heap.size]? = _
          rw [q1.kept.block w.heap.size (lt_of_block X2.out) (by simp)]; exact X2.out
        clear q1 X2 P2
        have HO : Hid (OwnDeeds (w3.alloc (.cells #[] 49)) w3.heap.size (.slice (some ⟨w3.heap.size, 0, none⟩) 0 0) []) :=
          ⟨World.ownsRow_made (base := w3.heap.size) (e := 49) (size := 4) w3 #[] 0 (Nat.le_refl _) (by unfold maxLen; omega) (by simp), by simp⟩
        have HL := hid (DL.out.keep (K3.out.alloc (.cells #[] 49)))
        have F1 := hid (rows_off (S := [w3.heap.size]) ((DL.out.keep K3.out).ok) (by simp))
        have F2 := hid (fun (S : List Nat) (hs : ∀ k ∈ S, w3.heap.size ≤ k) => rows_off (S := S) (ds := dl ++ dk) (fun d hd => by
          rcases List.mem_append.1 hd with hd | hd
          · exact (DL.out.keep K3.out).ok d hd
          · exact (DK.out.keep K3.out).ok d hd) hs)
        have hl1 : dl.length ≤ 100 := HR1.out.1
        have hl2 : dk.length ≤ 100 := HR2.out.1
        go_wp2_with (first | (at_builtin; refine wpList_append_deeds rfl (.tmp 48) (.tmp 49) rfl w3.heap.size (.slice (some ⟨w3.heap.size, 0, none⟩) 0 0) [] rfl HO.out _ dl rfl HL.out (by simp; omega) (by simp) F1.out ?_; intro a1 c1 w4 k1 k2; simp only [List.length_nil, Nat.zero_add, List.nil_append] at k1 ⊢; have K4 := hid (join1 K3.out k2.out)) | (at_builtin; refine wpList_append_deeds rfl (.tmp 50) (.tmp 51) rfl w3.heap.size (.slice a1 dl.length c1) dl rfl k1.out _ dk rfl (DK.out.keep K4.out) (by omega) (by have := k2.out.size; simp at this; omega) (F2.out _ k1.out.ge) ?_; intro a2 c2 w5 k3 k4; have K5 := hid (join2 K4.out k1.out.ge K3.out k4.out)))
        have K34 : Keeps [] w3 w4 := join1 (Keeps.refl [] w3) k2.out
        have K35 : Keeps [] w3 w5 := join2 K34 k1.out.ge (Keeps.refl [] w3) k4.out
        have P5 := hid (P3.out.keep K35)
        have Q5 := hid (Q3.out.keep K35)
        have X5 : Hid (w5.heap[w.heap.size]? = some (.cells #[.int .i64 act, .int .i64 x, .int .i64 n, .slice ra bs.length rc] 49 (0, 0))) := by
          show w5.heap[w.heap.size]? = _
          rw [(K35).block w.heap.size (lt_of_block X3.out) (by simp)]; exact X3.out
        have hall := hid (show ∀ d ∈ dl ++ dk, d.bs.length ≤ 70000 by
          intro d hd
          rcases List.mem_append.1 hd with hd | hd
          · exact HR1.out.2 d hd
          · exact HR2.out.2 d hd)
        have D5 := hid k3.out.at
        clear K34 K35 k1 k2 k3 k4 HO HL F1 F2 X3 P3 Q3 K2 K3 K4
        refine (write_any w5 _ (dl ++ dk) D5.out (by rw [List.length_append]; omega) hall.out).mono ?_
        rintro e w6 ⟨r, r', rv, rv', rfl, q1⟩
        have R6 : Hid (PenSince w5 w6 31 r rv _ _) := ⟨q1.pen, q1.kept⟩
        have P6 := hid (P5.out.keep q1.kept)
        have Q6 := hid (Q5.out.keep q1.kept)
        have K6 := hid (K5.out.trans q1.kept)
        have X6 : Hid (w6.heap[w.heap.size]? = some (.cells #[.int .i64 act, .int .i64 x, .int .i64 n, .slice ra bs.length rc] 49 (0, 0))) := by
          show w6.heap[w.heap.size]? = _
          rw [(q1.kept).block w.heap.size (lt_of_block X5.out) (by simp)]; exact X5.out
        have hfold := hid (show (dl ++ dk).foldl deedW ([], 0) = dk.foldl deedW (dl.foldl deedW ([], 0)) from List.foldl_append)
        have hbeh := hid (deeds_behind (dl.foldl deedW ([], 0)).1 dk [])
        generalize hS : dl.foldl deedW ([], 0) = S at *
        generalize hT : dk.foldl deedW ([], 0) = T at *
        generalize hR : (dl ++ dk).foldl deedW ([], 0) = R at *
        clear q1 X5 P5 Q5 K5 hS hT hR D5 hall
        go_wp2_with fail
        refine (bytes_any _ w1.heap.size p pv _ _ P6.out.pen).mono ?_
        intro e w7 hq
        obtain ⟨a7, c7, rfl, q1, q2, q3⟩ := hq.any
        have A7 := hid q1
        have P7 := hid (P6.out.keep q3)
        have Q7 := hid (Q6.out.keep q3)
        have R7 := hid (R6.out.keep q3)
        have K7 := hid (K6.out.trans q3)
        have X7 : Hid (w7.heap[w.heap.size]? = some (.cells #[.int .i64 act, .int .i64 x, .int .i64 n, .slice ra bs.length rc] 49 (0, 0))) := by
          show w7.heap[w.heap.size]? = _
          rw [(q3).block w.heap.size (lt_of_block X6.out) (by simp)]; exact X6.out
        clear q1 q2 q3 hq P6 Q6 R6 K6 X6
        go_wp2_with fail
        refine (bytes_any _ w2.heap.size q qv _ _ Q7.out.pen).mono ?_
        intro e w8 hq
        obtain ⟨a8, c8, rfl, q1, q2, q3⟩ := hq.any
        have A8 := hid (A7.out.keep q3 (by intro _ _ _ _ _; simp))
        have B8 := hid q1
        have P8 := hid (P7.out.keep q3)
        have R8 := hid (R7.out.keep q3)
        have K8 := hid (K7.out.trans q3)
        have X8 : Hid (w8.heap[w.heap.size]? = some (.cells #[.int .i64 act, .int .i64 x, .int .i64 n, .slice ra bs.length rc] 49 (0, 0))) := by
          show w8.heap[w.heap.size]? = _
          rw [(q3).block w.heap.size (lt_of_block X7.out) (by simp)]; exact X7.out
        have TF : Hid (T.1.length ≤ 65536) := Q7.out.pen.fits
        clear q1 q2 q3 hq P7 Q7 R7 K7 X7 A7
        go_wp2_with fail
        refine (bytes_any _ w5.heap.size r rv _ _ R8.out.pen).mono ?_
        intro e w9 hq
        obtain ⟨a9, c9, rfl, q1, q2, q3⟩ := hq.any
        have A9 := hid (A8.out.keep q3 (by intro _ _ _ _ _; simp))
        have B9 := hid (B8.out.keep q3 (by intro _ _ _ _ _; simp))
        have C9 := hid q1
        have P9 := hid (P8.out.keep q3)
        have K9 := hid (K8.out.trans q3)
        have X9 : Hid (w9.heap[w.heap.size]? = some (.cells #[.int .i64 act, .int .i64 x, .int .i64 n, .slice ra bs.length rc] 49 (0, 0))) := by
          show w9.heap[w.heap.size]? = _
          rw [(q3).block w.heap.size (lt_of_block X8.out) (by simp)]; exact X8.out
        clear q1 q2 q3 hq P8 R8 K8 X8 A8 B8
        have K1lt : Hid (w.heap.size < w1.heap.size) := lt_of_block X1lt.out
        by_cases hs : S.2 = 0
        · have hS : S = (S.1 ++ [], 0) := by rw [List.append_nil, ← hs]
          have hR : (T.2 = 0 → R = (S.1 ++ T.1, 0) ∨ R.2 = 3) ∧ (T.2 ≠ 0 → R.2 ≠ 0) := by
            have := hbeh.out
            rw [← hS, ← hfold.out] at this
            exact this
          have e1 : (S.2 != 0) = false := by simpa using hs
          have e1' : (S.2 == 0) = true := by simpa using hs
          have HS2 := hid hs
          clear hS
          by_cases ht : T.2 = 0
          · have e2 : (T.2 != 0) = false := by simpa using ht
            have HR := hid (hR.1 ht)
            have HT2 := hid ht
            have hpn := hid (show penNum (-1) 1 (S.1, S.2) = ([], 1) by
              unfold penNum penFail
              rw [if_neg (by omega), if_pos HS2.out])
            have hpr := hid (show penRaw bs ([], 1) = ([], 1) by
              unfold penRaw
              rw [penNum_fail (by decide), penAdd_fail (by decide), penFail_fail (by decide)]
              split <;> rfl)
            clear hR ht hs
            by_cases hr : R.2 = 0
            · have e3 : (R.2 == 0) = true := by simpa using hr
              have e3' : (R.2 != 0) = false := by simpa using hr
              have hRR := hid (show shown R = shown S ++ shown T by
                unfold shown
                rw [if_pos hr, if_pos HS2.out, if_pos HT2.out]
                rcases HR.out with h | h
                · rw [h]
                · omega)
              clear hr
              have hz1 := hid (A9.out.bytes)
              have hz2 := hid (B9.out.bytes)
              have l1 : (shown S).length ≤ 65536 := by
                unfold shown; split
                · exact P9.out.pen.fits
                · simp
              have l2 : (shown T).length ≤ 65536 := by
                unfold shown; split
                · exact TF.out
                · simp
              obtain ⟨i0, hi, hz0, hz11, hz22⟩ := info_parts info5
              go_wp2_with fail
              refine (copy_any _ _ (shown S) A9.out (by omega)).mono ?_
              rintro e w10 ⟨a10, c10, rfl, q1, q2⟩
              have O10 := hid q1
              have B10 := hid (B9.out.keep q2 (by intro _ _ _ _ _; simp))
              have C10 := hid (C9.out.keep q2 (by intro _ _ _ _ _; simp))
              have G10 := hid q2
              have hsz : w9.heap.size ≤ w10.heap.size := q2.size
              clear q1 q2
              go_wp2_with (at_builtin; refine wpList_append_guarded rfl (.tmp 97) (.tmp 98) 25 rfl w9.heap.size 5 i0 (.int .u8 0) Try.underlying25 hi hz0 hz11 hz22 rfl (.slice a10 (shown S).length c10) (shown S).length ((shown S).map (Value.int .u8)) rfl O10.out _ (shown T) rfl B10.out (by omega) hsz ?_; intro a11 c11 w11 k1 k2 k3)
              have hge : ∀ k ∈ (Value.slice a10 (shown S).length c10).ownBlock.toList, w9.heap.size ≤ k := fun k hk => (O10.out.lt k (by simpa using hk)).1
              have G11 : Keeps (Value.slice a10 (shown S).length c10).ownBlock.toList w10 w11 := (Keeps.refl _ _).grown k2.out (fun k hk => Or.inl (by simp [hk]))
              have C11 := hid (C10.out.keep G11 (off_old C9.out hge))
              have R11 : Hid (RowAt w11 (.slice a11 ((shown S).length + (shown T).length) c11) (shown S ++ shown T)) := by
                refine row_of_own (B := w9.heap.size) (e := 5) ?_ ?_
                · rw [List.length_append, List.map_append]; exact k1.out
                · intro z hz
                  rcases List.mem_append.1 hz with hz | hz
                  · exact hz1.out z hz
                  · exact hz2.out z hz
              have G912 : Hid (Keeps [] w9 w11) := G10.out.trans' G11 (fun i hi hm => by have := hge i hm; omega)
              clear G11 hge k1 k2 k3 O10 B10 C10 G10
              refine (same_any _ _ _ _ _ C11.out R11.out (by have := hRR.out; show (shown R).length ≤ _; rw [this, List.length_append]; omega) (by rw [List.length_append]; omega)).mono ?_
              rintro e w12 ⟨rfl, n12, rfl⟩
              have ht : decide (shown (R.1, R.2) = shown S ++ shown T) = true := by rw [decide_eq_true_eq]; exact hRR.out
              rw [ht]
              have G13 := hid (G912.out.drewN n12)
              generalize hw13 : w11.drewN n12 = w13 at *
              have P10 := hid (P9.out.keep G13.out)
              have X10 : Hid (w13.heap[w.heap.size]? = some (.cells #[.int .i64 act, .int .i64 x, .int .i64 n, .slice ra bs.length rc] 49 (0, 0))) := by
                show w13.heap[w.heap.size]? = _
                rw [G13.out.block w.heap.size (lt_of_block X9.out) (by simp)]; exact X9.out
              clear ht l1 l2 hsz hw13
              go_wp2_with fail
              refine (num_any _ w1.heap.size p pv _ _ (-1) 1 P10.out.pen P10.out.kept.size).mono ?_
              intro e w14 hq
              rw [hpn.out] at hq
              have hk := hq
              obtain ⟨rfl, v14, q2⟩ := P10.out.step hq
              obtain ⟨_, _, _, hk, _⟩ := hk
              have P14 := hid q2
              have x14 : w14.cell? ⟨w.heap.size, 3, none⟩ = some (.slice ra bs.length rc) := by
                have : w14.heap[w.heap.size]? = w13.heap[w.heap.size]? := hk.block w.heap.size (lt_of_block X10.out) (fun hm => by have := P10.out.le _ hm; have := K1lt.out; omega)
                simp [World.cell?, this, X10.out]
              have K14 := hid (K1.out.trans P14.out.kept)
              clear q2 hq hk
              go_wp2_with fail
              refine (raw_any _ w1.heap.size p v14 _ _ _ bs P14.out.pen (RB.out.keep K14.out (by intro _ _ _ _ _; simp)) (off_old RB.out (fun k hk => by have := P14.out.le k hk; have := K1.out.size; omega)) P14.out.kept.size (by omega)).mono ?_
              intro e w15 hq
              rw [hpr.out] at hq
              obtain ⟨rfl, v15, q2⟩ := P14.out.step hq
              have P15 := hid q2
              clear q2 hq x14
              go_wp2_with fail
              refine (bytes_any _ w1.heap.size p v15 _ _ P15.out.pen).mono ?_
              intro e w16 hq
              obtain ⟨a16, c16, rfl, q1, q2, q3⟩ := hq.bad (by omega)
              have K16 := hid (K1.out.trans (P15.out.kept.trans q3))
              clear q1 q2 q3 hq
              go_wp2_with fail
              go_ret
              exact ⟨rfl, K16.out⟩
            · have h3 : R.2 = 3 := by
                rcases HR.out with h | h
                · rw [h] at hr; exact absurd rfl hr
                · exact h
              have e3 : (R.2 == 0) = false := by simpa using hr
              have e3' : (R.2 != 0) = true := by simpa using hr
              have e4 : (R.2 != 3) = false := by simpa using h3
              have P10 := P9
              have X10 := X9
              clear hr h3
              go_wp2_with fail
              refine (num_any _ w1.heap.size p pv _ _ (-1) 1 P10.out.pen P10.out.kept.size).mono ?_
              intro e w11 hq
              rw [hpn.out] at hq
              have hk := hq
              obtain ⟨rfl, v11, q2⟩ := P10.out.step hq
              obtain ⟨_, _, _, hk, _⟩ := hk
              have P11 := hid q2
              have x11 : w11.cell? ⟨w.heap.size, 3, none⟩ = some (.slice ra bs.length rc) := by
                have : w11.heap[w.heap.size]? = w9.heap[w.heap.size]? := hk.block w.heap.size (lt_of_block X10.out) (fun hm => by have := P10.out.le _ hm; have := K1lt.out; omega)
                simp [World.cell?, this, X10.out]
              have K11 := hid (K1.out.trans P11.out.kept)
              clear q2 hq hk
              go_wp2_with fail
              refine (raw_any _ w1.heap.size p v11 _ _ _ bs P11.out.pen (RB.out.keep K11.out (by intro _ _ _ _ _; simp)) (off_old RB.out (fun k hk => by have := P11.out.le k hk; have := K1.out.size; omega)) P11.out.kept.size (by omega)).mono ?_
              intro e w12 hq
              rw [hpr.out] at hq
              obtain ⟨rfl, v12, q2⟩ := P11.out.step hq
              have P12 := hid q2
              clear q2 hq x11
              go_wp2_with fail
              refine (bytes_any _ w1.heap.size p v12 _ _ P12.out.pen).mono ?_
              intro e w13 hq
              obtain ⟨a13, c13, rfl, q1, q2, q3⟩ := hq.bad (by omega)
              have K13 := hid (K1.out.trans (P12.out.kept.trans q3))
              clear q1 q2 q3 hq
              go_wp2_with fail
              go_ret
              exact ⟨rfl, K13.out⟩
          · have e2 : (T.2 != 0) = true := by simpa using ht
            have e3 : (R.2 != 0) = true := by simpa using hR.2 ht
            clear hR ht hs
            go_wp2_with fail
            go_ret
            exact ⟨rfl, K9.out⟩
        · have e1 : (S.2 != 0) = true := by simpa using hs
          have e2 : (R.2 == S.2) = true := by
            have : R = S := by rw [hfold.out]; exact deeds_fail dk hs
            rw [this]; simp
          clear hs
          go_wp2_with fail
          go_ret
          exact ⟨rfl, K9.out⟩
end Go.Proofs.Ytfkafelidkcinaa
