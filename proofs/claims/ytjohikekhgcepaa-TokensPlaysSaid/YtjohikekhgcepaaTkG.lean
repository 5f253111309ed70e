/- tokens: Busy, Rows, Clone, lose, Close, Drop, least. -/
import Derived.Test.YtjohikekhgcepaaTkF
import Derived.Test.YtjohikekhgcepaaEyeL
namespace Go.Proofs.Ytjohikekhgcepaa
open Go.RowKit Go.Shelf
set_option maxRecDepth 100000
set_option linter.unusedSimpArgs false

section
variable {w : World} {M : List Nat} {q : Nat} {rs : List Rk}
set_option maxHeartbeats 3200000 in
theorem busy_any (h : TokAt w M q rs) (n : Int) : Calls Try.prog 31 #[.pointer (some ⟨q, 0, none⟩), .int .i64 n] w (PB w (rs.any (freeIno n))) := by
  have ka : Keeps [] w (w.alloc (.cells #[.int .i64 n] 3)) := (Keeps.refl [] w).alloc _
  have HA := hid (h.later ka)
  have HF := hid h.few
  obtain ⟨a, cp, c0, c1, hv⟩ := HA.out.cells
  have C1 := hid c1
  have HV := hid hv
  have HQ := hid HA.out.lt
  have K1 := hid ka
  have CB := hid (cb_busy (w.alloc (.cells #[.int .i64 n] 3)) w.heap.size n (by rw [cell_of_row _ _ _ _ _ _ (heap_alloc_new w _)]; rfl))
  clear h ka hv c0
  go_enter Try.func31, Try.ntmps31
  go_wp2_with (first | (go_at_call 67; refine (tkMade_any HA.out).mono ?_; rintro e _ ⟨rfl, rfl⟩) | (go_at_call 70; refine Hid.out ?_) | fail)
  refine hid ?_
  refine (cont_any CB.out HV.out (by have := HF.out; omega)).mono ?_
  rintro e w2 ⟨rfl, k2⟩
  have K2 := hid (K1.out.trans k2)
  clear k2 c1
  go_wp2_with fail
  go_ret
  exact ⟨rfl, K2.out⟩
set_option maxHeartbeats 3200000 in
theorem rowsF_any (h : TokAt w M q rs) (N : List Nat) (hN : ∀ b ∈ N, b < w.heap.size) : Calls Try.prog 30 #[.pointer (some ⟨q, 0, none⟩)] w (RowPostK w N rs) := by
  have HA := hid h
  have HF := hid h.few
  obtain ⟨a, cp, c0, c1, hv⟩ := HA.out.cells
  have HV := hid hv
  have HN := hid hN
  clear h hv c0 hN
  go_enter Try.func30, Try.ntmps30
  go_wp2_with fail
  refine (tkMade_any HA.out).mono ?_
  rintro e _ ⟨rfl, rfl⟩
  go_wp2_with fail
  refine (slClone_any w N M HN.out a rs.length cp rs HV.out (by have := HF.out; omega)).mono ?_
  rintro e w2 ⟨a2, c2, rfl, o2, k2⟩
  have O2 := hid o2
  have K2 := hid k2
  clear o2 k2 c1
  go_wp2_with fail
  go_ret
  exact ⟨a2, c2, rfl, O2.out, K2.out⟩
theorem load_tok {W : World} {b : Nat} {v : Value} (h : W.heap[b]? = some (.cells #[.bool true, v] 135 (0, 0))) : (Instr.loadAt 135 (.pointer (some ⟨b, 0, none⟩))).run Try.prog W = .ok (.agg #[.bool true, v]) W := by
  obtain ⟨c0, c1⟩ := blk_cells2 h
  refine run_loadAt_mid W b 0 135 [.bool true, v] (.struct (Try.prog.fieldsOf 135)) (fun j u hu => ?_) (by kernel_rfl) rfl (by kernel_rfl)
  match j, hu with
  | 0, hu => simp at hu; subst hu; exact c0
  | 1, hu => simp at hu; subst hu; exact c1
theorem iTok : (Try.prog.info? 135).map (fun i => (i.zero, i.size)) = some (some (.agg #[.bool false, .slice none 0 0]), 2) := by kernel_rfl
set_option maxHeartbeats 3200000 in
theorem clone15_any (h : TokAt w M q rs) : Calls Try.prog 36 #[.pointer (some ⟨q, 0, none⟩)] w fun e w' => ∃ q', e = .returned (.pointer (some ⟨q', 0, none⟩)) ∧ w.heap.size ≤ q' ∧ TokAt w' (q' :: M) q' rs ∧ Keeps [] w w' := by
  have HA := hid h
  obtain ⟨⟨v, hb, hv⟩, hm, hf⟩ := h
  obtain ⟨a, cp, rfl⟩ := hv.shape
  have HB := hid hb
  have HV := hid hv
  have HF := hid hf
  clear hb hv hm hf
  go_enter Try.func36, Try.ntmps36
  go_wp2_with fail
  refine (tkMade_any HA.out).mono ?_
  rintro e _ ⟨rfl, rfl⟩
  go_wp2_with (first | (refine wpList_is rfl _ _ (exec_load _ _ _ _ rfl rfl (load_tok HB.out)) ?_) | (refine wpList_is rfl _ _ (exec_alloc 135 #[.bool false, .slice none 0 0] iTok rfl) ?_) | (refine wpList_noval rfl _ (exec_storeNew 135 _ _ rfl w #[.bool false, .slice none 0 0] #[.bool true, .slice a rs.length cp] rfl rfl rfl iTok rfl rfl) ?_) | fail)
  go_ret
  have k : Keeps [] w (w.alloc (.cells #[.bool true, .slice a rs.length cp] 135)) := (Keeps.refl [] w).alloc _
  exact ⟨w.heap.size, rfl, Nat.le_refl _, ⟨⟨_, heap_alloc_new w _, (HV.out.more (N := w.heap.size :: M) (fun b hb => by
    rcases List.mem_cons.1 hb with rfl | hb
    · exact Or.inr (Nat.le_refl _)
    · exact Or.inl hb)).later k⟩, by simp, HF.out⟩, k⟩

/-- Where the tokens' rows are other ones. -/
theorem TokAt.set {w1 : World} {a : Option Addr} {c : Nat} {ms : List Rk} {M' : List Nat} (h : TokAt w1 M q rs) (hv : RksAt w1 M' (.slice a ms.length c) ms) (hm : q ∈ M') (hf : ms.length ≤ 1000) : TokAt (w1.setCell ⟨q, 1, none⟩ (.slice a ms.length c)) M' q ms := by
  obtain ⟨⟨v, hb, _⟩, _, _⟩ := h
  refine ⟨⟨_, set_five hb _, hv.keep (S := [q]) set_keep (by simpa using hm)⟩, hm, hf⟩
def LosePost (w : World) (M : List Nat) (q : Nat) (rs ms : List Rk) (e : Ending) (w' : World) : Prop :=
  e = .returned (.int .i64 ((rs.length : Int) - (ms.length : Int))) ∧ TokAt w' M q ms ∧ Keeps [q] w w'
set_option maxHeartbeats 6400000 in
theorem lose_any {w0 : World} {f : Nat} {bs cb : Array Value} {p : Rk → Bool} (C : Cb w0 f bs cb p) (kw : Keeps [] w0 w) (h : TokAt w M q rs) (hM : ∀ b ∈ M, b < w.heap.size) :
    Calls Try.prog 73 #[.pointer (some ⟨q, 0, none⟩), .func (.func f) bs cb] w (LosePost w M q rs (rs.filter (keepK p))) := by
  have HA := hid h
  have HF := hid h.few
  obtain ⟨a, cp, c0, c1, hv⟩ := HA.out.cells
  have HV := hid hv
  have HM := hid hM
  have HC := hid C
  have KW := hid kw
  have HMQ := hid h.mem
  have HLF0 := List.length_filter_le (keepK p) rs
  obtain ⟨ms, hms⟩ : ∃ z, z = rs.filter (keepK p) := ⟨_, rfl⟩
  have HMS := hid hms
  rw [← hms] at HLF0 ⊢
  have HLF := hid HLF0
  have D1 := hid c1
  have F1 : w.frozen? ⟨q, 1, none⟩ = false := by
    obtain ⟨⟨v, hb, _⟩, _, _⟩ := h
    simp [World.frozen?, hb]
  clear h hv c0 hM C kw HLF0 hms
  go_enter Try.func73, Try.ntmps73
  go_wp2_with fail
  refine (slClone_any w M M HM.out a rs.length cp rs HV.out (by have := HF.out; omega)).mono ?_
  rintro e w2 ⟨a2, c2, rfl, o2, k2⟩
  have O2 := hid o2
  have K2 := hid k2
  clear o2 k2 c1 F1
  go_wp2_with fail
  refine (delF_any HC.out w2 M w.heap.size _ rs O2.out (by have := HF.out; omega) (KW.out.trans K2.out) KW.out.size).mono ?_
  rintro e w3 ⟨a3, c3, rfl, o3, k3⟩
  rw [← HMS.out] at o3 ⊢
  have O3 := hid o3
  have k13 : Keeps [] w w3 := K2.out.trans' k3 (S := []) (fun i hi hm => by
    have := (O2.out.blk i (by simpa using hm)).1
    omega)
  have K3 := hid k13
  have A3 := HA.out.later k13
  have T3 := hid (A3.set O3.out.at HMQ.out (by have := HLF.out; have := HF.out; omega))
  have K4 := hid ((k13.mono (S' := [q]) (by simp)).trans (set_keep (b := q) (i := 1) (u := .slice a3 ms.length c3)))
  have fr3 : w3.frozen? ⟨q, 1, none⟩ = false := by
    obtain ⟨⟨v, hb, _⟩, _, _⟩ := A3
    simp [World.frozen?, hb]
  have d3 := k13.cell' D1.out (by simp)
  have d4 : (w3.setCell ⟨q, 1, none⟩ (.slice a3 ms.length c3)).cell? ⟨q, 1, none⟩ = some (.slice a3 ms.length c3) := by
    obtain ⟨⟨v, hb, _⟩, _, _⟩ := A3
    exact (blk_cells2 (set_five hb _)).2
  have hle := HLF.out
  have hfw := HF.out
  clear o3 k3 k13 A3
  go_wp2_with fail
  go_ret
  exact ⟨by rfl, T3.out, K4.out⟩
def closeE (rs : List Rk) (c h : Int) : Int := if rs.any (atK c h) then 0 else 13
def ClosePost (w : World) (M : List Nat) (q : Nat) (ms : List Rk) (x : Int) (e : Ending) (w' : World) : Prop :=
  e = .returned (.int .i64 x) ∧ TokAt w' M q ms ∧ Keeps [q] w w'
theorem filter_lenK (p : Rk → Bool) (rs : List Rk) : (((rs.length : Int) - ((rs.filter (keepK p)).length : Int)) == 0) = !rs.any p := by
  have h := List.length_filter_le (keepK p) rs
  cases ha : rs.any p with
  | false =>
    have : rs.filter (keepK p) = rs := filterK_none (fun x hx => by
      cases hp : p x with
      | false => rfl
      | true => rw [List.any_eq_true.2 ⟨x, hx, hp⟩] at ha; cases ha)
    rw [this]; simp
  | true =>
    obtain ⟨x, hx, hp⟩ := List.any_eq_true.1 ha
    have : (rs.filter (keepK p)).length < rs.length := by
      refine Nat.lt_of_le_of_ne h fun e => ?_
      have := List.length_filter_eq_length_iff.1 e x hx
      simp [keepK, hp] at this
    simp; omega
set_option maxHeartbeats 3200000 in
theorem close_any (h : TokAt w M q rs) (hM : ∀ b ∈ M, b < w.heap.size) (c hh : Int) :
    Calls Try.prog 21 #[.pointer (some ⟨q, 0, none⟩), .int .i64 c, .int .i64 hh] w (ClosePost w M q (rs.filter (keepK (atK c hh))) (closeE rs c hh)) := by
  have HA := hid h
  have HM := hid hM
  have E := filter_lenK (atK c hh) rs
  obtain ⟨ms, hms⟩ : ∃ z, z = rs.filter (keepK (atK c hh)) := ⟨_, rfl⟩
  have HMS := hid hms
  rw [← hms] at E ⊢
  obtain ⟨bb, hb⟩ : ∃ b, b = rs.any (atK c hh) := ⟨_, rfl⟩
  have CE : Hid (closeE rs c hh = if bb then 0 else 13) := hid (by unfold closeE; rw [hb])
  rw [← hb] at E
  clear h hM hms hb
  go_enter Try.func21, Try.ntmps21
  go_wp2_with fail
  refine (tkMade_any HA.out).mono ?_
  rintro e _ ⟨rfl, rfl⟩
  go_wp2_with fail
  refine (place_any w c hh).mono ?_
  rintro e w1 ⟨rfl, k1⟩
  have K1 := hid k1
  clear k1
  go_wp2_with fail
  refine (lose_any (cb_place w1 c hh) (Keeps.refl _ _) (HA.out.later K1.out) (fun b hb => Nat.lt_of_lt_of_le (HM.out b hb) K1.out.size)).mono ?_
  rintro e w2 ⟨rfl, t2, k2⟩
  rw [← HMS.out] at t2 ⊢
  have T2 := hid t2
  have K2 := hid ((K1.out.mono (S' := [q]) (by simp)).trans k2)
  clear t2 k2
  cases bb with
  | true =>
    have hE : (((rs.length : Int) - (ms.length : Int)) == 0) = false := E
    clear E
    go_wp2_with fail
    go_ret
    exact ⟨by rw [CE.out]; rfl, T2.out, K2.out⟩
  | false =>
    have hE : (((rs.length : Int) - (ms.length : Int)) == 0) = true := E
    clear E
    go_wp2_with fail
    go_ret
    exact ⟨by rw [CE.out]; rfl, T2.out, K2.out⟩
set_option maxHeartbeats 3200000 in
theorem drop_any (h : TokAt w M q rs) (hM : ∀ b ∈ M, b < w.heap.size) (c : Int) :
    Calls Try.prog 23 #[.pointer (some ⟨q, 0, none⟩), .int .i64 c] w (LosePost w M q rs (rs.filter (keepK (sameCl c)))) := by
  have ka : Keeps [] w (w.alloc (.cells #[.int .i64 c] 3)) := (Keeps.refl [] w).alloc _
  have HA := hid (h.later ka)
  have HM := hid (fun b hb => Nat.lt_of_lt_of_le (hM b hb) ka.size)
  have K1 := hid ka
  have CB := hid (cb_drop (w.alloc (.cells #[.int .i64 c] 3)) w.heap.size c (by rw [cell_of_row _ _ _ _ _ _ (heap_alloc_new w _)]; rfl))
  obtain ⟨ms, hms⟩ : ∃ z, z = rs.filter (keepK (sameCl c)) := ⟨_, rfl⟩
  have HMS := hid hms
  rw [← hms]
  clear h hM ka hms
  go_enter Try.func23, Try.ntmps23
  go_wp2_with (first | (go_at_call 67; refine (tkMade_any HA.out).mono ?_; rintro e _ ⟨rfl, rfl⟩) | (go_at_call 73; refine Hid.out ?_) | fail)
  refine hid ?_
  refine (lose_any CB.out (Keeps.refl _ _) HA.out HM.out).mono ?_
  rintro e w2 ⟨rfl, t2, k2⟩
  rw [← HMS.out] at t2 ⊢
  have T2 := hid t2
  have K2 := hid ((K1.out.mono (S' := [q]) (by simp)).trans k2)
  clear t2 k2
  go_wp2_with fail
  go_ret
  exact ⟨rfl, T2.out, K2.out⟩

/-- The least handle that a client has not. -/
def leastK (rs : List Rk) (c : Int) : Option Nat := (List.range 4).find? fun k => !rs.any (atK c (k : Int))
theorem leastK_some {rs : List Rk} {c : Int} {k : Nat} (hk : k < 4) (h : rs.any (atK c (k : Int)) = false) (hno : ∀ j, j < k → rs.any (atK c (j : Int)) = true) : leastK rs c = some k := by
  unfold leastK
  rw [List.find?_eq_some_iff_getElem]
  refine ⟨by rw [h]; rfl, k, by simpa using hk, by simp, fun j hj => by simp [hno j hj]⟩
theorem leastK_none {rs : List Rk} {c : Int} (hno : ∀ j : Nat, j < 4 → rs.any (atK c (j : Int)) = true) : leastK rs c = none := by
  unfold leastK
  rw [List.find?_eq_none]
  intro x hx
  rw [hno x (List.mem_range.1 hx)]
  simp
def LeastPost (w : World) (o : Option Nat) (e : Ending) (w' : World) : Prop :=
  e = .returned (.tuple #[.int .i64 (((o.getD 0 : Nat) : Int)), .bool o.isSome]) ∧ Keeps [] w w'
set_option maxHeartbeats 3200000 in
theorem least_any (h : TokAt w M q rs) (c : Int) : Calls Try.prog 69 #[.pointer (some ⟨q, 0, none⟩), .int .i64 c] w (LeastPost w (leastK rs c)) := by
  have HA := hid h
  obtain ⟨o, ho⟩ : ∃ z, z = leastK rs c := ⟨_, rfl⟩
  have HO := hid ho
  rw [← ho]
  clear h ho
  go_enter Try.func69, Try.ntmps69
  go_wp2_with fail
  go_loopw [6, 7, 8, 9] (fun _ _ _ iv wr => ∃ k : Nat, iv = .int .i64 (k : Int) ∧ k ≤ 4 ∧ Hid (∀ j, j < k → rs.any (atK c (j : Int)) = true) ∧ Hid (Keeps [] w wr)) (fun _ _ _ iv _ => 4 - (intOf iv).toNat)
  case atStart => exact ⟨0, rfl, by omega, hid (fun j h => absurd h (Nat.not_lt_zero _)), hid (Keeps.refl _ _)⟩
  case round =>
    obtain ⟨k, rfl, hk, HAL, HK⟩ := hrel
    by_cases hlt : k < 4
    · have hlt' : (k : Int) < 4 := by omega
      go_wp2_with fail
      refine (of_any (HA.out.later HK.out) c (k : Int)).mono ?_
      rintro e w2 ⟨rfl, k2⟩
      have K2 := hid (HK.out.trans k2)
      clear k2
      obtain ⟨bb, hb⟩ : ∃ b, b = rs.any (atK c (k : Int)) := ⟨_, rfl⟩
      have HB := hid hb
      rw [← hb]
      clear hb
      obtain ⟨y, hy⟩ : ∃ y, y = ofR rs c (k : Int) := ⟨_, rfl⟩
      rw [← hy]
      clear hy
      have KA := hid (K2.out.alloc (.cells y.cells.toArray 59))
      cases bb with
      | false =>
        go_wp2_with (first | (refine wpList_allocRk cRk rfl rfl ?_) | (refine wpList_newRk cRk rfl w2 _ _ rfl rfl rfl y rfl ?_) | fail)
        go_ret2
        have : o = some k := HO.out.trans (leastK_some hlt HB.out.symm HAL.out)
        exact ⟨by rw [this]; rfl, KA.out⟩
      | true =>
        go_wp2_with (first | (refine wpList_allocRk cRk rfl rfl ?_) | (refine wpList_newRk cRk rfl w2 _ _ rfl rfl rfl y rfl ?_) | fail)
        go_roundw
        case rel =>
          refine ⟨k + 1, by go_num, by omega, hid fun j hj => ?_, KA⟩
          by_cases e : j = k
          · subst e; exact HB.out.symm
          · exact HAL.out j (by omega)
        case measure => simp [intOf]; omega
    · obtain rfl : k = 4 := by omega
      go_wp2_with fail
      go_ret2
      have : o = none := HO.out.trans (leastK_none HAL.out)
      exact ⟨by rw [this]; rfl, HK.out⟩
end
end Go.Proofs.Ytjohikekhgcepaa
