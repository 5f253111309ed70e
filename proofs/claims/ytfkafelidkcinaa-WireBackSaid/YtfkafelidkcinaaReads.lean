/- Any bytes, read in whatever way (the law WireReads): the walk. -/
import Derived.Test.YtfkafelidkcinaaRefG
import Derived.Test.YtfkafelidkcinaaWrites
import Derived.Deep.QuietTactic
import Derived.BigQuiet
namespace Go.Proofs.Ytfkafelidkcinaa
open Go.RowKit

theorem quiet_l {P : Program} {f : FuncId} {args : Array Value} {w : World} {n : Nat} {v : Value}
    (h : Calls P f args (w.drewN n) fun e w' => e = .returned v ∧ w.drewN n = w') : Calls P f args (w.drewN n) fun e w'' => e = .returned v ∧ ∃ m, w'' = w.drewN m :=
  h.mono fun _ _ ⟨he, hm⟩ => ⟨he, n, hm.symm⟩

/-- Both eyes, made since w. -/
structure Both (w w' : World) (p q : Nat) (v u : Value) (s r : List Int × Int) : Prop where
  eye : EyeAt w' w.heap.size p v s.1 s.2
  ref : REyeAt w' w.heap.size q u r.1 r.2
  kept : Keeps [] w w'
  pq : p ≠ q
  vq : Off [q] v s.1

theorem Both.keep {w w2 w3 : World} {p q : Nat} {v u : Value} {s r : List Int × Int} (h : Both w w2 p q v u s r) (k : Keeps [] w2 w3) : Both w w3 p q v u s r :=
  ⟨h.eye.keep k (by simp) (by intro _ _ _ _ _; simp), h.ref.keep k (by simp) (by simp), h.kept.trans k, h.pq, h.vq⟩

theorem Both.stepE {α : Type} {w w2 w3 : World} {p q : Nat} {v u : Value} {s r : List Int × Int} {st : Option α × List Int × Int} {zero : Value} {ret : α → World → Ending → Prop} {e : Ending} (h : Both w w2 p q v u s r)
    (hp : EyePost w2 w.heap.size p v st zero ret e w3) (hz : st.2.1 ≠ [] → s.1 ≠ []) : (∃ v', Both w w3 p q v' u st.2 r) ∧ match st.1 with
    | none => e = .returned zero
    | some x => ret x w3 e := by
  obtain ⟨⟨v', q1, q2⟩, q3, q4⟩ := hp
  exact ⟨⟨v', q1, h.ref.keep q3 (by simp; exact fun e => h.pq e.symm) (by intro k hk; simp at hk; rw [hk]; exact h.eye.lo), h.kept.trans' q3 (fun i hi hm => by have := h.eye.lo; simp at hm; omega), h.pq, h.vq.same q2 hz⟩, q4⟩

theorem Both.stepR {α : Type} {w w2 w3 : World} {p q : Nat} {v u : Value} {s r : List Int × Int} {st : Option α × List Int × Int} {zero : Value} {ret : α → World → Ending → Prop} {e : Ending} (h : Both w w2 p q v u s r)
    (hp : REyePost w2 w.heap.size q st zero ret e w3) : (∃ u', Both w w3 p q v u' s st.2) ∧ match st.1 with
    | none => e = .returned zero
    | some x => ret x w3 e := by
  obtain ⟨⟨u', q1⟩, q3, q4⟩ := hp
  exact ⟨⟨u', h.eye.keep q3 (by simp; exact h.pq) h.vq, q1, h.kept.trans' q3 (fun i hi hm => by have := h.ref.lo; simp at hm; omega), h.pq, h.vq⟩, q4⟩

theorem after_rest {α : Type} {zs : List Int} {bad : Int} {r : Except Int (α × List Int)} (h : ∀ x rest, r = .ok (x, rest) → rest.length ≤ zs.length) : (after zs bad r).2.1 ≠ [] → zs ≠ [] := by
  intro hne e
  subst e
  apply hne
  unfold after
  split
  · rfl
  · cases r with
    | error e => rfl
    | ok p =>
      obtain ⟨x, rest⟩ := p
      exact List.eq_nil_of_length_eq_zero (by have := h x rest rfl; simpa using this)

theorem rest_num (zs : List Int) (bad n : Int) : (after zs bad (rdNum n zs)).2.1 ≠ [] → zs ≠ [] :=
  after_rest fun x rest h => by
    unfold rdNum at h
    repeat (split at h; · cases h)
    injection h with h
    injection h with _ h
    rw [← h, List.length_drop]
    omega

theorem rest_count (zs : List Int) (bad n : Int) : (after zs bad (rdCount n zs)).2.1 ≠ [] → zs ≠ [] :=
  after_rest fun _ _ h => (rdCount_le h).2

theorem rest_bool (zs : List Int) (bad : Int) : (after zs bad (rdBool zs)).2.1 ≠ [] → zs ≠ [] :=
  after_rest fun x rest h => by
    unfold rdBool at h
    repeat (split at h; · cases h)
    injection h with h
    injection h with _ h
    rw [← h, List.length_drop]
    omega

theorem read_le {most : Int} {zs : List Int} {bad : Int} {x : List Int} {y : List Int × Int} (h : after zs bad (rdCount most zs) = (some x, y)) : x.length ≤ zs.length := by
  unfold after at h
  split at h
  · cases h
  · cases hr : rdCount most zs with
    | error e => rw [hr] at h; cases h
    | ok p =>
      obtain ⟨a, b⟩ := p
      rw [hr] at h
      simp only [Prod.mk.injEq, Option.some.injEq] at h
      rw [← h.1]
      exact (rdCount_le hr).1

set_option maxRecDepth 100000 in
set_option maxHeartbeats 6400000 in
theorem reads_any (w : World) (u v : Value) (bs : List Int) (ds : List Dd) (hu : RowAt w u bs) (hd : DeedsAt w v ds) :
    Calls Try.prog 5 #[u, v] w fun e w' => e = .returned (.bool true) ∧ Keeps [] w w' := by
  have U := hid hu
  have D := hid hd
  obtain ⟨ua, uc, rfl, z⟩ := hu
  clear z
  obtain ⟨va, vc, rfl, vl, vb, v0, z⟩ := hd
  have Z := hid z
  clear z vb v0
  go_enter Try.func5, Try.ntmps5
  go_wp2_with fail
  refine (awake_any w).mono ?_
  rintro e w1 ⟨rfl, q1⟩
  have K1 := hid q1
  clear q1
  by_cases hl : bs.length > 2000
  · have hl' : (2000 : Int) < bs.length := by omega
    go_wp2_with fail
    go_ret
    exact ⟨rfl, K1.out⟩
  · have hl' : decide ((2000 : Int) < bs.length) = false := by simp; omega
    go_wp2_with fail
    refine (room_any w1 _ ds (D.out.keep K1.out)).mono ?_
    rintro e w2 ⟨b, rfl, rfl, hroom⟩
    cases b with
    | false =>
      clear hroom
      go_wp2_with fail
      go_ret
      exact ⟨rfl, K1.out⟩
    | true =>
      have hl100 := (hroom rfl).1
      clear hroom
      go_wp2_with fail
      refine (newEye_any _ w.heap.size _ bs (U.out.keep K1.out (by intro _ _ _ _ _; simp)) K1.out.size (by omega)).mono ?_
      rintro e w3 ⟨p, v3, rfl, q1, q2, q3, q4⟩
      have B4 : Hid (Both w (w3.alloc (.cells #[.slice ua bs.length uc, .int .i64 0] 47)) p w3.heap.size v3 (.slice ua bs.length uc) (bs, 0) (bs, 0)) := by
        have k : Keeps [] w3 (w3.alloc (.cells #[.slice ua bs.length uc, .int .i64 0] 47)) := (Keeps.refl [] _).alloc _
        have k2 : Keeps [] w (w3.alloc (.cells #[.slice ua bs.length uc, .int .i64 0] 47)) := (K1.out.trans q3).trans k
        refine ⟨q2.keep k (by simp) (by intro _ _ _ _ _; simp), ⟨heap_alloc_new _ _, U.out.keep k2 (by intro _ _ _ _ _; simp), fun S hS => off_old U.out hS, (K1.out.trans q3).size, by show bs.length ≤ _; omega⟩, k2, ?_, ?_⟩
        · have := q2.lt; omega
        · exact off_old q2.row (by simp)
      clear q1 q2 q3 q4
      go_wp2_with fail
      go_loopw [7] (fun i wr => ∃ (k : Nat) (v u : Value) (s : List Int × Int), k ≤ ds.length ∧ i = .int .i64 k ∧ Both w wr p w3.heap.size v u s s) (fun i _ => ds.length - (intOf i).toNat)
      case atStart => exact ⟨0, _, _, _, by omega, rfl, B4.out⟩
      case round =>
        obtain ⟨k, v4, u4, s, hk, rfl, q1⟩ := hrel
        have T := hid q1
        clear q1
        by_cases hlt : k < ds.length
        · obtain ⟨g, off, rfl, hd⟩ := Z.out (by intro e; rw [e] at hlt; simp at hlt)
          have DA0 := hid (hd k hlt)
          clear hd
          generalize hdk : ds[k] = d at *
          clear hdk
          obtain ⟨ra, rc, hrow, z⟩ := DA0.out.row
          clear z
          have DK := DA0.out.keep T.out.kept
          have c0 := DK.c0
          have c1 := DK.c1
          have c2 := DK.c2
          have c3 := DK.c3
          rw [hrow] at c3
          have T1 := hid (T.out.keep ((Keeps.refl [] wr).alloc (.cells #[.int .i64 d.act, .int .i64 d.x, .int .i64 d.n, .slice ra d.bs.length rc] 49)))
          have X1 := hid (heap_alloc_new wr (.cells #[.int .i64 d.act, .int .i64 d.x, .int .i64 d.n, .slice ra d.bs.length rc] 49))
          have hpl : p < wr.heap.size := T.out.eye.lt
          have HPL := hid hpl
          clear DK hrow hpl
          generalize hbx : Obj.cells #[Value.int .i64 d.act, .int .i64 d.x, .int .i64 d.n, .slice ra d.bs.length rc] 49 = bx at T1 X1
          have HBX := hid hbx
          clear hbx T
          by_cases h1 : d.act ≤ 1
          · go_wp2_with fail
            rw [HBX.out]
            refine (eyeNum_any _ w.heap.size p v4 s.1 s.2 d.n T1.out.eye).mono ?_
            intro e w5 hq
            have hk := hq.2.1
            have X2 : w5.heap[wr.heap.size]? = some bx := by
              rw [hk.block wr.heap.size (by rw [World.size_alloc]; omega) (by simp; have := HPL.out; omega)]
              exact X1.out
            obtain ⟨⟨v5, q1⟩, q2⟩ := T1.out.stepE hq (rest_num _ _ _)
            have T2 := hid q1
            rw [← HBX.out] at X2
            have y2 : w5.cell? ⟨wr.heap.size, 2, none⟩ = some (.int .i64 d.n) := by simp [World.cell?, X2]
            clear X2 hk hq q1
            generalize hst : after s.1 s.2 (rdNum d.n s.1) = st at *
            have HST := hid hst
            clear hst
            obtain ⟨o, s2⟩ := st
            cases o with
            | none =>
              obtain rfl := q2
              go_wp2_with fail
              refine (renum_any _ w.heap.size w3.heap.size u4 s.1 s.2 d.n T2.out.ref).mono ?_
              intro e w6 hq
              rw [HST.out] at hq
              obtain ⟨⟨u6, q1⟩, q2⟩ := T2.out.stepR hq
              obtain rfl := q2
              have T3 := hid q1
              clear q1 hq y2
              go_wp2_with fail
              have FE := hid (fun n => (T3.out.keep ((Keeps.refl [] w6).drewN n)).eye)
              have FR := hid (fun n => (T3.out.keep ((Keeps.refl [] w6).drewN n)).ref)
              have m0 := T3.out.ref.cell0
              have m1 := T3.out.ref.cell1
              obtain ⟨ma, mc, hmv, z⟩ := T3.out.ref.row
              rw [hmv] at m0
              clear z hmv
              go_quiet ((first | (go_at_call 16; exact quiet_l (fail_any _ w.heap.size p _ _ _ (FE.out _))) | (go_at_call 17; exact quiet_l (left_any _ w.heap.size p _ _ _ (FE.out _))) | (go_at_call 27; exact quiet_l (end_any _ w.heap.size p _ _ _ (FE.out _))) | (go_at_call 28; exact quiet_l (reend_any _ w.heap.size w3.heap.size _ _ _ (FR.out _)))))
              go_wp2_with fail
              go_roundw
              case rel => exact ⟨k + 1, _, _, _, by omega, by go_num, T3.out.keep ((Keeps.refl [] w6).drewN _)⟩
              case measure => simp [intOf]; omega
            | some x =>
              obtain rfl := q2
              go_wp2_with fail
              refine (renum_any _ w.heap.size w3.heap.size u4 s.1 s.2 d.n T2.out.ref).mono ?_
              intro e w6 hq
              rw [HST.out] at hq
              obtain ⟨⟨u6, q1⟩, q2⟩ := T2.out.stepR hq
              obtain rfl := q2
              have T3 := hid q1
              clear q1 hq y2
              go_wp2_with fail
              have FE := hid (fun n => (T3.out.keep ((Keeps.refl [] w6).drewN n)).eye)
              have FR := hid (fun n => (T3.out.keep ((Keeps.refl [] w6).drewN n)).ref)
              have m0 := T3.out.ref.cell0
              have m1 := T3.out.ref.cell1
              obtain ⟨ma, mc, hmv, z⟩ := T3.out.ref.row
              rw [hmv] at m0
              clear z hmv
              go_quiet ((first | (go_at_call 16; exact quiet_l (fail_any _ w.heap.size p _ _ _ (FE.out _))) | (go_at_call 17; exact quiet_l (left_any _ w.heap.size p _ _ _ (FE.out _))) | (go_at_call 27; exact quiet_l (end_any _ w.heap.size p _ _ _ (FE.out _))) | (go_at_call 28; exact quiet_l (reend_any _ w.heap.size w3.heap.size _ _ _ (FR.out _)))))
              go_wp2_with fail
              go_roundw
              case rel => exact ⟨k + 1, _, _, _, by omega, by go_num, T3.out.keep ((Keeps.refl [] w6).drewN _)⟩
              case measure => simp [intOf]; omega
          · have h1' : decide (d.act ≤ 1) = false := by simp; omega
            by_cases h2 : d.act = 2
            · have h2' : (d.act == 2) = true := by simpa using h2
              have WRS := hid (T1.out.ref.lt)
              clear h1 h2
              go_wp2_with fail
              rw [HBX.out]
              refine (eyeRaw_any _ w.heap.size p v4 s.1 s.2 d.x T1.out.eye).mono ?_
              intro e w5 hq
              have hk := hq.2.1
              have X2 : w5.heap[wr.heap.size]? = some bx := by
                rw [hk.block wr.heap.size (by rw [World.size_alloc]; omega) (by simp; have := HPL.out; omega)]
                exact X1.out
              obtain ⟨⟨v5, q1⟩, q2⟩ := T1.out.stepE hq (rest_count _ _ _)
              have T2 := hid q1
              rw [← HBX.out] at X2
              have y1 : w5.cell? ⟨wr.heap.size, 1, none⟩ = some (.int .i64 d.x) := by simp [World.cell?, X2]
              clear X2 hk hq q1
              have hfit := T1.out.eye.fits
              generalize hst : after s.1 s.2 (rdCount d.x s.1) = st at *
              have HST := hid hst
              clear hst
              obtain ⟨o, s2⟩ := st
              cases o with
              | none =>
                obtain rfl := q2
                go_wp2_with fail
                refine (reraw_any _ w.heap.size w3.heap.size u4 s.1 s.2 d.x T2.out.ref).mono ?_
                intro e w6 hq
                rw [HST.out] at hq
                obtain ⟨⟨u6, q1⟩, q2⟩ := T2.out.stepR hq
                obtain rfl := q2
                have T3 := hid q1
                clear q1 hq y1
                go_wp2_with fail
                refine (same_any _ _ _ [] [] (RowAt.nil _) (RowAt.nil _) (by simp) (by simp)).mono ?_
                rintro e w7 ⟨rfl, n7, rfl⟩
                have T4 := hid (T3.out.keep ((Keeps.refl [] w6).drewN n7))
                generalize w6.drewN n7 = w8 at *
                rw [show decide (([] : List Int) = []) = true from rfl]
                go_wp2_with fail
                have FE := hid (fun n => (T4.out.keep ((Keeps.refl [] w8).drewN n)).eye)
                have FR := hid (fun n => (T4.out.keep ((Keeps.refl [] w8).drewN n)).ref)
                have m0 := T4.out.ref.cell0
                have m1 := T4.out.ref.cell1
                obtain ⟨ma, mc, hmv, z⟩ := T4.out.ref.row
                rw [hmv] at m0
                clear z hmv
                go_quiet ((first | (go_at_call 16; exact quiet_l (fail_any _ w.heap.size p _ _ _ (FE.out _))) | (go_at_call 17; exact quiet_l (left_any _ w.heap.size p _ _ _ (FE.out _))) | (go_at_call 27; exact quiet_l (end_any _ w.heap.size p _ _ _ (FE.out _))) | (go_at_call 28; exact quiet_l (reend_any _ w.heap.size w3.heap.size _ _ _ (FR.out _)))))
                go_wp2_with fail
                go_roundw
                case rel => exact ⟨k + 1, _, _, _, by omega, by go_num, T4.out.keep ((Keeps.refl [] w8).drewN _)⟩
                case measure => simp [intOf]; omega
              | some x =>
                obtain ⟨a5, c5, rfl, r5, n5⟩ := q2
                have R5 := hid r5
                have N5 := hid n5
                have HXL := hid (Nat.le_trans (read_le HST.out) hfit)
                clear r5 n5
                go_wp2_with fail
                refine (reraw_any _ w.heap.size w3.heap.size u4 s.1 s.2 d.x T2.out.ref).mono ?_
                intro e w6 hq
                rw [HST.out] at hq
                have hk := hq.2.1
                obtain ⟨⟨u6, q1⟩, q2⟩ := T2.out.stepR hq
                obtain ⟨a6, c6, rfl, r6, n6⟩ := q2
                have R6 := hid r6
                have R5' := hid (R5.out.keep hk (by
                  intro ad n' c' e _ hm
                  injection e with e1 _ _
                  have h1 := N5.out ad e1
                  have h3 := WRS.out
                  simp at hm
                  omega))
                have T3 := hid q1
                clear q1 hq hk y1 r6 n6
                go_wp2_with fail
                refine (same_any _ _ _ x x R5'.out R6.out HXL.out HXL.out).mono ?_
                rintro e w7 ⟨rfl, n7, rfl⟩
                have T4 := hid (T3.out.keep ((Keeps.refl [] w6).drewN n7))
                generalize w6.drewN n7 = w8 at *
                rw [show decide (x = x) = true by simp]
                go_wp2_with fail
                have FE := hid (fun n => (T4.out.keep ((Keeps.refl [] w8).drewN n)).eye)
                have FR := hid (fun n => (T4.out.keep ((Keeps.refl [] w8).drewN n)).ref)
                have m0 := T4.out.ref.cell0
                have m1 := T4.out.ref.cell1
                obtain ⟨ma, mc, hmv, z⟩ := T4.out.ref.row
                rw [hmv] at m0
                clear z hmv
                go_quiet ((first | (go_at_call 16; exact quiet_l (fail_any _ w.heap.size p _ _ _ (FE.out _))) | (go_at_call 17; exact quiet_l (left_any _ w.heap.size p _ _ _ (FE.out _))) | (go_at_call 27; exact quiet_l (end_any _ w.heap.size p _ _ _ (FE.out _))) | (go_at_call 28; exact quiet_l (reend_any _ w.heap.size w3.heap.size _ _ _ (FR.out _)))))
                go_wp2_with fail
                go_roundw
                case rel => exact ⟨k + 1, _, _, _, by omega, by go_num, T4.out.keep ((Keeps.refl [] w8).drewN _)⟩
                case measure => simp [intOf]; omega
            · have h2' : (d.act == 2) = false := by simpa using h2
              by_cases h3 : d.act = 3
              · have h3' : (d.act == 3) = true := by simpa using h3
                clear h1 h2 h3
                go_wp2_with fail
                rw [HBX.out]
                refine (eyeText_any _ w.heap.size p v4 s.1 s.2 d.x T1.out.eye).mono ?_
                intro e w5 hq
                have hk := hq.2.1
                have X2 : w5.heap[wr.heap.size]? = some bx := by
                  rw [hk.block wr.heap.size (by rw [World.size_alloc]; omega) (by simp; have := HPL.out; omega)]
                  exact X1.out
                obtain ⟨⟨v5, q1⟩, q2⟩ := T1.out.stepE hq (rest_count _ _ _)
                have T2 := hid q1
                rw [← HBX.out] at X2
                have y1 : w5.cell? ⟨wr.heap.size, 1, none⟩ = some (.int .i64 d.x) := by simp [World.cell?, X2]
                clear X2 hk hq q1
                generalize hst : after s.1 s.2 (rdCount d.x s.1) = st at *
                have HST := hid hst
                clear hst
                obtain ⟨o, s2⟩ := st
                cases o with
                | none =>
                  obtain rfl := q2
                  go_wp2_with fail
                  refine (reraw_any _ w.heap.size w3.heap.size u4 s.1 s.2 d.x T2.out.ref).mono ?_
                  intro e w6 hq
                  rw [HST.out] at hq
                  obtain ⟨⟨u6, q1⟩, q2⟩ := T2.out.stepR hq
                  obtain rfl := q2
                  have T3 := hid q1
                  have cv := conv_row (RowAt.nil w6)
                  rw [show strOfNums [] = (⟨#[]⟩ : ByteArray) from rfl] at cv
                  clear q1 hq y1
                  go_wp2_with fail
                  clear cv
                  have FE := hid (fun n => (T3.out.keep ((Keeps.refl [] w6).drewN n)).eye)
                  have FR := hid (fun n => (T3.out.keep ((Keeps.refl [] w6).drewN n)).ref)
                  have m0 := T3.out.ref.cell0
                  have m1 := T3.out.ref.cell1
                  obtain ⟨ma, mc, hmv, z⟩ := T3.out.ref.row
                  rw [hmv] at m0
                  clear z hmv
                  go_quiet ((first | (go_at_call 16; exact quiet_l (fail_any _ w.heap.size p _ _ _ (FE.out _))) | (go_at_call 17; exact quiet_l (left_any _ w.heap.size p _ _ _ (FE.out _))) | (go_at_call 27; exact quiet_l (end_any _ w.heap.size p _ _ _ (FE.out _))) | (go_at_call 28; exact quiet_l (reend_any _ w.heap.size w3.heap.size _ _ _ (FR.out _)))))
                  go_wp2_with fail
                  go_roundw
                  case rel => exact ⟨k + 1, _, _, _, by omega, by go_num, T3.out.keep ((Keeps.refl [] w6).drewN _)⟩
                  case measure => simp [intOf]; omega
                | some x =>
                  obtain rfl := q2
                  go_wp2_with fail
                  refine (reraw_any _ w.heap.size w3.heap.size u4 s.1 s.2 d.x T2.out.ref).mono ?_
                  intro e w6 hq
                  rw [HST.out] at hq
                  obtain ⟨⟨u6, q1⟩, q2⟩ := T2.out.stepR hq
                  obtain ⟨a6, c6, rfl, r6, n6⟩ := q2
                  have cv := conv_row r6
                  generalize strOfNums x = sx at *
                  have T3 := hid q1
                  clear q1 hq y1 r6 n6
                  go_wp2_with fail
                  clear cv
                  have FE := hid (fun n => (T3.out.keep ((Keeps.refl [] w6).drewN n)).eye)
                  have FR := hid (fun n => (T3.out.keep ((Keeps.refl [] w6).drewN n)).ref)
                  have m0 := T3.out.ref.cell0
                  have m1 := T3.out.ref.cell1
                  obtain ⟨ma, mc, hmv, z⟩ := T3.out.ref.row
                  rw [hmv] at m0
                  clear z hmv
                  go_quiet ((first | (go_at_call 16; exact quiet_l (fail_any _ w.heap.size p _ _ _ (FE.out _))) | (go_at_call 17; exact quiet_l (left_any _ w.heap.size p _ _ _ (FE.out _))) | (go_at_call 27; exact quiet_l (end_any _ w.heap.size p _ _ _ (FE.out _))) | (go_at_call 28; exact quiet_l (reend_any _ w.heap.size w3.heap.size _ _ _ (FR.out _)))))
                  go_wp2_with fail
                  go_roundw
                  case rel => exact ⟨k + 1, _, _, _, by omega, by go_num, T3.out.keep ((Keeps.refl [] w6).drewN _)⟩
                  case measure => simp [intOf]; omega
              · have h3' : (d.act == 3) = false := by simpa using h3
                clear h1 h2 h3
                go_wp2_with fail
                rw [HBX.out]
                refine (eyeBool_any _ w.heap.size p v4 s.1 s.2 T1.out.eye).mono ?_
                intro e w5 hq
                obtain ⟨⟨v5, q1⟩, q2⟩ := T1.out.stepE hq (rest_bool _ _)
                have T2 := hid q1
                clear hq q1
                generalize hst : after s.1 s.2 (rdBool s.1) = st at *
                have HST := hid hst
                clear hst
                obtain ⟨o, s2⟩ := st
                cases o with
                | none =>
                  obtain rfl := q2
                  go_wp2_with fail
                  refine (rebool_any _ w.heap.size w3.heap.size u4 s.1 s.2 T2.out.ref).mono ?_
                  intro e w6 hq
                  rw [HST.out] at hq
                  obtain ⟨⟨u6, q1⟩, q2⟩ := T2.out.stepR hq
                  obtain rfl := q2
                  have T3 := hid q1
                  clear q1 hq
                  go_wp2_with fail
                  have FE := hid (fun n => (T3.out.keep ((Keeps.refl [] w6).drewN n)).eye)
                  have FR := hid (fun n => (T3.out.keep ((Keeps.refl [] w6).drewN n)).ref)
                  have m0 := T3.out.ref.cell0
                  have m1 := T3.out.ref.cell1
                  obtain ⟨ma, mc, hmv, z⟩ := T3.out.ref.row
                  rw [hmv] at m0
                  clear z hmv
                  go_quiet ((first | (go_at_call 16; exact quiet_l (fail_any _ w.heap.size p _ _ _ (FE.out _))) | (go_at_call 17; exact quiet_l (left_any _ w.heap.size p _ _ _ (FE.out _))) | (go_at_call 27; exact quiet_l (end_any _ w.heap.size p _ _ _ (FE.out _))) | (go_at_call 28; exact quiet_l (reend_any _ w.heap.size w3.heap.size _ _ _ (FR.out _)))))
                  go_wp2_with fail
                  go_roundw
                  case rel => exact ⟨k + 1, _, _, _, by omega, by go_num, T3.out.keep ((Keeps.refl [] w6).drewN _)⟩
                  case measure => simp [intOf]; omega
                | some x =>
                  obtain rfl := q2
                  go_wp2_with fail
                  refine (rebool_any _ w.heap.size w3.heap.size u4 s.1 s.2 T2.out.ref).mono ?_
                  intro e w6 hq
                  rw [HST.out] at hq
                  obtain ⟨⟨u6, q1⟩, q2⟩ := T2.out.stepR hq
                  obtain rfl := q2
                  have T3 := hid q1
                  clear q1 hq
                  go_wp2_with fail
                  have FE := hid (fun n => (T3.out.keep ((Keeps.refl [] w6).drewN n)).eye)
                  have FR := hid (fun n => (T3.out.keep ((Keeps.refl [] w6).drewN n)).ref)
                  have m0 := T3.out.ref.cell0
                  have m1 := T3.out.ref.cell1
                  obtain ⟨ma, mc, hmv, z⟩ := T3.out.ref.row
                  rw [hmv] at m0
                  clear z hmv
                  go_quiet ((first | (go_at_call 16; exact quiet_l (fail_any _ w.heap.size p _ _ _ (FE.out _))) | (go_at_call 17; exact quiet_l (left_any _ w.heap.size p _ _ _ (FE.out _))) | (go_at_call 27; exact quiet_l (end_any _ w.heap.size p _ _ _ (FE.out _))) | (go_at_call 28; exact quiet_l (reend_any _ w.heap.size w3.heap.size _ _ _ (FR.out _)))))
                  go_wp2_with fail
                  go_roundw
                  case rel => exact ⟨k + 1, _, _, _, by omega, by go_num, T3.out.keep ((Keeps.refl [] w6).drewN _)⟩
                  case measure => simp [intOf]; omega
        · have : k = ds.length := by omega
          subst this
          go_wp2_with fail
          go_ret
          exact ⟨rfl, T.out.kept⟩
end Go.Proofs.Ytfkafelidkcinaa
