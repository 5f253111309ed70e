/- There and back (the law WireBack): the walk. -/
import Derived.Test.YtfkafelidkcinaaBackA
import Derived.Test.YtfkafelidkcinaaReads
import Derived.Deep.RegionHeld3
namespace Go.Proofs.Ytfkafelidkcinaa
open Go.RowKit

theorem EyeSince.keep {w w2 w3 : World} {p v zs bad} (h : EyeSince w w2 p v zs bad) (k : Keeps [] w2 w3) : EyeSince w w3 p v zs bad :=
  ⟨h.eye.keep k (by simp) (by intro _ _ _ _ _; simp), h.kept.trans k⟩

theorem cut_at (cut : Int) (L : Nat) (hL : 0 < L) (hm : L ≤ 65536) : ∃ m : Nat, m < L ∧ (wrap64 (cut.tmod L + L)).tmod L = m := by
  have h1 := Int.tmod_lt_of_pos cut (b := (L : Int)) (by omega)
  have h2 := Int.lt_tmod_of_pos cut (b := (L : Int)) (by omega)
  generalize cut.tmod L = c at *
  rw [IntWalk.wrap64_in _ (by omega), Int.tmod_eq_emod_of_nonneg (by omega)]
  have h3 := Int.emod_nonneg (c + L) (b := (L : Int)) (by omega)
  have h4 := Int.emod_lt_of_pos (c + L) (b := (L : Int)) (by omega)
  exact ⟨((c + L) % L).toNat, by omega, by omega⟩

theorem box_cell (w : World) (cs : Array Value) (T : TypeId) (i : Nat) (v : Value) (h : cs[i]? = some v) : (w.alloc (.cells cs T)).cell? ⟨w.heap.size, i, none⟩ = some v := by
  have e := heap_alloc_new w (.cells cs T)
  unfold World.cell?
  rw [e]
  exact h

set_option maxRecDepth 100000 in
set_option maxHeartbeats 6400000 in
theorem back_any (w : World) (u : Value) (cut : Int) (ds : List Dd) (hd : DeedsAt w u ds) :
    Calls Try.prog 6 #[u, .int .i64 cut] w fun e w' => e = .returned (.bool true) ∧ Keeps [] w w' := by
  have D := hid hd
  obtain ⟨va, vc, rfl, vl, vb, v0, z⟩ := hd
  have Z := hid z
  clear z vb v0
  go_enter Try.func6, Try.ntmps6
  go_wp2_with fail
  refine (awake_any w).mono ?_
  rintro e w1 ⟨rfl, q1⟩
  have K1 := hid q1
  clear q1
  go_wp2_with fail
  refine (room_any w1 _ ds (D.out.keep K1.out)).mono ?_
  rintro e w2 ⟨b, rfl, rfl, hroom⟩
  cases b with
  | false =>
    clear hroom
    go_wp2_with fail
    go_ret
    exact ⟨rfl, K1.out⟩
  | true =>
    have hl100 := (hroom rfl).1
    have HR := hid (hroom rfl)
    clear hroom
    go_wp2_with fail
    refine (write_any w1 _ ds (D.out.keep K1.out) (by omega) HR.out.2).mono ?_
    rintro e w2 ⟨p, p', pv, pv', rfl, q1⟩
    have P2 : Hid (PenSince w1 w2 31 p pv _ _) := ⟨q1.pen, q1.kept⟩
    have K2 := hid (K1.out.trans q1.kept)
    have GD := hid (effs_good ds [])
    have PF : Hid ((ds.foldl deedW ([], 0)).1.length ≤ 65536) := q1.pen.fits
    generalize hS : ds.foldl deedW ([], 0) = S at *
    clear q1 hS HR
    go_wp2_with fail
    refine (bytes_any _ w1.heap.size p pv _ _ P2.out.pen).mono ?_
    by_cases hs : S.2 = 0
    · obtain ⟨hb, hok⟩ := GD.out hs
      have OK := hid hok
      obtain ⟨bs, bad⟩ := S
      simp only at hs hb
      rw [List.nil_append] at hb
      subst hs
      subst hb
      clear hok GD
      intro e w3 hq
      obtain ⟨a3, c3, rfl, q1, q2, q3⟩ := hq.good
      have R3 := hid q1
      have K3 := hid (K2.out.trans q3)
      have hfit : (effs ds).length ≤ 65536 := PF.out
      clear q1 q2 q3 hq P2 PF
      go_wp2_with fail
      refine (newEye_any _ w3.heap.size _ (effs ds) R3.out (Nat.le_refl _) (by omega)).mono ?_
      rintro e w4 ⟨p, v4, rfl, q1, q2, q3, q4⟩
      have Y4 : Hid (EyeSince w3 w4 p v4 (effs ds) 0) := ⟨q2, q3⟩
      clear q1 q2 q3 q4
      go_wp2_with fail
      go_loopw [10] (fun i wr => ∃ (k : Nat) (v : Value), k ≤ ds.length ∧ i = .int .i64 k ∧ EyeSince w3 wr p v (effs (ds.drop k)) 0) (fun i _ => ds.length - (intOf i).toNat)
      case atStart => exact ⟨0, v4, by omega, rfl, Y4.out⟩
      case round =>
        obtain ⟨k, v5, hk, rfl, q1⟩ := hrel
        have Y5 := hid q1
        clear q1
        by_cases hlt : k < ds.length
        · obtain ⟨g, off, rfl, hd⟩ := Z.out (by intro e; rw [e] at hlt; simp at hlt)
          have DA0 := hid (hd k hlt)
          have OKD := hid (OK.out _ (List.getElem_mem hlt))
          have AN := hid (fun (h1 : ds[k].act ≤ 1) => after_read hlt (rd := rdNum ds[k].n) (read_num OKD.out h1))
          have AR := hid (fun (h1 : ¬ ds[k].act ≤ 1) (h2 : ds[k].act = 2 ∨ ds[k].act = 3) => after_read hlt (rd := rdCount 65535) (read_row OKD.out h1 h2))
          have AB := hid (fun (h1 : ¬ ds[k].act ≤ 1) (h2 : ¬ ds[k].act = 2) (h3 : ¬ ds[k].act = 3) => after_read hlt (rd := rdBool) (read_bool (d := ds[k]) h1 h2 h3))
          clear hd
          generalize hdk : ds[k] = d at *
          clear hdk
          obtain ⟨ra, rc, hrow, z⟩ := DA0.out.row
          clear z
          have DK := DA0.out.keep (K3.out.trans Y5.out.kept)
          have c0 := DK.c0
          have c1 := DK.c1
          have c2 := DK.c2
          have c3 := DK.c3
          rw [hrow] at c3
          have RW : Hid (RowAt (wr.alloc (.cells #[.int .i64 d.act, .int .i64 d.x, .int .i64 d.n, .slice ra d.bs.length rc] 49)) (.slice ra d.bs.length rc) d.bs) := by
            have := DK.row
            rw [hrow] at this
            exact this.keep ((Keeps.refl [] wr).alloc _) (by intro _ _ _ _ _; simp)
          have RW0 : Hid (RowAt w3 (.slice ra d.bs.length rc) d.bs) := by
            have := (DA0.out.keep K3.out).row
            rw [hrow] at this
            exact this
          have T1 := hid (Y5.out.keep ((Keeps.refl [] wr).alloc (.cells #[.int .i64 d.act, .int .i64 d.x, .int .i64 d.n, .slice ra d.bs.length rc] 49)))
          have B1 := hid (box_cell wr #[.int .i64 d.act, .int .i64 d.x, .int .i64 d.n, .slice ra d.bs.length rc] 49 1 _ rfl)
          have B2 := hid (box_cell wr #[.int .i64 d.act, .int .i64 d.x, .int .i64 d.n, .slice ra d.bs.length rc] 49 2 _ rfl)
          have B3 := hid (box_cell wr #[.int .i64 d.act, .int .i64 d.x, .int .i64 d.n, .slice ra d.bs.length rc] 49 3 _ rfl)
          have HPL : Hid (p < wr.heap.size) := Y5.out.eye.lt
          have HSZ : Hid (wr.heap.size < (wr.alloc (.cells #[.int .i64 d.act, .int .i64 d.x, .int .i64 d.n, .slice ra d.bs.length rc] 49)).heap.size) := by
            show _ < _
            rw [World.size_alloc]
            omega
          clear DK hrow
          generalize hbx : Obj.cells #[Value.int .i64 d.act, .int .i64 d.x, .int .i64 d.n, .slice ra d.bs.length rc] 49 = bx at T1 B1 B2 B3 RW HSZ
          have HBX := hid hbx
          clear hbx Y5
          by_cases h1 : d.act ≤ 1
          · have s0 : ((wr.alloc bx).drew).cell? ⟨wr.heap.size, 2, none⟩ = some (.int .i64 d.n) ∧ ((wr.alloc bx).drew).cell? ⟨wr.heap.size, 1, none⟩ = some (.int .i64 d.x) := ⟨B2.out, B1.out⟩
            have S0 := hid s0
            clear s0
            go_wp2_with fail
            go_region_held3 (fun w' => w'.cell? ⟨wr.heap.size, 2, none⟩ = some (.int .i64 d.n) ∧ w'.cell? ⟨wr.heap.size, 1, none⟩ = some (.int .i64 d.x)) (first | exact ⟨y2, y1⟩ | (rw [HBX.out]; exact S0.out))
              (first | (go_at_call 12; rw [HBX.out]; refine (eyeNum_any _ w3.heap.size p v5 _ 0 d.n (T1.out.keep (Keeps.refl [] _).drew).eye).mono ?_; intro e w5 hq; rw [AN.out h1] at hq
                        have y2 : w5.cell? ⟨wr.heap.size, 2, none⟩ = some (.int .i64 d.n) := hq.2.1.cell S0.out.1 (by have := HPL.out; simp; omega)
                        have y1 : w5.cell? ⟨wr.heap.size, 1, none⟩ = some (.int .i64 d.x) := hq.2.1.cell S0.out.2 (by have := HPL.out; simp; omega)
                        obtain ⟨⟨v6, q1⟩, q2⟩ := (T1.out.keep (Keeps.refl [] _).drew).step hq
                        obtain rfl := q2
                        have Y6 := hid q1
                        clear q1 hq))
            go_wp2_with fail
            go_roundw
            case rel => exact ⟨k + 1, _, by omega, by go_num, Y6.out⟩
            case measure => simp [intOf]; omega
          · have h1' : decide (d.act ≤ 1) = false := by simp; omega
            by_cases h2 : d.act = 2
            · have h2' : (d.act == 2) = true := by simpa using h2
              have AR' := hid (AR.out h1 (Or.inl h2))
              have RL := hid (eff_row OKD.out h1 (Or.inl h2)).2
              clear h1 h2
              go_wp2_with fail
              go_region_held3 (fun w' => w'.cell? ⟨wr.heap.size, 3, none⟩ = some (.slice ra d.bs.length rc)) (first | exact y4 | exact y3 | (rw [HBX.out]; exact B3.out))
                (first | (go_at_call 23; rw [HBX.out]; refine (eyeRaw_any _ w3.heap.size p v5 _ 0 65535 (T1.out.keep (Keeps.refl [] _).drew).eye).mono ?_; intro e w5 hq; rw [AR'.out] at hq
                          have y3 : w5.cell? ⟨wr.heap.size, 3, none⟩ = some (.slice ra d.bs.length rc) := hq.2.1.cell B3.out (by have := HPL.out; simp; omega)
                          obtain ⟨⟨v6, q1⟩, q2⟩ := (T1.out.keep (Keeps.refl [] _).drew).step hq
                          obtain ⟨a5, c5, rfl, r5, n5⟩ := q2
                          have R5 := hid r5
                          have RW5 := hid (RW0.out.keep q1.kept (by intro _ _ _ _ _; simp))
                          have Y6 := hid q1
                          clear q1 hq r5 n5)
                       | (go_at_call 21; refine (same_any _ _ _ d.bs d.bs R5.out RW5.out ?_ ?_).mono ?_
                          · have := RL.out; omega
                          · have := RL.out; omega
                          rintro e w7 ⟨rfl, n7, rfl⟩
                          rw [show decide (d.bs = d.bs) = true by simp]
                          have y4 : (w5.drewN n7).cell? ⟨wr.heap.size, 3, none⟩ = some (.slice ra d.bs.length rc) := y3
                          have Y7 := hid (Y6.out.keep ((Keeps.refl [] w5).drewN n7))))
              go_wp2_with fail
              go_roundw
              case rel => exact ⟨k + 1, _, by omega, by go_num, Y7.out⟩
              case measure => simp [intOf]; omega
            · have h2' : (d.act == 2) = false := by simpa using h2
              by_cases h3 : d.act = 3
              · have h3' : (d.act == 3) = true := by simpa using h3
                have AR' := hid (AR.out h1 (Or.inr h3))
                clear h1 h2 h3
                have cv := conv_row RW.out
                have s0 : ((wr.alloc bx).drew).cell? ⟨wr.heap.size, 3, none⟩ = some (.slice ra d.bs.length rc) ∧ (convert 25 9 (.slice ra d.bs.length rc)).run Try.prog ((wr.alloc bx).drew) = .ok (.string (strOfNums d.bs)) ((wr.alloc bx).drew) :=
                  ⟨B3.out, conv_row (RW.out.keep (Keeps.refl [] _).drew (by intro _ _ _ _ _; simp))⟩
                have S0 := hid s0
                have CR := hid (fun (w' : World) (h : RowAt w' (.slice ra d.bs.length rc) d.bs) => conv_row h)
                clear s0 cv
                generalize hst : strOfNums d.bs = st at S0 CR
                have HST := hid hst
                clear hst
                go_wp2_with fail
                go_region_held3 (fun w' => w'.cell? ⟨wr.heap.size, 3, none⟩ = some (.slice ra d.bs.length rc) ∧ (convert 25 9 (.slice ra d.bs.length rc)).run Try.prog w' = .ok (.string st) w') (first | exact ⟨y3, cv⟩ | (rw [HBX.out]; exact S0.out))
                  (first | (go_at_call 13; rw [HBX.out]; refine (eyeText_any _ w3.heap.size p v5 _ 0 65535 (T1.out.keep (Keeps.refl [] _).drew).eye).mono ?_; intro e w5 hq; rw [AR'.out] at hq
                            have y3 : w5.cell? ⟨wr.heap.size, 3, none⟩ = some (.slice ra d.bs.length rc) := hq.2.1.cell B3.out (by have := HPL.out; simp; omega)
                            obtain ⟨⟨v6, q1⟩, q2⟩ := (T1.out.keep (Keeps.refl [] _).drew).step hq
                            have q3 : e = .returned (.string st) := by rw [← HST.out]; exact q2
                            obtain rfl := q3
                            have cv := CR.out w5 (RW0.out.keep q1.kept (by intro _ _ _ _ _; simp))
                            have Y6 := hid q1
                            clear q1 q2 hq))
                go_wp2_with fail
                go_roundw
                case rel => exact ⟨k + 1, _, by omega, by go_num, Y6.out⟩
                case measure => simp [intOf]; omega
              · have h3' : (d.act == 3) = false := by simpa using h3
                have AB' := hid (AB.out h1 h2 h3)
                clear h1 h2 h3
                go_wp2_with fail
                go_region_held3 (fun w' => w'.cell? ⟨wr.heap.size, 1, none⟩ = some (.int .i64 d.x)) (first | exact y1 | (rw [HBX.out]; exact B1.out))
                  (first | (go_at_call 25; rw [HBX.out]; refine (eyeBool_any _ w3.heap.size p v5 _ 0 (T1.out.keep (Keeps.refl [] _).drew).eye).mono ?_; intro e w5 hq; rw [AB'.out] at hq
                            have y1 : w5.cell? ⟨wr.heap.size, 1, none⟩ = some (.int .i64 d.x) := hq.2.1.cell B1.out (by have := HPL.out; simp; omega)
                            obtain ⟨⟨v6, q1⟩, q2⟩ := (T1.out.keep (Keeps.refl [] _).drew).step hq
                            have q3 : e = .returned (.bool (bits .and .i64 d.x 1 == 1)) := q2
                            obtain rfl := q3
                            have Y6 := hid q1
                            clear q1 q2 hq))
                go_wp2_with fail
                go_roundw
                case rel => exact ⟨k + 1, _, by omega, by go_num, Y6.out⟩
                case measure => simp [intOf]; omega
        · have : k = ds.length := by omega
          subst this
          have Y6 : Hid (EyeSince w3 wr p v5 [] 0) := by
            have := Y5.out
            rw [List.drop_length] at this
            exact this
          clear Y5 Y4
          by_cases hl0 : (effs ds).length = 0
          · have e0 : (((effs ds).length : Int) == 0) = true := by simp [hl0]
            clear hl0
            go_wp2_with fail
            refine (end_any _ w3.heap.size p v5 [] 0 Y6.out.eye).mono ?_
            rintro e w5 ⟨rfl, rfl⟩
            rw [show endOf [] 0 = 0 from rfl]
            go_wp2_with fail
            refine (end_any _ w3.heap.size p v5 [] 0 Y6.out.eye).mono ?_
            rintro e w5 ⟨rfl, rfl⟩
            rw [show endOf [] 0 = 0 from rfl]
            go_wp2_with fail
            go_ret
            exact ⟨rfl, K3.out.trans Y6.out.kept⟩
          · have e0 : (((effs ds).length : Int) == 0) = false := by simp; exact fun e => hl0 (by rw [e]; rfl)
            have hpos : 0 < (effs ds).length := by omega
            clear hl0
            go_wp2_with fail
            refine (end_any _ w3.heap.size p v5 [] 0 Y6.out.eye).mono ?_
            rintro e w5 ⟨rfl, rfl⟩
            rw [show endOf [] 0 = 0 from rfl]
            obtain ⟨m, hm, hcut⟩ := cut_at cut (effs ds).length hpos hfit
            obtain ⟨a1, t1, t2, t3, t4⟩ := row_take (R3.out.keep Y6.out.kept (by intro _ _ _ _ _; simp)) m (by omega)
            have M5 := hid (t3 wr (R3.out.keep Y6.out.kept (by intro _ _ _ _ _; simp)))
            have KW := hid Y6.out.kept
            clear t3 t4 Y6
            go_wp2_with fail
            refine (newEye_any _ w3.heap.size _ ((effs ds).take m) ?_ KW.out.size ?_).mono ?_
            · exact M5.out
            · rw [List.length_take]; omega
            rintro e w6 ⟨p, v6, rfl, q1, q2, q3, q4⟩
            have Y7 : Hid (EyeSince w3 w6 p v6 ((effs ds).take m) 0) := ⟨q2, KW.out.trans q3⟩
            have C0 : Hid (Cut ds 0 ((effs ds).take m, 0)) := Or.inr ⟨rfl, m, by simpa using hm, by simp⟩
            clear q1 q2 q3 q4 t1 t2 M5 e0
            go_wp2_with fail
            go_loopw [12] (fun i wr => ∃ (k : Nat) (v : Value) (s : List Int × Int), k ≤ ds.length ∧ i = .int .i64 k ∧ Cut ds k s ∧ EyeSince w3 wr p v s.1 s.2) (fun i _ => ds.length - (intOf i).toNat)
            case atStart => exact ⟨0, v6, _, by omega, rfl, C0.out, Y7.out⟩
            case round =>
              obtain ⟨k, v7, s, hk, rfl, qc, q1⟩ := hrel
              have Y8 := hid q1
              have C8 := hid qc
              clear q1 qc
              by_cases hlt : k < ds.length
              · obtain ⟨g, off, rfl, hd⟩ := Z.out (by intro e; rw [e] at hlt; simp at hlt)
                have DA0 := hid (hd k hlt)
                have OKD := hid (OK.out _ (List.getElem_mem hlt))
                have CN := hid (fun (h1 : ds[k].act ≤ 1) => C8.out.step hlt (rd := rdNum ds[k].n) (read_num OKD.out h1) (fun m hm rest => short_num OKD.out h1 m hm rest))
                have CR := hid (fun (h1 : ¬ ds[k].act ≤ 1) (h2 : ds[k].act = 2 ∨ ds[k].act = 3) => C8.out.step hlt (rd := rdCount 65535) (read_row OKD.out h1 h2) (fun m hm rest => short_row OKD.out h1 h2 m hm rest))
                have CB := hid (fun (h1 : ¬ ds[k].act ≤ 1) (h2 : ¬ ds[k].act = 2) (h3 : ¬ ds[k].act = 3) => C8.out.step hlt (rd := rdBool) (read_bool (d := ds[k]) h1 h2 h3) (fun m hm rest => short_bool (d := ds[k]) h1 h2 h3 m hm rest))
                clear hd
                generalize hdk : ds[k] = d at *
                clear hdk
                have DK := DA0.out.keep (K3.out.trans Y8.out.kept)
                have c0 := DK.c0
                have c2 := DK.c2
                clear DK
                by_cases h1 : d.act ≤ 1
                · have CS := hid (CN.out h1)
                  clear CN CR CB
                  go_wp2_with fail
                  refine (eyeNum_any _ w3.heap.size p v7 s.1 s.2 d.n Y8.out.eye).mono ?_
                  intro e w8 hq
                  obtain ⟨⟨v8, q1⟩, q2⟩ := Y8.out.step hq
                  have Y9 := hid q1
                  clear q1 hq c2 c0
                  generalize after s.1 s.2 (rdNum d.n s.1) = st at *
                  obtain ⟨o, s2⟩ := st
                  cases o with
                  | none =>
                    obtain rfl := q2
                    go_wp2_with fail
                    go_roundw
                    case rel => exact ⟨k + 1, _, s2, by omega, by go_num, CS.out, Y9.out⟩
                    case measure => simp [intOf]; omega
                  | some x =>
                    obtain rfl := q2
                    go_wp2_with fail
                    go_roundw
                    case rel => exact ⟨k + 1, _, s2, by omega, by go_num, CS.out, Y9.out⟩
                    case measure => simp [intOf]; omega
                · have h1' : decide (d.act ≤ 1) = false := by simp; omega
                  by_cases h2 : d.act = 2
                  · have h2' : (d.act == 2) = true := by simpa using h2
                    have CS0 := hid (CR.out h1 (Or.inl h2))
                    clear h1 h2
                    have CS := hid (CS0.out)
                    clear CN CR CB
                    go_wp2_with fail
                    refine (eyeRaw_any _ w3.heap.size p v7 s.1 s.2 65535 Y8.out.eye).mono ?_
                    intro e w8 hq
                    obtain ⟨⟨v8, q1⟩, q2⟩ := Y8.out.step hq
                    have Y9 := hid q1
                    clear q1 hq c2 c0
                    generalize after s.1 s.2 (rdCount 65535 s.1) = st at *
                    obtain ⟨o, s2⟩ := st
                    cases o with
                    | none =>
                      obtain rfl := q2
                      go_wp2_with fail
                      go_roundw
                      case rel => exact ⟨k + 1, _, s2, by omega, by go_num, CS.out, Y9.out⟩
                      case measure => simp [intOf]; omega
                    | some x =>
                      obtain ⟨a9, c9, rfl, z1, z2⟩ := q2
                      clear z1 z2
                      go_wp2_with fail
                      go_roundw
                      case rel => exact ⟨k + 1, _, s2, by omega, by go_num, CS.out, Y9.out⟩
                      case measure => simp [intOf]; omega
                  · have h2' : (d.act == 2) = false := by simpa using h2
                    by_cases h3 : d.act = 3
                    · have h3' : (d.act == 3) = true := by simpa using h3
                      have CS0 := hid (CR.out h1 (Or.inr h3))
                      clear h1 h2 h3
                      have CS := hid (CS0.out)
                      clear CN CR CB
                      go_wp2_with fail
                      refine (eyeText_any _ w3.heap.size p v7 s.1 s.2 65535 Y8.out.eye).mono ?_
                      intro e w8 hq
                      obtain ⟨⟨v8, q1⟩, q2⟩ := Y8.out.step hq
                      have Y9 := hid q1
                      clear q1 hq c2 c0
                      generalize after s.1 s.2 (rdCount 65535 s.1) = st at *
                      obtain ⟨o, s2⟩ := st
                      cases o with
                      | none =>
                        obtain rfl := q2
                        go_wp2_with fail
                        go_roundw
                        case rel => exact ⟨k + 1, _, s2, by omega, by go_num, CS.out, Y9.out⟩
                        case measure => simp [intOf]; omega
                      | some x =>
                        obtain rfl := q2
                        go_wp2_with fail
                        go_roundw
                        case rel => exact ⟨k + 1, _, s2, by omega, by go_num, CS.out, Y9.out⟩
                        case measure => simp [intOf]; omega
                    · have h3' : (d.act == 3) = false := by simpa using h3
                      have CS0 := hid (CB.out h1 h2 h3)
                      clear h1 h2 h3
                      have CS := hid (CS0.out)
                      clear CN CR CB
                      go_wp2_with fail
                      refine (eyeBool_any _ w3.heap.size p v7 s.1 s.2 Y8.out.eye).mono ?_
                      intro e w8 hq
                      obtain ⟨⟨v8, q1⟩, q2⟩ := Y8.out.step hq
                      have Y9 := hid q1
                      clear q1 hq c2 c0
                      generalize after s.1 s.2 (rdBool s.1) = st at *
                      obtain ⟨o, s2⟩ := st
                      cases o with
                      | none =>
                        obtain rfl := q2
                        go_wp2_with fail
                        go_roundw
                        case rel => exact ⟨k + 1, _, s2, by omega, by go_num, CS.out, Y9.out⟩
                        case measure => simp [intOf]; omega
                      | some x =>
                        obtain rfl := q2
                        go_wp2_with fail
                        go_roundw
                        case rel => exact ⟨k + 1, _, s2, by omega, by go_num, CS.out, Y9.out⟩
                        case measure => simp [intOf]; omega
              · have : k = ds.length := by omega
                subst this
                have hb := C8.out.done
                obtain ⟨zs, bad⟩ := s
                simp only at hb
                subst hb
                go_wp2_with fail
                refine (fail_any _ w3.heap.size p v7 _ 2 Y8.out.eye).mono ?_
                rintro e w7 ⟨rfl, rfl⟩
                go_wp2_with fail
                go_ret
                exact ⟨rfl, K3.out.trans Y8.out.kept⟩
    · intro e w3 hq
      obtain ⟨bs, bad⟩ := S
      simp only at hs
      obtain ⟨a3, c3, rfl, q1, q2, q3⟩ := hq.bad hs
      have K3 := hid (K2.out.trans q3)
      clear q1 q2 q3 hq P2 PF GD
      have e1 : (bad != 0) = true := by simpa using hs
      clear hs
      go_wp2_with fail
      go_ret
      exact ⟨rfl, K3.out⟩
end Go.Proofs.Ytfkafelidkcinaa
