/- Deeds, of both disks: Play. -/
import Derived.Test.YtofoeemgplggbaaRfL
import Derived.Test.YtofoeemgplggbaaDkLate
import Derived.Test.YtofoeemgplggbaaDkU
namespace Go.Proofs.Ytofoeemgplggbaa
open Go.RowKit Go.Shelf
set_option maxRecDepth 100000

/-- The code's disk at p, the reference's at q, apart. -/
structure PlAt (w : World) (p q : Nat) (s t : DS) (F G : List Nat) (K : Nat) : Prop where
  d : DiskAt w p s F K
  r : RefS w q t G
  dis : ∀ b ∈ F, b ∉ G

/-- They come from F0 and G0 of the world W. -/
structure PlI (W w : World) (p q : Nat) (F0 G0 : List Nat) (s t : DS) (F G : List Nat) (K : Nat) : Prop where
  at_ : PlAt w p q s t F G K
  kp : Keeps (F0 ++ G0) W w
  fF : Fresh W F0 F
  fG : Fresh W G0 G

section
variable {W w w' : World} {p q : Nat} {F0 G0 : List Nat} {s t : DS} {F G : List Nat} {K : Nat}

theorem PlI.start (h : PlAt W p q s t F0 G0 K) : PlI W W p q F0 G0 s t F0 G0 K := ⟨h, Keeps.refl _ _, fun _ hb => .inl hb, fun _ hb => .inl hb⟩
theorem PlI.keep (h : PlI W w p q F0 G0 s t F G K) (k : Keeps [] w w') : PlI W w' p q F0 G0 s t F G K :=
  ⟨⟨h.at_.d.keep k (by simp), h.at_.r.keep k (by simp), h.at_.dis⟩, h.kp.trans' k (by simp), h.fF, h.fG⟩
theorem PlI.mono {K' : Nat} (h : PlI W w p q F0 G0 s t F G K) (hk : K ≤ K') : PlI W w p q F0 G0 s t F G K' :=
  ⟨⟨h.at_.d.mono hk, h.at_.r, h.at_.dis⟩, h.kp, h.fF, h.fG⟩
theorem PlI.code {s' : DS} {F' : List Nat} {K' : Nat} (h : PlI W w p q F0 G0 s t F G K) (d : DiskAt w' p s' F' K') (k : Keeps F w w') (fr : Fresh w F F') : PlI W w' p q F0 G0 s' t F' G K' :=
  ⟨⟨d, h.at_.r.keep k (fun b hb hm => h.at_.dis b hm hb), fun b hb hg => by
      rcases fr b hb with h1 | h1
      · exact h.at_.dis b h1 hg
      · have := h.at_.r.lt b hg; omega⟩,
    h.kp.trans' k (fun i hi hm => by
      rcases h.fF i hm with h1 | h1
      · exact List.mem_append.2 (.inl h1)
      · omega),
    fun b hb => by
      rcases fr b hb with h1 | h1
      · exact h.fF b h1
      · have := h.kp.size; exact .inr (by omega), h.fG⟩
theorem PlI.ref {t' : DS} (h : PlI W w p q F0 G0 s t F G K) (d : RDone w q t' G w') : ∃ G', PlI W w' p q F0 G0 s t' F G' K := by
  obtain ⟨G', r, k, fr⟩ := d
  exact ⟨G', ⟨h.at_.d.keep k (fun b hb hm => h.at_.dis b hb hm), r, fun b hb hg => by
      rcases fr b hg with h1 | h1
      · exact h.at_.dis b hb h1
      · have := h.at_.d.lt b hb; omega⟩,
    h.kp.trans' k (fun i hi hm => by
      rcases h.fG i hm with h1 | h1
      · exact List.mem_append.2 (.inr h1)
      · omega),
    h.fF, fun b hb => by
      rcases fr b hb with h1 | h1
      · exact h.fG b h1
      · have := h.kp.size; exact .inr (by omega)⟩
theorem PlI.loose (h : PlI W w p q F0 G0 s t F G K) : s.loose.length ≤ K := by
  obtain ⟨_, m, lv, n, _, _, h⟩ := h.at_.d
  omega
theorem PlI.size (h : PlI W w p q F0 G0 s t F G K) : W.heap.size ≤ w.heap.size := h.kp.size
end

theorem quiet_p {P : Program} {f : FuncId} {args : Array Value} {w : World} {n : Nat} {v : Value}
    (h : Calls P f args (w.drewN n) fun e w' => e = .returned v ∧ w.drewN n = w') : Calls P f args (w.drewN n) fun e w'' => e = .returned v ∧ ∃ m, w'' = w.drewN m :=
  h.mono fun _ _ ⟨he, hm⟩ => ⟨he, n, hm.symm⟩

theorem readB_len (s : DS) (k : Int) : (readB s k).length ≤ 1000000 := by
  unfold readB
  split
  · have := (s.now k.toNat).2.1
    omega
  · simp

set_option maxHeartbeats 8000000 in
theorem play_any (W : World) (p q : Nat) (s : DS) (F0 G0 : List Nat) (K : Nat) (H : PlAt W p q s s F0 G0 K) (v : Value) (l : List D4) (hl : D4sAt W v l) (ho : 0 < l.length → ∀ b, v.ownBlock = some b → b ∉ F0 ++ G0) (hK : K + 2 * l.length ≤ 100000) :
    Calls Try.prog 9 #[.pointer (some ⟨p, 0, none⟩), .pointer (some ⟨q, 0, none⟩), v] W fun e w' => e = .returned (.bool true) ∧ ∃ s' F G, PlI W w' p q F0 G0 s' s' F G (K + 2 * l.length) := by
  have HL := hid hl
  have HO := hid ho
  have HH := hid (PlI.start H)
  obtain ⟨la, lcap, rfl, _⟩ := hl
  clear ho H
  go_enter Try.func9, Try.ntmps9
  go_wp2_with fail
  go_loopw [7] (fun v wr => ∃ (j : Nat) (s : DS) (F G : List Nat), j ≤ l.length ∧ v = .int .i64 j ∧ Hid (PlI W wr p q F0 G0 s s F G (K + 2 * j))) (fun v _ => l.length - (intOf v).toNat)
  case atStart => exact ⟨0, s, F0, G0, by omega, rfl, HH.out⟩
  case round =>
    obtain ⟨j, s, F, G, hj, rfl, PP⟩ := hrel
    clear HH
    by_cases hlt : j < l.length
    · have hlt' : (j : Int) < (l.length : Int) := by omega
      obtain ⟨g, off, cap2, hv, hcap, hcs⟩ := HL.out.open (by omega)
      injection hv with hv _ hvc
      subst hv
      subst hvc
      obtain ⟨hrg, hok⟩ := hcs j hlt
      clear hcs
      obtain ⟨⟨A, N, C, L⟩, hdj⟩ : ∃ d, d = l[j] := ⟨_, rfl⟩
      rw [← hdj] at hrg hok
      have HOK := hid hok
      replace hrg : wr.rangeAt g (off + j * 4) (D4.cells ⟨A, N, C, L⟩) := fun a u hu => keeps_cell4 PP.out.kp (hrg a u hu) (HO.out (by omega) g rfl)
      have HRG := hid hrg
      clear hrg hdj
      have qB := heap_alloc_new wr (.cells (D4.cells ⟨A, N, C, L⟩).toArray 51)
      have P1 := hid (PP.out.keep ((Keeps.refl [] wr).alloc (.cells (D4.cells ⟨A, N, C, L⟩).toArray 51)))
      have bF : wr.heap.size ∉ F := fun hm => by have := PP.out.at_.d.lt _ hm; omega
      have bG : wr.heap.size ∉ G := fun hm => by have := PP.out.at_.r.lt _ hm; omega
      have bL : wr.heap.size < (wr.alloc (.cells (D4.cells ⟨A, N, C, L⟩).toArray 51)).heap.size := by simp
      have q0 : (wr.alloc (.cells (D4.cells ⟨A, N, C, L⟩).toArray 51)).cell? ⟨wr.heap.size, 0, none⟩ = some (.int .i64 A) := cell_of_row _ _ 0 _ _ (0, 0) qB
      have q1 : (wr.alloc (.cells (D4.cells ⟨A, N, C, L⟩).toArray 51)).cell? ⟨wr.heap.size, 1, none⟩ = some (.int .i64 N) := cell_of_row _ _ 1 _ _ (0, 0) qB
      have QB := hid qB
      have BF := hid bF
      have BG := hid bG
      have BL := hid bL
      clear qB PP bF bG bL hok
      have K1 : K + 2 * j + 2 ≤ 100000 := by omega
      -- what is asked behind each deed
      have FIN : ∀ (w9 : World) (s9 : DS) (F9 G9 : List Nat), PlI W w9 p q F0 G0 s9 s9 F9 G9 (K + 2 * j + 2) → True := fun _ _ _ _ _ => trivial
      clear FIN
      by_cases h4 : A ≤ 4
      · have P0 := P1
        go_wp2_with (first | (refine wpList_loadD4 rfl _ rfl _ _ rfl ⟨A, N, C, L⟩ HRG.out ?_) | (refine wpList_allocD4 rfl rfl ?_) | (refine wpList_storeD4New rfl _ _ rfl wr _ ⟨A, N, C, L⟩ rfl _ rfl rfl rfl ?_) | fail)
        generalize wr.alloc (.cells (D4.cells ⟨A, N, C, L⟩).toArray 51) = wx at P1 QB BL ⊢
        generalize wr.heap.size = b at QB BF BG BL ⊢
        clear q0 q1 HRG
        refine wp_region_noPanic (wp_region_any (by kernel_rfl) (wpAny_of_held (S := KpS F wx.heap.size wx.drew) _ _ _ _ ?_))
        have kd : ∀ W1, KpS F wx.heap.size wx.drew W1 → Keeps F wx W1 := fun W1 h => ⟨h.os, h.tape, h.output, h.size, fun k hk hs => h.block k hk hs⟩
        have cN : ∀ W1, KpS F wx.heap.size wx.drew W1 → W1.rangeAt b 0 (D4.cells ⟨A, N, C, L⟩) := fun W1 h a u hu => keeps_cell4 (kd W1 h) (by rw [cell_of_row _ _ (0 + a) _ _ (0, 0) QB.out, Nat.zero_add]; simpa using hu) BF.out
        refine held_take (i := 0) (v := .pointer (some ⟨p, 0, none⟩)) rfl (by kernel_rfl) (by kernel_rfl) (by kernel_rfl) (fun _ _ _ h => h) rfl (fun W1 hW1 => rfl) (KpS.refl _ _ _) ?_
        simp only [Act.put, List.setIfInBounds_toArray, List.set_cons_zero, List.set_cons_succ]
        refine held_take (i := 1) (v := .pointer (some ⟨b, 1, none⟩)) rfl (by kernel_rfl) (by kernel_rfl) (by kernel_rfl) (fun _ _ _ h => h) rfl (fun W1 hW1 => by go_simp) (KpS.refl _ _ _) ?_
        simp only [Act.put, List.setIfInBounds_toArray, List.set_cons_zero, List.set_cons_succ]
        refine held_take (i := 2) (v := .int .i64 N) rfl (by kernel_rfl) (by kernel_rfl) (by kernel_rfl) (fun _ _ _ h => h) rfl (fun W1 hW1 => exec_load _ _ _ _ rfl rfl (run_loadCell W1 _ _ _ (cN W1 hW1 1 _ rfl) (agg_no _ (by kernel_rfl)))) (KpS.refl _ _ _) ?_
        simp only [Act.put, List.setIfInBounds_toArray, List.set_cons_zero, List.set_cons_succ]
        refine held_take (i := 3) (v := d4V ⟨A, N, C, L⟩) rfl (by kernel_rfl) (by kernel_rfl) (by kernel_rfl) (fun _ _ _ h => h) rfl (fun W1 hW1 => exec_load _ _ _ _ rfl rfl (loadD4_run W1 _ _ _ (cN W1 hW1))) (KpS.refl _ _ _) ?_
        simp only [Act.put, List.setIfInBounds_toArray, List.set_cons_zero, List.set_cons_succ]
        refine held_do (i := 4) (by kernel_rfl) rfl rfl (wp_enter (f := 21) (args := #[d4V ⟨A, N, C, L⟩]) (by go_simp) (dbytes_any _ _ HOK.out) ?_)
        rintro e Wb ⟨bv, rfl, rb, _, kb⟩
        have kb1 : KpS F wx.heap.size wx.drew Wb := (KpS.refl _ _ _).keeps kb (Nat.le_refl _) (by simp)
        refine ⟨_, rfl, kb1, ?_⟩
        simp only [Act.put, List.setIfInBounds_toArray, List.set_cons_zero, List.set_cons_succ]
        have Pb := P1.out.keep (show Keeps [] wx Wb from ⟨kb.os, kb.tape, kb.output, kb.size, kb.block⟩)
        refine held_do (i := 5) (by kernel_rfl) rfl rfl (wp_enter (f := 16) (args := #[.pointer (some ⟨p, 0, none⟩), .int .i64 N, bv]) (by go_simp) (write_any Wb p s F _ Pb.at_.d (by omega) N bv _ rb) ?_)
        rintro e Wc ⟨rfl, F1, D1, kc, frc⟩
        have kc1 : KpS F wx.heap.size wx.drew Wc := kb1.keeps kc kb1.size (fun i hi _ => hi)
        refine ⟨_, rfl, kc1, ?_⟩
        simp only [Act.put, List.setIfInBounds_toArray, List.set_cons_zero, List.set_cons_succ]
        have Pc := hid (Pb.code D1 kc frc)
        have QC := hid ((kd Wc kc1).block _ BL.out BF.out |>.trans QB.out)
        have bF1 : b ∉ F1 := fun hm => by
          rcases frc b hm with h | h
          · exact BF.out h
          · have := kb1.size; have := BL.out; simp only [World.size_drew] at *; omega
        have BLc := hid (Nat.lt_of_lt_of_le BL.out kc1.size)
        have BF1 := hid bF1
        refine held_take (i := 6) (v := .int .i64 (writeE s N (bytesL ⟨A, N, C, L⟩).length)) rfl (by kernel_rfl) (by kernel_rfl) (by kernel_rfl) (fun _ _ _ h => h) rfl (fun W1 hW1 => rfl) (kc1) ?_
        simp only [Act.put, List.setIfInBounds_toArray, List.set_cons_zero, List.set_cons_succ]
        refine wpAnyH_done (by kernel_rfl) (NoPanic.normal ?_) _
        clear kc kc1 frc D1 Pb kb1 kb cN kd rb bF1 BF P1 QB BL
        go_wp2_with fail
        refine wp_region_noPanic (wp_region_any (by kernel_rfl) (wpAny_of_held (S := KpS G Wc.heap.size Wc.drew) _ _ _ _ ?_))
        have kd : ∀ W1, KpS G Wc.heap.size Wc.drew W1 → Keeps G Wc W1 := fun W1 h => ⟨h.os, h.tape, h.output, h.size, fun k hk hs => h.block k hk hs⟩
        have cN : ∀ W1, KpS G Wc.heap.size Wc.drew W1 → W1.rangeAt b 0 (D4.cells ⟨A, N, C, L⟩) := fun W1 h a u hu => keeps_cell4 (kd W1 h) (by rw [cell_of_row _ _ (0 + a) _ _ (0, 0) QC.out, Nat.zero_add]; simpa using hu) BG.out
        refine held_take (i := 0) (v := .int .i64 (writeE s N (bytesL ⟨A, N, C, L⟩).length)) rfl (by kernel_rfl) (by kernel_rfl) (by kernel_rfl) (fun _ _ _ h => h) rfl (fun W1 hW1 => rfl) (KpS.refl _ _ _) ?_
        simp only [Act.put, List.setIfInBounds_toArray, List.set_cons_zero, List.set_cons_succ]
        refine held_take (i := 1) (v := .pointer (some ⟨q, 0, none⟩)) rfl (by kernel_rfl) (by kernel_rfl) (by kernel_rfl) (fun _ _ _ h => h) rfl (fun W1 hW1 => rfl) (KpS.refl _ _ _) ?_
        simp only [Act.put, List.setIfInBounds_toArray, List.set_cons_zero, List.set_cons_succ]
        refine held_take (i := 2) (v := .pointer (some ⟨b, 1, none⟩)) rfl (by kernel_rfl) (by kernel_rfl) (by kernel_rfl) (fun _ _ _ h => h) rfl (fun W1 hW1 => by go_simp) (KpS.refl _ _ _) ?_
        simp only [Act.put, List.setIfInBounds_toArray, List.set_cons_zero, List.set_cons_succ]
        refine held_take (i := 3) (v := .int .i64 N) rfl (by kernel_rfl) (by kernel_rfl) (by kernel_rfl) (fun _ _ _ h => h) rfl (fun W1 hW1 => exec_load _ _ _ _ rfl rfl (run_loadCell W1 _ _ _ (cN W1 hW1 1 _ rfl) (agg_no _ (by kernel_rfl)))) (KpS.refl _ _ _) ?_
        simp only [Act.put, List.setIfInBounds_toArray, List.set_cons_zero, List.set_cons_succ]
        refine held_take (i := 4) (v := d4V ⟨A, N, C, L⟩) rfl (by kernel_rfl) (by kernel_rfl) (by kernel_rfl) (fun _ _ _ h => h) rfl (fun W1 hW1 => exec_load _ _ _ _ rfl rfl (loadD4_run W1 _ _ _ (cN W1 hW1))) (KpS.refl _ _ _) ?_
        simp only [Act.put, List.setIfInBounds_toArray, List.set_cons_zero, List.set_cons_succ]
        refine held_do (i := 5) (by kernel_rfl) rfl rfl (wp_enter (f := 21) (args := #[d4V ⟨A, N, C, L⟩]) (by go_simp) (dbytes_any _ _ HOK.out) ?_)
        rintro e Wd ⟨bv, rfl, rb, nb, kb⟩
        have kb1 : KpS G Wc.heap.size Wc.drew Wd := (KpS.refl _ _ _).keeps kb (Nat.le_refl _) (by simp)
        refine ⟨_, rfl, kb1, ?_⟩
        simp only [Act.put, List.setIfInBounds_toArray, List.set_cons_zero, List.set_cons_succ]
        have Pd := Pc.out.keep (show Keeps [] Wc Wd from ⟨kb.os, kb.tape, kb.output, kb.size, kb.block⟩)
        have hoff : Off G bv (bytesL ⟨A, N, C, L⟩) := fun ad n c e _ hm => by
          have h1 := nb ad.block (by rw [e]; rfl)
          have h2 := Pc.out.at_.r.lt _ hm
          have h3 : Wc.heap.size ≤ ad.block := h1
          omega
        refine held_do (i := 6) (by kernel_rfl) rfl rfl (wp_enter (f := 22) (args := #[.pointer (some ⟨q, 0, none⟩), .int .i64 N, bv]) (by go_simp) (rw_any Wd q s G Pd.at_.r _ P0.out.at_.d.1 (by omega) (by have := P0.out.loose; omega) N bv _ rb hoff) ?_)
        rintro e We ⟨rfl, R1⟩
        have R1' := R1
        obtain ⟨G1, _, kc, _⟩ := R1
        have kc1 : KpS G Wc.heap.size Wc.drew We := kb1.keeps kc kb1.size (fun i hi _ => hi)
        refine ⟨_, rfl, kc1, ?_⟩
        simp only [Act.put, List.setIfInBounds_toArray, List.set_cons_zero, List.set_cons_succ]
        obtain ⟨G2, P2⟩ := Pd.ref R1'
        have P9 := hid P2
        refine held_take (i := 7) (v := .bool true) rfl (by kernel_rfl) (by kernel_rfl) (by kernel_rfl) (fun _ _ _ h => h) rfl (fun W1 hW1 => by go_simp) (kc1) ?_
        simp only [Act.put, List.setIfInBounds_toArray, List.set_cons_zero, List.set_cons_succ]
        refine held_take (i := 8) (v := .bool true) rfl (by kernel_rfl) (by kernel_rfl) (by kernel_rfl) (fun _ _ _ h => h) rfl (fun W1 hW1 => rfl) (kc1) ?_
        simp only [Act.put, List.setIfInBounds_toArray, List.set_cons_zero, List.set_cons_succ]
        refine wpAnyH_done (by kernel_rfl) (NoPanic.normal ?_) _
        clear P2 R1' kc kc1 Pd kb1 kb cN kd rb nb hoff Pc QC BG
        generalize writeS s N (bytesL ⟨A, N, C, L⟩) = s9 at P9
        have C9 := P9.out.at_.r.cells
        have c4 : ∀ n, (We.drewN n).cell? ⟨q, 4, none⟩ = some (.int .i64 s9.ops) := fun n => C9.1
        have c6 : ∀ n, (We.drewN n).cell? ⟨q, 6, none⟩ = some (.bool s9.dead) := fun n => C9.2.1
        have OP := hid (fun n => opsAt_any (We.drewN n) p s9 _ _ (P9.out.keep ((Keeps.refl [] We).drewN n)).at_.d)
        have DE := hid (fun n => deadAt_any (We.drewN n) p s9 _ _ (P9.out.keep ((Keeps.refl [] We).drewN n)).at_.d)
        clear C9
        go_wp2_with fail
        go_quiet ((first | (go_at_call 26; exact quiet_p (OP.out _)) | (go_at_call 15; exact quiet_p (DE.out _))))
        have PZ := hid (P9.out.keep ((Keeps.refl [] We).drewN nq))
        clear c4 c6 OP DE P9
        generalize We.drewN nq = wz at PZ ⊢
        go_wp2_with fail
        go_roundw
        case rel => exact ⟨j + 1, _, _, _, by omega, by go_num, PZ.out.mono (by omega)⟩
        case measure => simp [intOf]; omega
      · by_cases h5 : A = 5
        · subst h5
          have h5' : ((5 : Int) == 5) = true := rfl
          go_wp2_with (first | (refine wpList_loadD4 rfl _ rfl _ _ rfl ⟨5, N, C, L⟩ HRG.out ?_) | (refine wpList_allocD4 rfl rfl ?_) | (refine wpList_storeD4New rfl _ _ rfl wr _ ⟨5, N, C, L⟩ rfl _ rfl rfl rfl ?_) | fail)
          generalize wr.alloc (.cells (D4.cells ⟨5, N, C, L⟩).toArray 51) = wx at P1 QB BL q1 ⊢
          generalize wr.heap.size = b at QB BF BG BL q1 ⊢
          clear q0 HRG
          refine (readAt_any wx p s F _ P1.out.at_.d N).mono ?_
          rintro e w2 ⟨xv, rfl, rx, _, k2⟩
          have P2 := hid (P1.out.keep k2)
          have RX := hid rx
          replace q1 : w2.cell? ⟨b, 1, none⟩ = some (.int .i64 N) := keeps_cell4 k2 q1 (by simp)
          clear k2 rx P1 QB BF BG BL
          go_wp2_with fail
          refine (rr_any w2 q s G P2.out.at_.r _ P2.out.at_.d.1 N).mono ?_
          rintro e w3 ⟨yv, rfl, ry, k3⟩
          have P3 := hid (P2.out.keep k3)
          have RY := hid ry
          have RX3 := hid (RX.out.keep k3 (by intro _ _ _ _ _; simp))
          clear k3 ry P2 RX q1
          go_wp2_with fail
          refine (same_true w3 xv yv _ RX3.out RY.out (readB_len s N)).mono ?_
          rintro e w4 ⟨rfl, k4⟩
          have P9 := hid (P3.out.keep k4)
          clear k4 P3 RX3 RY
          obtain ⟨s9, hs9⟩ : ∃ s9, s9 = s := ⟨_, rfl⟩
          rw [← hs9] at P9
          have C9 := P9.out.at_.r.cells
          have c4 : ∀ n, (w4.drewN n).cell? ⟨q, 4, none⟩ = some (.int .i64 s9.ops) := fun n => C9.1
          have c6 : ∀ n, (w4.drewN n).cell? ⟨q, 6, none⟩ = some (.bool s9.dead) := fun n => C9.2.1
          have OP := hid (fun n => opsAt_any (w4.drewN n) p s9 _ _ (P9.out.keep ((Keeps.refl [] w4).drewN n)).at_.d)
          have DE := hid (fun n => deadAt_any (w4.drewN n) p s9 _ _ (P9.out.keep ((Keeps.refl [] w4).drewN n)).at_.d)
          clear C9
          go_wp2_with fail
          go_quiet ((first | (go_at_call 26; exact quiet_p (OP.out _)) | (go_at_call 15; exact quiet_p (DE.out _))))
          have PZ := hid (P9.out.keep ((Keeps.refl [] w4).drewN nq))
          clear c4 c6 OP DE P9
          generalize w4.drewN nq = wz at PZ ⊢
          go_wp2_with fail
          go_roundw
          case rel => exact ⟨j + 1, _, _, _, by omega, by go_num, PZ.out.mono (by omega)⟩
          case measure => simp [intOf]; omega
        · have h5' : (A == 5) = false := by simp [h5]
          by_cases h7 : A ≤ 7
          · go_wp2_with (first | (refine wpList_loadD4 rfl _ rfl _ _ rfl ⟨A, N, C, L⟩ HRG.out ?_) | (refine wpList_allocD4 rfl rfl ?_) | (refine wpList_storeD4New rfl _ _ rfl wr _ ⟨A, N, C, L⟩ rfl _ rfl rfl rfl ?_) | fail)
            generalize wr.alloc (.cells (D4.cells ⟨A, N, C, L⟩).toArray 51) = wx at P1 QB BL q1 ⊢
            generalize wr.heap.size = b at QB BF BG BL q1 ⊢
            clear q0 HRG
            refine (sync_any wx p s F _ P1.out.at_.d (by omega)).mono ?_
            rintro e w2 ⟨rfl, F1, D1, k2, fr⟩
            have P2 := hid (P1.out.code D1 k2 fr)
            clear D1 k2 fr QB BF BG BL q1
            go_wp2_with fail
            refine (rs_any w2 q s G P2.out.at_.r _ P1.out.at_.d.1 (by omega)).mono ?_
            rintro e w3 ⟨rfl, R1⟩
            obtain ⟨G1, P9'⟩ := P2.out.ref R1
            have P9 := hid P9'
            clear P9' R1 P1 P2
            generalize syncS s = s9 at P9
            have C9 := P9.out.at_.r.cells
            have c4 : ∀ n, (w3.drewN n).cell? ⟨q, 4, none⟩ = some (.int .i64 s9.ops) := fun n => C9.1
            have c6 : ∀ n, (w3.drewN n).cell? ⟨q, 6, none⟩ = some (.bool s9.dead) := fun n => C9.2.1
            have OP := hid (fun n => opsAt_any (w3.drewN n) p s9 _ _ (P9.out.keep ((Keeps.refl [] w3).drewN n)).at_.d)
            have DE := hid (fun n => deadAt_any (w3.drewN n) p s9 _ _ (P9.out.keep ((Keeps.refl [] w3).drewN n)).at_.d)
            clear C9
            go_wp2_with fail
            go_quiet ((first | (go_at_call 26; exact quiet_p (OP.out _)) | (go_at_call 15; exact quiet_p (DE.out _))))
            have PZ := hid (P9.out.keep ((Keeps.refl [] w3).drewN nq))
            clear c4 c6 OP DE P9
            generalize w3.drewN nq = wz at PZ ⊢
            go_wp2_with fail
            go_roundw
            case rel => exact ⟨j + 1, _, _, _, by omega, by go_num, PZ.out.mono (by omega)⟩
            case measure => simp [intOf]; omega
          · go_wp2_with (first | (refine wpList_loadD4 rfl _ rfl _ _ rfl ⟨A, N, C, L⟩ HRG.out ?_) | (refine wpList_allocD4 rfl rfl ?_) | (refine wpList_storeD4New rfl _ _ rfl wr _ ⟨A, N, C, L⟩ rfl _ rfl rfl rfl ?_) | fail)
            generalize wr.alloc (.cells (D4.cells ⟨A, N, C, L⟩).toArray 51) = wx at P1 QB BL q1 ⊢
            generalize wr.heap.size = b at QB BF BG BL q1 ⊢
            clear q0 HRG
            have hN : -9223372036854775808 ≤ N ∧ N ≤ 9223372036854775807 := HOK.out.b1
            refine (fuseAt_any wx p s F _ P1.out.at_.d N hN).mono ?_
            rintro e w2 ⟨rfl, D1, k2⟩
            have P2 := hid (P1.out.code D1 k2 (fun _ h => .inl h))
            replace q1 : w2.cell? ⟨b, 1, none⟩ = some (.int .i64 N) := keeps_cell4 k2 q1 BF.out
            clear D1 k2 QB BF BG BL
            obtain ⟨R9, c9, f9⟩ := P2.out.at_.r.fused N hN
            obtain ⟨v5, c5⟩ := Option.ne_none_iff_exists'.1 c9
            have hq := P2.out.at_.r.cells.2.2.2.1
            by_cases hn : N < -1
            · have hm : max N (-1) = -1 := by omega
              rw [hm] at R9
              obtain ⟨G1, P9'⟩ := P2.out.ref ⟨G, R9, (Keeps.refl G w2).setCell (p := ⟨q, 5, none⟩) (.inl hq) (.int .i64 (-1)), fun _ h => .inl h⟩
              have P9 := hid P9'
              clear P9' R9 c9 P1 P2 hq hm
              go_wp2_with fail
              generalize w2.setCell ⟨q, 5, none⟩ (.int .i64 (-1)) = w3 at P9 ⊢
              clear c5 f9 q1
              generalize fuseS s N = s9 at P9
              have C9 := P9.out.at_.r.cells
              have c4 : ∀ n, (w3.drewN n).cell? ⟨q, 4, none⟩ = some (.int .i64 s9.ops) := fun n => C9.1
              have c6 : ∀ n, (w3.drewN n).cell? ⟨q, 6, none⟩ = some (.bool s9.dead) := fun n => C9.2.1
              have OP := hid (fun n => opsAt_any (w3.drewN n) p s9 _ _ (P9.out.keep ((Keeps.refl [] w3).drewN n)).at_.d)
              have DE := hid (fun n => deadAt_any (w3.drewN n) p s9 _ _ (P9.out.keep ((Keeps.refl [] w3).drewN n)).at_.d)
              clear C9
              go_wp2_with fail
              go_quiet ((first | (go_at_call 26; exact quiet_p (OP.out _)) | (go_at_call 15; exact quiet_p (DE.out _))))
              have PZ := hid (P9.out.keep ((Keeps.refl [] w3).drewN nq))
              clear c4 c6 OP DE P9
              generalize w3.drewN nq = wz at PZ ⊢
              go_wp2_with fail
              go_roundw
              case rel => exact ⟨j + 1, _, _, _, by omega, by go_num, PZ.out.mono (by omega)⟩
              case measure => simp [intOf]; omega
            · have hm : max N (-1) = N := by omega
              rw [hm] at R9
              obtain ⟨G1, P9'⟩ := P2.out.ref ⟨G, R9, (Keeps.refl G w2).setCell (p := ⟨q, 5, none⟩) (.inl hq) (.int .i64 (N)), fun _ h => .inl h⟩
              have P9 := hid P9'
              clear P9' R9 c9 P1 P2 hq hm
              go_wp2_with fail
              generalize w2.setCell ⟨q, 5, none⟩ (.int .i64 (N)) = w3 at P9 ⊢
              clear c5 f9 q1
              generalize fuseS s N = s9 at P9
              have C9 := P9.out.at_.r.cells
              have c4 : ∀ n, (w3.drewN n).cell? ⟨q, 4, none⟩ = some (.int .i64 s9.ops) := fun n => C9.1
              have c6 : ∀ n, (w3.drewN n).cell? ⟨q, 6, none⟩ = some (.bool s9.dead) := fun n => C9.2.1
              have OP := hid (fun n => opsAt_any (w3.drewN n) p s9 _ _ (P9.out.keep ((Keeps.refl [] w3).drewN n)).at_.d)
              have DE := hid (fun n => deadAt_any (w3.drewN n) p s9 _ _ (P9.out.keep ((Keeps.refl [] w3).drewN n)).at_.d)
              clear C9
              go_wp2_with fail
              go_quiet ((first | (go_at_call 26; exact quiet_p (OP.out _)) | (go_at_call 15; exact quiet_p (DE.out _))))
              have PZ := hid (P9.out.keep ((Keeps.refl [] w3).drewN nq))
              clear c4 c6 OP DE P9
              generalize w3.drewN nq = wz at PZ ⊢
              go_wp2_with fail
              go_roundw
              case rel => exact ⟨j + 1, _, _, _, by omega, by go_num, PZ.out.mono (by omega)⟩
              case measure => simp [intOf]; omega
    · have : j = l.length := by omega
      subst this
      have hlt' : ¬ (l.length : Int) < (l.length : Int) := by omega
      go_wp2_with fail
      have hcnt := PP.out.at_.d.1.hi
      have hIL : (imageL s.now s.cnt).length ≤ 1000000 := by rw [imageL_len]; omega
      obtain ⟨ra, rc, hc0⟩ := PP.out.at_.r.cells.2.2.1
      have hqG := PP.out.at_.r.cells.2.2.2.2
      refine wp_region_noPanic (wp_region_any (by kernel_rfl) (wpAny_of_held (S := KpS [] wr.heap.size wr.drew) _ _ _ _ ?_))
      have kd : ∀ W1, KpS [] wr.heap.size wr.drew W1 → Keeps [] wr W1 := fun W1 h => ⟨h.os, h.tape, h.output, h.size, fun k hk hs => h.block k hk hs⟩
      refine held_take (i := 0) (v := .pointer (some ⟨p, 0, none⟩)) rfl (by kernel_rfl) (by kernel_rfl) (by kernel_rfl) (fun _ _ _ h => h) rfl (fun W1 hW1 => rfl) (KpS.refl _ _ _) ?_
      simp only [Act.put, List.setIfInBounds_toArray, List.set_cons_zero, List.set_cons_succ]
      refine held_take (i := 2) (v := .pointer (some ⟨q, 0, none⟩)) rfl (by kernel_rfl) (by kernel_rfl) (by kernel_rfl) (fun _ _ _ h => h) rfl (fun W1 hW1 => rfl) (KpS.refl _ _ _) ?_
      simp only [Act.put, List.setIfInBounds_toArray, List.set_cons_zero, List.set_cons_succ]
      have P0 := PP.out.keep (kd _ (KpS.refl _ _ _))
      refine held_do (i := 1) (by kernel_rfl) rfl rfl (wp_enter (f := 13) (args := #[.pointer (some ⟨p, 0, none⟩)]) (by go_simp) (imageAt_any wr.drew p s F _ P0.at_.d) ?_)
      rintro e W1 ⟨xv, rfl, rx, _, k1⟩
      have kp1 : KpS [] wr.heap.size wr.drew W1 := (KpS.refl _ _ _).keeps k1 (Nat.le_refl _) (by simp)
      refine ⟨_, rfl, kp1, ?_⟩
      simp only [Act.put, List.setIfInBounds_toArray, List.set_cons_zero, List.set_cons_succ]
      have P1 := P0.keep k1
      refine held_do (i := 3) (by kernel_rfl) rfl rfl (wp_enter (f := 14) (args := #[.pointer (some ⟨q, 0, none⟩)]) (by go_simp) (ri_any W1 q s G P1.at_.r _ P1.at_.d.1) ?_)
      rintro e W2 ⟨yv, rfl, ry, k2⟩
      have kp2 : KpS [] wr.heap.size wr.drew W2 := kp1.keeps k2 kp1.size (by simp)
      refine ⟨_, rfl, kp2, ?_⟩
      simp only [Act.put, List.setIfInBounds_toArray, List.set_cons_zero, List.set_cons_succ]
      have rx2 := rx.keep k2 (by intro _ _ _ _ _; simp)
      refine held_do (i := 4) (by kernel_rfl) rfl rfl (wp_enter (f := 12) (args := #[xv, yv]) (by go_simp) (same_true W2 xv yv _ rx2 ry hIL) ?_)
      rintro e W3 ⟨rfl, k3⟩
      have kp3 : KpS [] wr.heap.size wr.drew W3 := kp2.keeps k3 kp2.size (by simp)
      refine ⟨_, rfl, kp3, ?_⟩
      simp only [Act.put, List.setIfInBounds_toArray, List.set_cons_zero, List.set_cons_succ]
      have P3 := (P1.keep k2).keep k3
      refine held_take (i := 5) (v := .bool true) rfl (by kernel_rfl) (by kernel_rfl) (by kernel_rfl) (fun _ _ _ h => h) rfl (fun W1 hW1 => rfl) (kp3) ?_
      simp only [Act.put, List.setIfInBounds_toArray, List.set_cons_zero, List.set_cons_succ]
      refine held_takeWD (i := 6) (v := .pointer (some ⟨p, 0, none⟩)) rfl (by kernel_rfl) (by kernel_rfl) (by kernel_rfl) (fun _ _ _ h => h) rfl (fun W1 hW1 => rfl) (kp3) ?_
      simp only [Act.put, List.setIfInBounds_toArray, List.set_cons_zero, List.set_cons_succ]
      refine held_takeWD (i := 8) (v := .pointer (some ⟨q, 0, none⟩)) rfl (by kernel_rfl) (by kernel_rfl) (by kernel_rfl) (fun _ _ _ h => h) rfl (fun W1 hW1 => rfl) (kp3) ?_
      simp only [Act.put, List.setIfInBounds_toArray, List.set_cons_zero, List.set_cons_succ]
      refine held_takeWD (i := 9) (v := .pointer (some ⟨q, 0, none⟩)) rfl (by kernel_rfl) (by kernel_rfl) (by kernel_rfl) (fun _ _ _ h => h) rfl (fun W1 hW1 => by go_simp) (kp3) ?_
      simp only [Act.put, List.setIfInBounds_toArray, List.set_cons_zero, List.set_cons_succ]
      refine held_takeWD (i := 10) (v := .pointer (some ⟨q, 0, none⟩)) rfl (by kernel_rfl) (by kernel_rfl) (by kernel_rfl) (fun _ _ _ h => h) rfl (fun W1 hW1 => by go_simp) (kp3) ?_
      simp only [Act.put, List.setIfInBounds_toArray, List.set_cons_zero, List.set_cons_succ]
      refine held_takeWD (i := 11) (v := .slice ra s.cnt rc) rfl (by kernel_rfl) (by kernel_rfl) (by kernel_rfl) (fun _ _ _ h => h) rfl (fun W1 hW1 => exec_load _ _ _ _ rfl rfl (run_loadCell W1 _ _ _ (keeps_cell4 (kd W1 hW1) hc0 (by simp)) (agg_no _ (by kernel_rfl)))) (kp3) ?_
      simp only [Act.put, List.setIfInBounds_toArray, List.set_cons_zero, List.set_cons_succ]
      refine held_takeWD (i := 12) (v := .int .i64 s.cnt) rfl (by kernel_rfl) (by kernel_rfl) (by kernel_rfl) (fun _ _ _ h => h) rfl (fun W1 hW1 => by go_simp) (kp3) ?_
      simp only [Act.put, List.setIfInBounds_toArray, List.set_cons_zero, List.set_cons_succ]
      refine held_doWD (i := 7) (by kernel_rfl) rfl rfl (wp_enter (f := 27) (args := #[.pointer (some ⟨p, 0, none⟩)]) (by go_simp) (sectorsAt_any W3 p s F _ P3.at_.d) ?_)
      rintro e _ ⟨rfl, rfl⟩
      refine ⟨_, rfl, kp3, ?_⟩
      simp only [Act.put, List.setIfInBounds_toArray, List.set_cons_zero, List.set_cons_succ]
      refine held_takeWD (i := 13) (v := .bool true) rfl (by kernel_rfl) (by kernel_rfl) (by kernel_rfl) (fun _ _ _ h => h) rfl (fun W1 hW1 => by go_simp) (kp3) ?_
      simp only [Act.put, List.setIfInBounds_toArray, List.set_cons_zero, List.set_cons_succ]
      refine held_take (i := 14) (v := .bool true) rfl (by kernel_rfl) (by kernel_rfl) (by kernel_rfl) (fun _ _ _ h => h) rfl (fun W1 hW1 => by go_simp) (kp3) ?_
      simp only [Act.put, List.setIfInBounds_toArray, List.set_cons_zero, List.set_cons_succ]
      refine held_take (i := 15) (v := .bool true) rfl (by kernel_rfl) (by kernel_rfl) (by kernel_rfl) (fun _ _ _ h => h) rfl (fun W1 hW1 => rfl) (kp3) ?_
      simp only [Act.put, List.setIfInBounds_toArray, List.set_cons_zero, List.set_cons_succ]
      refine wpAnyH_done (by kernel_rfl) (NoPanic.normal ?_) _
      have P9 := hid P3
      clear P0 P1 P3 kp1 kp2 kp3 k1 k2 k3 rx ry rx2 kd PP
      go_wp2_with fail
      go_ret
      exact ⟨rfl, s, F, G, P9.out⟩
end Go.Proofs.Ytofoeemgplggbaa
