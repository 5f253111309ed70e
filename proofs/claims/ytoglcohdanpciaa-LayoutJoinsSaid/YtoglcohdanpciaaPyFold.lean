/- parity's folds over an iterator: the longest one, the mix. -/
import Derived.RangeFuncBox
import Derived.Test.YtoglcohdanpciaaPyIter
namespace Go.Proofs.Ytoglcohdanpciaa
open Go.RowKit Go.Shelf
attribute [local go_sem] Oper.semAt_some

/-- What is asked of an iterator's value: all of rs come, in their order; the body may touch what lies at or beyond n₀. -/
abbrev Gives (n : Nat) (gf : Nat) (lb : Array Value) (n₀ : Nat) {w0 : World} (rs : List (El w0)) (N : Nat) (w : World) : Prop :=
  SeqStopsK Fence.wide n Try.prog gf lb (fun x : El w0 => #[x.1.1]) (Below n₀) (fun ys => ys = rs) (fun _ => True) N w

theorem values_stops (n : Nat) (hn : 1 ≤ n) (Bs n₀ : Nat) {w0 : World} (rs : List (El w0)) (v : Value) (hreach : rs.length ≤ 1099511627776) (hR : RowsAt w0 v rs) (w : World) (hb0 : Below w0.heap.size w0 w)
    (hn0 : w0.heap.size ≤ n₀) (hBs : Bs < w.heap.size) (hc : w.cell? ⟨Bs, 0, none⟩ = some v) :
    Gives n 154 #[.pointer (some ⟨Bs, 0, none⟩)] n₀ rs rs.length w := fun l J Jx W hW _ _ hY h0 => by
  have hc' := (hW.cell (p := ⟨Bs, 0, none⟩) hBs).trans hc
  have hbW : Below w0.heap.size w0 W := hb0.trans (hW.mono hb0.size)
  by_cases h0l : 0 < rs.length
  · obtain ⟨b, off, cap, rfl, _, hcs⟩ := hR.open h0l
    have hb : b < w0.heap.size := World.block_lt_of_cell? _ _ (hcs 0 h0l)
    exact values1_in n hn l Bs n₀ b off cap rs hreach (by omega) J Jx hY W hc' (fun j hj => (hbW.cell (p := ⟨b, off + j, none⟩) hb).trans (hcs j hj)) h0
  · have hrs : rs = [] := List.eq_nil_of_length_eq_zero (by omega)
    subst hrs
    obtain ⟨a, cap, rfl, h1, h2, h3, h4⟩ := hR
    exact (values1_nil_in n l Bs a cap J W hc' h0).mono fun e W' ⟨he, hj⟩ => ⟨he, .inl ⟨_, rfl, hj⟩⟩

theorem but_stops (n : Nat) (hn : 1 ≤ n) (Bs Bi n₀ i : Nat) {w0 : World} (rs : List (El w0)) (v : Value) (hreach : rs.length ≤ 1099511627776) (hR : RowsAt w0 v rs) (hi : i < rs.length) (w : World) (hb0 : Below w0.heap.size w0 w)
    (hn0 : w0.heap.size ≤ n₀) (hBs : Bs < w.heap.size) (hc : w.cell? ⟨Bs, 0, none⟩ = some v) (hBi : Bi < w.heap.size) (hbi : Bi < n₀) (hci : w.cell? ⟨Bi, 0, none⟩ = some (.int .i64 i)) :
    Gives n 188 #[.pointer (some ⟨Bs, 0, none⟩), .pointer (some ⟨Bi, 0, none⟩)] n₀ (rs.eraseIdx i) rs.length w := fun l J Jx W hW _ _ hY h0 => by
  have hc' := (hW.cell (p := ⟨Bs, 0, none⟩) hBs).trans hc
  have hci' := (hW.cell (p := ⟨Bi, 0, none⟩) hBi).trans hci
  have hbW : Below w0.heap.size w0 W := hb0.trans (hW.mono hb0.size)
  obtain ⟨b, off, cap, rfl, _, hcs⟩ := hR.open (by omega)
  have hb : b < w0.heap.size := World.block_lt_of_cell? _ _ (hcs 0 (by omega))
  exact but1_in n hn l Bs Bi n₀ b off cap i rs hreach (by omega) hbi hi J Jx hY W hc' hci' (fun j hj => (hbW.cell (p := ⟨b, off + j, none⟩) hb).trans (hcs j hj)) h0

set_option maxHeartbeats 400000 in
theorem longestC_any (m : Int) (a : Option Addr) (len cap : Nat) (w : World) :
    Calls Try.prog 158 #[.int .i64 m, .slice a len cap] w fun e w' => e = .returned (.int .i64 (max m len)) ∧ w = w' := by
  go_enter Try.func158, Try.ntmps158
  go_wp2
  all_goals
    go_ret
    exact ⟨ret_int (by omega), rfl⟩

theorem El.slice {w0 : World} (x : El w0) : ∃ a cap, x.1.1 = .slice a x.1.2.length cap := by
  obtain ⟨⟨u, zs⟩, ⟨a, cap, h, _⟩, _⟩ := x
  exact ⟨a, cap, h⟩

theorem raws_snoc {w0 : World} (pre : List (El w0)) (x : El w0) : raws (pre ++ [x]) = raws pre ++ [x.1.2] := by simp [raws]

set_option maxRecDepth 100000 in
set_option maxHeartbeats 4000000 in
theorem foldInt_in (n : Nat) (hn : 4 ≤ n) (gf : Nat) (lb : Array Value) (n₀ : Nat) {w0 : World} (rs : List (El w0)) (N : Nat) (w : World) (hgf : Enters Try.prog gf) (hseq : Gives (n - 1) gf lb n₀ rs N w) (hn0 : n₀ ≤ w.heap.size) :
    CallsIn Fence.wide n Try.prog 157 #[.func (.func gf) #[] lb, .int .i64 0, .func (.func 158) #[] #[]] w fun e W' => e = .returned (.int .i64 (longest (raws rs))) ∧ Below w.heap.size w W' := by
  have h1 : 1 ≤ n := by omega
  have HS := hid hseq
  have HG := hid hgf
  clear hseq hgf
  refine callsIn_of_wp_marks Try.func157 rfl trivial ?_ rfl
  simp only [Try.ntmps157, List.size_toArray, List.length_cons, List.length_nil, Nat.reduceAdd, Nat.reduceSub, Array.replicate_succ, Array.replicate_zero, List.push_toArray, List.append_toArray, List.nil_append, List.cons_append]
  gi_wp2
  have hB0 : Below w.heap.size w ((w.alloc (.cells #[.func (.func 158) #[] #[]] 210)).alloc (.cells #[.int .i64 0] 3)) := ((Below.refl _ w).alloc (Nat.le_refl _) _).alloc (by simp) _
  have bT := Boxed.new w 210 (.func (.func 158) #[] #[])
  have bG := Boxed.new (w.alloc (.cells #[.func (.func 158) #[] #[]] 210)) 3 (.int .i64 0)
  rw [World.size_alloc] at bG
  refine wpIn_rangeFunc_ownG rfl h1 (gf := gf) (lb := lb) rfl trivial HG.out HS.out belowK_t (belowK_b (by simp; omega)) hB0 (fun _ => rfl)
    (fun pre W => (Boxed W w.heap.size 210 (.func (.func 158) #[] #[]) ∧ Boxed W (w.heap.size + 1) 3 (.int .i64 (longest (raws pre)))) ∧ Below w.heap.size w W)
    (fun _ _ _ => False)
    (OwnFrom.and (Own.from (fun s A B row hs hg hr => ⟨boxed_own (β := Unit) _ _ (fun _ => _) () A B row hs.1 hg hr, boxed_own (β := Unit) _ _ (fun _ => _) () A B row hs.2 hg hr⟩) _) (ownFrom_below (Nat.le_refl _) (by simp; omega)))
    (fun _ _ _ _ _ hs _ _ => hs)
    ⟨⟨bT.alloc _, bG⟩, hB0⟩
    (fun x => { tmps := #[.func (.func gf) #[] lb, .int .i64 0, .func (.func 158) #[] #[], undef, undef, .pointer (some ⟨w.heap.size, 0, none⟩), .int .i64 0, .pointer (some ⟨w.heap.size + 1, 0, none⟩), x.1.1, .int .i64 0, .func (.func gf) #[] lb, x.1.1, undef, undef, undef, undef, undef], defers := [] }) ?assign ?body ?done ?stop
  case assign =>
    intro l x W K hK
    gi_wp2
    exact hK
  case body =>
    rintro l pre x W ⟨⟨hT, hG⟩, hB⟩ _
    have HR := hid (raws_snoc pre x)
    obtain ⟨a, cap, hx⟩ := x.slice
    have c1 := hT.cell
    have c2 := hG.cell
    have f2 := hG.frozen
    have HX := hid hx
    have HT := hid hT
    have HGo := hid hG
    have HB := hid hB
    clear hT hG hB hx
    gi_wp2
    rw [HX.out]
    refine ⟨trivial, fun h => by simp [Fence.wide] at h, (CallsIn.inRound l (callsIn_wide.2 (longestC_any _ _ _ _ _))).mono ?_⟩
    rintro e w' ⟨rfl, rfl⟩
    gi_wp2
    refine ⟨(KeepsOthers.setCell _ _ _).from _, (Below.refl n₀ W).setCell (p := ⟨w.heap.size + 1, 0, none⟩) (by show n₀ ≤ w.heap.size + 1; omega) _, ⟨HT.out.other (by omega) _, ?_⟩, HB.out.setCell (p := ⟨w.heap.size + 1, 0, none⟩) (by simp) _⟩
    rw [HR.out, longest_snoc]
    have e : ((max (longest (raws pre)) x.1.2.length : Nat) : Int) = max (longest (raws pre) : Int) (x.1.2.length : Int) := by omega
    rw [e]
    exact HGo.out.set _
  case done =>
    rintro D ys W hD rfl ⟨⟨_, hG⟩, hB⟩ hK
    have hc := hG.cell
    have HB := hid hB
    clear hG hB
    gi_wp2
    refine ⟨by simp, .inl ⟨_, _, rfl, run_takeDeferred hK, ?_⟩⟩
    exact ⟨_, results_tmp rfl _ _ _, rfl, HB.out.trans (belowK_b (w := w) (Nat.le_refl _) W D _ _ (by simp at hD; omega) hK rfl rfl)⟩
  case stop =>
    rintro D c pre W _ _ h _
    exact h.elim
theorem Keeps.ofBelow {w w' : World} (h : Below w.heap.size w w') : Keeps [] w w' := ⟨h.os, h.tape, h.output, h.size, fun k hk _ => h.block k hk⟩

theorem RowAt.off {w : World} {u : Value} {zs : List Int} (h : RowAt w u zs) {g : Nat} (hg : w.heap.size ≤ g) : Off [g] u zs := by
  intro ad n c e hne hm
  have hpos : 0 < zs.length := List.length_pos_iff.2 hne
  obtain ⟨g2, off, cap, rfl, _, hc⟩ := h.open hpos
  injection e with e1 _ _
  obtain rfl := Option.some.inj e1
  have := World.block_lt_of_cell? _ _ (hc 0 hpos)
  simp at hm this
  omega

theorem raws_byte {w0 : World} (rs : List (El w0)) : BytesL (raws rs) := by
  intro r hr z hz
  simp only [raws, List.mem_map] at hr
  obtain ⟨x, _, rfl⟩ := hr
  exact x.2.1.bytes z hz

theorem fold_byte (xs : List Int) (hx : ∀ z ∈ xs, byteB z) (l : List (List Int)) (h : BytesL l) : ∀ z ∈ l.foldl mixL xs, byteB z := by
  revert h
  refine snoc_ind (P := fun l => BytesL l → ∀ z ∈ l.foldl mixL xs, byteB z) (by simpa using fun _ => hx) (fun l r ih => ?_) l
  intro h
  rw [List.foldl_append]
  exact mixL_byte (ih (fun q hq => h q (by simp [hq]))) (h r (by simp))

theorem owned_own {β : Type} (B g n cap : Nat) (f : β → List Int) : Own (fun s W => Owned W B g n cap (f s)) := fun s X Y row hs hg hrow => by
  refine hs.kept hg ?_
  rcases hs.2 with ⟨h', _⟩ | ⟨g', cap', cur, h', hb, hgg, _⟩
  · simp at h'
  · refine .inr fun e' => ?_
    injection h' with h1 _ _
    injection h1 with h1
    injection h1 with h1
    subst h1
    obtain ⟨o, ho, hc⟩ := hrow g (by simpa [Value.ownBlock] using e'.symm)
    rw [hgg] at ho
    cases ho
    cases hc

theorem Owned.lt {w : World} {B g n cap : Nat} {xs : List Int} (h : Owned w B g n cap xs) : B ≤ g ∧ g < w.heap.size := World.ownsRow.lt h g rfl

theorem boxed_keeps {S : List Nat} {W W' : World} {B : Nat} {t : TypeId} {v : Value} (h : Boxed W B t v) (k : Keeps S W W') (hB : B ∉ S) : Boxed W' B t v := (k.block B h.lt hB).trans h

theorem Keeps.below' {g : Nat} {a b : World} (h : Keeps [g] a b) (hg : g ≤ a.heap.size) : Below g a b := h.below hg (by simp)

set_option maxRecDepth 100000 in
set_option maxHeartbeats 4000000 in
theorem foldRow_in (n : Nat) (hn : 4 ≤ n) (gf : Nat) (lb : Array Value) (n₀ : Nat) {w0 : World} (rs : List (El w0)) (N : Nat) (w : World) (hgf : Enters Try.prog gf) (hseq : Gives (n - 1) gf lb n₀ rs N w)
    (B g m : Nat) (xs : List Int) (hw : Below w0.heap.size w0 w) (hg0 : w0.heap.size ≤ g) (hng : n₀ ≤ g) (hown : Owned w B g m m xs) (hx : ∀ z ∈ xs, byteB z) (hm : m ≤ 140737488351232) :
    CallsIn Fence.wide n Try.prog 155 #[.func (.func gf) #[] lb, .slice (some ⟨g, 0, none⟩) m m, .func (.func 156) #[] #[]] w fun e W' =>
      e = .returned (.slice (some ⟨g, 0, none⟩) m m) ∧ Owned W' B g m m ((raws rs).foldl mixL xs) ∧ Below g w W' := by
  have h1 : 1 ≤ n := by omega
  have HS := hid hseq
  have HG := hid hgf
  have HO := hid hown
  have HX := hid hx
  have HW := hid hw
  have hlt := Owned.lt hown
  clear hseq hgf hown hx hw
  refine callsIn_of_wp_marks Try.func155 rfl trivial ?_ rfl
  simp only [Try.ntmps155, List.size_toArray, List.length_cons, List.length_nil, Nat.reduceAdd, Nat.reduceSub, Array.replicate_succ, Array.replicate_zero, List.push_toArray, List.append_toArray, List.nil_append, List.cons_append]
  gi_wp2
  have hB0 : Below w.heap.size w ((w.alloc (.cells #[.func (.func 156) #[] #[]] 208)).alloc (.cells #[.slice (some ⟨g, 0, none⟩) m m] 34)) := ((Below.refl _ w).alloc (Nat.le_refl _) _).alloc (by simp) _
  have bT := Boxed.new w 208 (.func (.func 156) #[] #[])
  have bG := Boxed.new (w.alloc (.cells #[.func (.func 156) #[] #[]] 208)) 34 (.slice (some ⟨g, 0, none⟩) m m)
  rw [World.size_alloc] at bG
  refine wpIn_rangeFunc_ownG rfl h1 (gf := gf) (lb := lb) rfl trivial HG.out HS.out belowK_t (belowK_b (by simp; omega)) hB0 (fun _ => rfl)
    (fun pre W => (Boxed W w.heap.size 208 (.func (.func 156) #[] #[]) ∧ Boxed W (w.heap.size + 1) 34 (.slice (some ⟨g, 0, none⟩) m m) ∧ Owned W B g m m ((raws pre).foldl mixL xs)) ∧ Below g w W)
    (fun _ _ _ => False)
    (OwnFrom.and (Own.from (fun s A B row hs hg hr => ⟨boxed_own (β := Unit) _ _ (fun _ => _) () A B row hs.1 hg hr, boxed_own (β := Unit) _ _ (fun _ => _) () A B row hs.2.1 hg hr, owned_own (β := Unit) _ _ _ _ (fun _ => _) () A B row hs.2.2 hg hr⟩) _) (ownFrom_below (by omega) (by simp; omega)))
    (fun _ _ _ _ _ hs _ _ => hs)
    ⟨⟨bT.alloc _, bG, (HO.out.alloc _).alloc _⟩, hB0.mono (by omega)⟩
    (fun x => { tmps := #[.func (.func gf) #[] lb, .slice (some ⟨g, 0, none⟩) m m, .func (.func 156) #[] #[], undef, undef, .pointer (some ⟨w.heap.size, 0, none⟩), .slice none 0 0, .pointer (some ⟨w.heap.size + 1, 0, none⟩), x.1.1, .slice (some ⟨g, 0, none⟩) m m, .func (.func gf) #[] lb, x.1.1, undef, undef, undef, undef, undef], defers := [] }) ?assign ?body ?done ?stop
  case assign =>
    intro l x W K hK
    gi_wp2
    exact hK
  case body =>
    rintro l pre x W ⟨⟨hT, hG, hO⟩, hB⟩ _
    have HR := hid (raws_snoc pre x)
    have HB := hid hB
    have hbw : Below w0.heap.size w0 W := HW.out.trans (hB.mono (by omega))
    have HX1 := hid (x.2.1.keep (Keeps.ofBelow hbw) (by intro _ _ _ _ _; simp))
    have HX2 := hid (x.2.1.off hg0)
    have HX3 := hid x.2.2
    have HY := hid (fold_byte xs HX.out (raws pre) (raws_byte pre))
    have c1 := hT.cell
    have c2 := hG.cell
    have f2 := hG.frozen
    have HT := hid hT
    have HGo := hid hG
    have HO1 := hid hO
    clear hT hG hB hbw hO
    gi_wp2
    refine ⟨trivial, fun h => by simp [Fence.wide] at h, (CallsIn.inRound l (callsIn_wide.2 (mix_any W B g m m _ x.1.2 x.1.1 HO1.out HY.out HX1.out HX2.out hm HX3.out))).mono ?_⟩
    rintro e w' ⟨rfl, hO2, hK2⟩
    have hlt2 := Owned.lt HO1.out
    have hbs := HB.out.size
    have ht0 := HT.out.lt
    have hT2 := boxed_keeps HT.out hK2 (by simp; omega)
    have hG2 := boxed_keeps HGo.out hK2 (by simp; omega)
    have c3 := hG2.cell
    have f3 := hG2.frozen
    have HO2 := hid hO2
    have HK2 := hid hK2
    have HT2 := hid hT2
    have HG2 := hid hG2
    clear hO2 hK2 hT2 hG2
    gi_wp2
    have kf : KeepsFrom ((w.alloc (.cells #[.func (.func 156) #[] #[]] 208)).alloc (.cells #[.slice (some ⟨g, 0, none⟩) m m] 34)).heap.size W w' :=
      ⟨HK2.out.size, fun k o hk h0 _ => (HK2.out.block k (Array.getElem?_eq_some_iff.1 h0).1 (by simp at hk ⊢; omega)).trans h0⟩
    refine ⟨kf.trans ((KeepsOthers.setCell _ _ _).from _), (HK2.out.below (B := n₀) (by omega) (by simp; omega)).setCell (p := ⟨w.heap.size + 1, 0, none⟩) (by show n₀ ≤ w.heap.size + 1; omega) _,
      ⟨HT2.out.other (by omega) _, HG2.out.set _, ?_⟩, (HB.out.trans (HK2.out.below (B := g) (by omega) (by simp))).setCell (p := ⟨w.heap.size + 1, 0, none⟩) (by show g ≤ w.heap.size + 1; omega) _⟩
    rw [HR.out, List.foldl_append]
    exact ownsRow_setCell_other (a := ⟨w.heap.size + 1, 0, none⟩) HO2.out (by simp [Value.ownBlock]; omega) _
  case done =>
    rintro D ys W hD rfl ⟨⟨_, hG, hO⟩, hB⟩ hK
    have hc := hG.cell
    have HB := hid hB
    have HO1 := hid hO
    clear hG hB hO
    gi_wp2
    refine ⟨by simp, .inl ⟨_, _, rfl, run_takeDeferred hK, ?_⟩⟩
    exact ⟨_, results_tmp rfl _ _ _, rfl, ownsRow_putObj HO1.out _ hK rfl, HB.out.trans (belowK_b (w := w) (by omega) W D _ _ (by simp at hD; omega) hK rfl rfl)⟩
  case stop =>
    rintro D c pre W _ _ h _
    exact h.elim
end Go.Proofs.Ytoglcohdanpciaa
