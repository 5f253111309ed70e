/- parity's Xor. -/
import Derived.Deep.OwnRows
import Derived.Test.YtoglcohdanpciaaPyFold
namespace Go.Proofs.Ytoglcohdanpciaa
open Go.RowKit Go.Shelf

theorem SeqStopsK.later' {n : Nat} {gf : Nat} {lb : Array Value} {n₀ : Nat} {w0 : World} {rs : List (El w0)} {N : Nat} {w w1 : World} (h : Gives n gf lb n₀ rs N w) (hb : Below w.heap.size w w1) : Gives n gf lb n₀ rs N w1 :=
  fun l J Jx W hW hJ hJx hY h0 => h l J Jx W (hb.trans (hW.mono hb.size)) (fun s A B row hs hg hr => hJ s A B row hs hg hr) (fun s A B row hs hg hr => hJx s A B row hs hg hr) hY h0

theorem Owned.row {w : World} {B g n cap : Nat} {xs : List Int} (h : Owned w B g n cap xs) (hx : ∀ z ∈ xs, byteB z) : RowAt w (.slice (some ⟨g, 0, none⟩) n cap) xs := by
  have hl := h.length
  have hc := h
  rcases h.2 with ⟨h', _⟩ | ⟨g', cap', cur, h', hb, hgg, hnc, hcm, hcs, _⟩
  · simp at h'
  · injection h' with h1 _ h3
    subst h3
    refine ⟨some ⟨g, 0, none⟩, cap, by rw [Owned.length hc], by rw [Owned.length hc]; exact hnc, hcm, by simp, hx, ?_⟩
    rintro ad had j u hu
    obtain rfl := Option.some.inj had
    have hj : j < xs.length := by
      have := (List.getElem?_eq_some_iff.1 hu).1
      simpa using this
    rw [Addr.add_lit, Nat.zero_add, Owned.cell hc (by rw [← Owned.length hc]; exact hj), ← hu]
    simp [List.getD_eq_getElem?_getD, hj]

/-- A row in new memory is answered. -/
def RowPost (w : World) (zs : List Int) (e : Ending) (w' : World) : Prop :=
  ∃ a cap, e = .returned (.slice a zs.length cap) ∧ RowAt w' (.slice a zs.length cap) zs ∧ (∀ ad, a = some ad → w.heap.size ≤ ad.block) ∧ Keeps [] w w'

set_option maxHeartbeats 1000000 in
theorem longest_any (gf : Nat) (lb : Array Value) (n₀ : Nat) {w0 : World} (rs : List (El w0)) (N : Nat) (w : World) (hgf : Enters Try.prog gf) (hseq : Gives 8 gf lb n₀ rs N w) (hn0 : n₀ ≤ w.heap.size) :
    Calls Try.prog 105 #[.func (.func gf) #[] lb] w fun e w' => e = .returned (.int .i64 (longest (raws rs))) ∧ Below w.heap.size w w' := by
  have HS := hid hseq
  have HG := hid hgf
  clear hseq hgf
  go_enter Try.func105, Try.ntmps105
  go_wp2_with fail
  refine (callsIn_wide.1 (foldInt_in 9 (by omega) gf lb n₀ rs N w HG.out HS.out hn0)).mono ?_
  rintro e w' ⟨rfl, hb⟩
  have HB := hid hb
  clear hb
  go_wp2_with fail
  go_ret
  exact ⟨rfl, HB.out⟩

set_option maxHeartbeats 1000000 in
theorem mixed_any (gf : Nat) (lb : Array Value) (n₀ : Nat) {w0 : World} (rs : List (El w0)) (N : Nat) (w : World) (hgf : Enters Try.prog gf) (hseq : Gives 8 gf lb n₀ rs N w) (hn0 : n₀ ≤ w.heap.size)
    (hw : Below w0.heap.size w0 w) (m : Nat) (hm : m ≤ 140737488351232) :
    Calls Try.prog 104 #[.func (.func gf) #[] lb, .int .i64 m] w (RowPost w (xorN m (raws rs))) := by
  have hmk := run_make_row' (P := Try.prog) 34 5 (.int .u8 0) 1 Try.underlying34 info5 rfl .i64 .i64 m (by omega) (by omega)
  have HB0 := hid ((Below.refl w.heap.size w).alloc (Nat.le_refl _) (.cells (madeCells #[.int .u8 0] m) 5))
  have HO : Hid (Owned (w.alloc (.cells (madeCells #[.int .u8 0] m) 5)) w.heap.size w.heap.size m m (List.replicate m 0)) := by
    have := World.ownsRow_lit (base := w.heap.size) (e := 5) (size := 1) w (madeCells #[.int .u8 0] m) m (Nat.le_refl _) (by unfold maxLen; omega) (by simp [madeCells])
    rw [toList_madeCells_one] at this
    show World.ownsRow _ _ _ _ _ _ _
    rw [List.map_replicate]
    exact this
  have HS := hid (SeqStopsK.later' hseq HB0.out)
  have HG := hid hgf
  have HW := hid (hw.trans (HB0.out.mono hw.size))
  have hws := hw.size
  clear hseq hgf hw
  go_enter Try.func104, Try.ntmps104
  go_wp2_with fail
  refine (callsIn_wide.1 (foldRow_in 9 (by omega) gf lb n₀ rs N _ HG.out HS.out w.heap.size w.heap.size m _ HW.out hws hn0 HO.out (by
    intro z hz
    simp at hz
    rw [hz.2]; exact byte_zero) hm)).mono ?_
  rintro e w' ⟨rfl, ho, hb⟩
  have HO2 := hid ho
  have HB := hid hb
  clear ho hb
  go_wp2_with fail
  go_ret
  have hl := xorN_length m (raws rs)
  refine ⟨some ⟨w.heap.size, 0, none⟩, m, by rw [hl]; rfl, ?_, ?_, Keeps.ofBelow ((HB0.out.mono (Nat.le_refl _)).trans HB.out)⟩
  · rw [hl]
    exact Owned.row HO2.out (xorN_byte _ _ (raws_byte rs))
  · rintro ad had
    obtain rfl := Option.some.inj had
    exact Nat.le_refl _
theorem RowPost.since {w w2 : World} {zs : List Int} {e : Ending} {w' : World} (h : RowPost w2 zs e w') (k : Keeps [] w w2) : RowPost w zs e w' := by
  obtain ⟨a, cap, he, hr, hn, hk⟩ := h
  exact ⟨a, cap, he, hr, fun ad had => Nat.le_trans k.size (hn ad had), k.trans hk⟩

theorem enters_values : Enters Try.prog 154 := enters_of Try.func154 (by kernel_rfl) rfl
theorem enters_but : Enters Try.prog 188 := enters_of Try.func188 (by kernel_rfl) rfl

theorem raws_longest {w0 : World} (rs : List (El w0)) : longest (raws rs) ≤ 140737488351232 := longest_le (by
  intro r hr
  simp only [raws, List.mem_map] at hr
  obtain ⟨x, _, rfl⟩ := hr
  exact x.2.2)

set_option maxHeartbeats 1000000 in
theorem xor_any (w : World) (v : Value) (rs : List (El w)) (hR : RowsAt w v rs) (hl : rs.length ≤ 1099511627776) :
    Calls Try.prog 57 #[v] w (RowPost w (xorL (raws rs))) := by
  have HR := hid hR
  have HL := raws_longest rs
  obtain ⟨a, cap, rfl, z⟩ := hR
  clear z
  have HB1 := hid ((Below.refl w.heap.size w).alloc (Nat.le_refl _) (.cells #[.slice a rs.length cap] 26))
  have HG1 := hid (values_stops 8 (by omega) w.heap.size (w.heap.size + 1) rs _ hl HR.out (w.alloc (.cells #[.slice a rs.length cap] 26)) HB1.out (by omega) (by simp) (Boxed.new w 26 _).cell)
  go_enter Try.func57, Try.ntmps57
  go_wp2_with fail
  refine (callsIn_wide.1 (values_in 9 a rs.length cap w)).mono ?_
  rintro e w' ⟨rfl, rfl⟩
  go_wp2_with fail
  refine (longest_any _ _ (w.heap.size + 1) rs _ _ enters_values HG1.out (by simp)).mono ?_
  rintro e w2 ⟨rfl, hb⟩
  have HB2 := hid hb
  have hsz := hb.size
  rw [World.size_alloc] at hsz
  clear hb
  go_wp2_with fail
  refine (mixed_any _ _ (w.heap.size + 1) rs _ _ enters_values (SeqStopsK.later' HG1.out HB2.out) hsz (HB1.out.trans (HB2.out.mono (by simp))) _ HL).mono ?_
  intro e w3 hp
  have hp' := hp.since (Keeps.ofBelow (HB1.out.trans (HB2.out.mono (by simp))))
  obtain ⟨a3, c3, rfl, q1, q2, q3⟩ := hp'
  have Q1 := hid q1
  have Q2 := hid q2
  have Q3 := hid q3
  clear q1 q2 q3 hp
  go_wp2_with fail
  go_ret
  exact ⟨a3, c3, rfl, Q1.out, Q2.out, Q3.out⟩

/-- What Fill says. -/
def fillM (l : List (List Int)) (i n : Int) : Option (List Int) :=
  if 0 ≤ i ∧ i < l.length ∧ 0 ≤ n ∧ n ≤ longest (l.eraseIdx i.toNat) then some (xorN n.toNat (l.eraseIdx i.toNat)) else none
def fillRow (r : Option (List Int)) : List Int := r.getD []
def fillErr (r : Option (List Int)) : Int := if r.isNone then 1 else 0

def FillPost (w : World) (r : Option (List Int)) (e : Ending) (w' : World) : Prop :=
  ∃ a cap, e = .returned (.tuple #[.slice a (fillRow r).length cap, .int .i64 (fillErr r)]) ∧ RowAt w' (.slice a (fillRow r).length cap) (fillRow r) ∧ Keeps [] w w'

theorem FillPost.none {w w' : World} (k : Keeps [] w w') : FillPost w none (.returned (.tuple #[.slice none 0 0, .int .i64 1])) w' :=
  ⟨Option.none, 0, rfl, RowAt.nil _, k⟩

theorem raws_erase {w0 : World} (rs : List (El w0)) (i : Nat) : raws (rs.eraseIdx i) = (raws rs).eraseIdx i := by
  unfold raws
  rw [List.eraseIdx_eq_take_drop_succ, List.eraseIdx_eq_take_drop_succ, List.map_append, List.map_take, List.map_drop]

set_option maxHeartbeats 2000000 in
theorem fill_any (w : World) (v : Value) (rs : List (El w)) (hR : RowsAt w v rs) (hl : rs.length ≤ 1099511627776) (i n : Int) :
    Calls Try.prog 119 #[v, .int .i64 i, .int .i64 n] w (FillPost w (fillM (raws rs) i n)) := by
  have HR := hid hR
  have hrl : (raws rs).length = rs.length := by simp [raws]
  obtain ⟨a, cap, rfl, z⟩ := hR
  clear z
  by_cases hi : i < 0
  · have hF : fillM (raws rs) i n = none := by unfold fillM; rw [if_neg (by omega)]
    rw [hF]
    clear hF hrl
    go_enter Try.func119, Try.ntmps119
    go_wp2_with fail
    go_ret2
    exact FillPost.none (Keeps.refl _ _)
  · by_cases hi2 : (rs.length : Int) ≤ i
    · have hF : fillM (raws rs) i n = none := by unfold fillM; rw [if_neg (by omega)]
      rw [hF]
      clear hF hrl
      have h0 : 0 ≤ i := by omega
      go_enter Try.func119, Try.ntmps119
      go_wp2_with fail
      go_ret2
      exact FillPost.none (Keeps.refl _ _)
    · obtain ⟨k, rfl⟩ := Int.eq_ofNat_of_zero_le (show 0 ≤ i by omega)
      have hk : k < rs.length := by omega
      have HB1 := hid (((Below.refl w.heap.size w).alloc (Nat.le_refl _) (.cells #[.slice a rs.length cap] 26)).alloc (by simp) (.cells #[.int .i64 (k : Int)] 3))
      have HG1 := hid (but_stops 8 (by omega) w.heap.size (w.heap.size + 1) (w.heap.size + 2) k rs _ hl HR.out hk ((w.alloc (.cells #[.slice a rs.length cap] 26)).alloc (.cells #[.int .i64 (k : Int)] 3)) HB1.out (by omega) (by simp; omega)
        ((Boxed.new w 26 _).alloc _).cell (by simp) (by omega) (by have := (Boxed.new (w.alloc (.cells #[.slice a rs.length cap] 26)) 3 (.int .i64 (k : Int))).cell; rwa [World.size_alloc] at this))
      by_cases hn : n < 0
      · have hF : fillM (raws rs) k n = none := by unfold fillM; rw [if_neg (by omega)]
        rw [hF]
        clear hF hrl
        go_enter Try.func119, Try.ntmps119
        go_wp2_with fail
        refine (callsIn_wide.1 (but_in 9 a rs.length cap k w)).mono ?_
        rintro e w' ⟨rfl, rfl⟩
        go_wp2_with fail
        go_ret2
        exact FillPost.none (Keeps.ofBelow HB1.out)
      · obtain ⟨m, rfl⟩ := Int.eq_ofNat_of_zero_le (show 0 ≤ n by omega)
        have HL := raws_longest (rs.eraseIdx k)
        have HE := hid (raws_erase rs k)
        by_cases hm : (longest (raws (rs.eraseIdx k)) : Int) < m
        · have hF : fillM (raws rs) k m = none := by unfold fillM; rw [if_neg (by rw [Int.toNat_natCast, ← HE.out]; omega)]
          rw [hF]
          clear hF hrl
          go_enter Try.func119, Try.ntmps119
          go_wp2_with fail
          refine (callsIn_wide.1 (but_in 9 a rs.length cap k w)).mono ?_
          rintro e w' ⟨rfl, rfl⟩
          go_wp2_with fail
          refine (longest_any _ _ (w.heap.size + 2) (rs.eraseIdx k) _ _ enters_but HG1.out (by simp)).mono ?_
          rintro e w2 ⟨rfl, hb⟩
          have HB2 := hid hb
          clear hb
          go_wp2_with fail
          go_ret2
          exact FillPost.none (Keeps.ofBelow (HB1.out.trans (HB2.out.mono (by simp; omega))))
        · have hF : fillM (raws rs) k m = some (xorN m (raws (rs.eraseIdx k))) := by
            unfold fillM
            rw [if_pos (by rw [Int.toNat_natCast, ← HE.out]; omega), Int.toNat_natCast, Int.toNat_natCast, HE.out]
          rw [hF]
          clear hF hrl
          go_enter Try.func119, Try.ntmps119
          go_wp2_with fail
          refine (callsIn_wide.1 (but_in 9 a rs.length cap k w)).mono ?_
          rintro e w' ⟨rfl, rfl⟩
          go_wp2_with fail
          refine (longest_any _ _ (w.heap.size + 2) (rs.eraseIdx k) _ _ enters_but HG1.out (by simp)).mono ?_
          rintro e w2 ⟨rfl, hb⟩
          have HB2 := hid hb
          have hsz := hb.size
          simp only [World.size_alloc] at hsz
          clear hb
          go_wp2_with fail
          refine (mixed_any _ _ (w.heap.size + 2) (rs.eraseIdx k) _ _ enters_but (SeqStopsK.later' HG1.out HB2.out) hsz (HB1.out.trans (HB2.out.mono (by simp; omega))) m (by omega)).mono ?_
          intro e w3 hp
          have hp' := hp.since (Keeps.ofBelow (HB1.out.trans (HB2.out.mono (by simp; omega))))
          obtain ⟨a3, c3, rfl, q1, q2, q3⟩ := hp'
          have Q1 := hid q1
          have Q3 := hid q3
          clear q1 q2 q3 hp
          go_wp2_with fail
          go_ret2
          exact ⟨a3, c3, rfl, Q1.out, Q3.out⟩
end Go.Proofs.Ytoglcohdanpciaa
