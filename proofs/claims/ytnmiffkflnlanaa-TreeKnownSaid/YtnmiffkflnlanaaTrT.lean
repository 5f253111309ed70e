/- The code's tree: List. -/
import Derived.Test.YtnmiffkflnlanaaTrU
namespace Go.Proofs.Ytnmiffkflnlanaa
open Go.RowKit Go.Maps Go.Sort
set_option maxRecDepth 100000

def ListYes (T : TL) (n : Nat) (e : Ending) (w' : World) : Prop := ∃ v es, e = .returned (.tuple #[v, .int .i64 0]) ∧ EnsAt w' v es ∧ EnsOf T n es
def ListPost (T : TL) (p : List UInt8) (w : World) (e : Ending) (w' : World) : Prop :=
  Keeps [] w w' ∧ (if (lookT T p).2.2 = 0 then (if (lookT T p).2.1 = true then ListYes T (lookT T p).1 e w' else e = .returned (.tuple #[.slice none 0 0, .int .i64 10])) else e = .returned (.tuple #[.slice none 0 0, .int .i64 (lookT T p).2.2]))

theorem entry_val {D : DataW Value} {f : List UInt8 → Nat} {u : List UInt8} {v : Value} {kl : Lit} {y : DataW Value × List MemPlace} (h1 : ∀ s, D.atKey (.string s) (.held (numN 0)) = .held (numN (f s))) (h2 : ∀ s, Maps.has D (.string s) = true ↔ f s ≠ 0)
    (hkey : keyOf Try.prog 9 (bstr u) = some kl) (hv : RT v = some y) (hat : ∀ zd, D.atKey kl zd = y.1) : v = numN (f u) ∧ kl = .string u ∧ f u ≠ 0 := by
  obtain ⟨s, hs, hk, _⟩ := WideMaps.string_of_keyOf uStr10 hkey
  have hu : s.data.toList = u := by
    unfold bstr at hs
    injection hs with hs
    rw [← hs]
  rw [hu] at hk
  subst hk
  obtain ⟨y1, y2⟩ := y
  have e1 := RT_inv hv
  have e2 := hat (.held (numN 0))
  rw [h1 u] at e2
  simp only at e2
  rw [e1] at e2
  injection e2 with e2
  refine ⟨e2.symm, rfl, (h2 u).1 ?_⟩
  exact has_true_of_atKey hat

set_option maxHeartbeats 6400000 in
theorem list_in (w : World) (q c : Nat) (T : TL) (G : Nat → Nat) (TI : TreeIn w q T G c) (hc : c ≤ 90000) (s : ByteArray) (hs : s.size ≤ 140737488351232) :
    Calls Try.prog 13 #[.pointer (some ⟨q, 0, none⟩), .string s] w (ListPost T s.data.toList w) := by
  have HI := hid TI
  have HSP := hid (look_any10 w q c T G TI s hs)
  have HOK := hid (lookT_ok (p := s.data.toList) TI.1)
  clear TI
  unfold ListPost
  generalize lookT T s.data.toList = sp at HSP HOK ⊢
  obtain ⟨n, is, x⟩ := sp
  go_enter Try.func13, Try.ntmps13
  go_wp2_with fail
  refine HSP.out.mono ?_
  rintro e w1 ⟨rfl, k1⟩
  have K1 := hid k1
  have HI1 := hid (HI.out.keep0 k1)
  clear k1
  by_cases hx : x = 0
  · subst hx
    have OK := hid (HOK.out rfl)
    have hn2 := (hasT_le HI.out.1 OK.out.1).2
    have hni : ((n : Int) < 129) := by omega
    have hni0 : (0 : Int) ≤ n := by omega
    clear HOK
    cases is with
    | false =>
      go_wp2_with fail
      go_ret2
      exact ⟨K1.out, rfl⟩
    | true =>
      have hd : (xT T n).dir = true := OK.out.2.symm
      have c3 := HI1.out.2.c3 n (by omega)
      rw [hd] at c3
      simp only [if_true] at c3
      obtain ⟨D, ho, hD1, hD2, hD3⟩ := HI1.out.2.map n (by omega) hd
      have HO := hid ho
      have HD1 := hid hD1
      have HD2 := hid hD2
      have hmlt : G n < w.heap.size := (HI.out.2.map n (by omega) hd).lt
      have HDD := hid hd
      clear ho hD1 hD2 hD3 hd
      go_wp2_with (first | (refine wpList_range_own _ rfl _ _ rfl 9 3 keyedS uNames RT (G n) c D rfl HO.out ?_; intro w2 hrg hg hs2; have RG := hid hrg; have G2 := hid hg; clear hrg hg) | fail)
      have K2 : Hid (Keeps [] w w2) := hid (K1.out.grown G2.out (fun k hk => by cases hk))
      have hr0 : Hid (w.heap.size ≤ w1.heap.size) := hid K1.out.size
      generalize w1.heap.size = r at RG hs2 hr0 ⊢
      have hrw : r < w2.heap.size := (ranges_ltT RG.out).2
      have HS0 : Hid (Maps.size D ≤ c) := hid HO.out.size_le
      go_frame
      go_loopw [9] (fun lv wr => ∃ (left : Lit → Bool) (cnt : Nat) (ss : List (List UInt8)) (a : Option Addr) (cc : Nat), Hid (wr.ranges Try.prog 9 RT (G n) r c D left cnt) ∧ Hid (Collected D left ss) ∧ ss.length + cnt ≤ c ∧ lv = .slice a ss.length cc ∧
          Hid (wr.ownsRow w.heap.size 33 3 (.slice a ss.length cc) ss.length (ensC (ss.map (entT T n)))) ∧ Hid (∀ g, (Value.slice a ss.length cc).ownBlock = some g → g ≠ r) ∧ Hid (Keeps [] w wr) ∧ Hid (r < wr.heap.size)) (fun _ wr => wr.rangeLeft (G n) r)
      case atStart => exact ⟨_, _, [], none, 0, RG, hid (Collected.start D), by simpa using HS0.out, rfl, hid (World.ownsRow_nil _ _ _ _), hid (fun g h => by cases h), K2, hid hrw⟩
      case round =>
        obtain ⟨left, cnt, ss, a, cc, hrg, hcol, hle, rfl, hown, hne, hkp, hrl⟩ := hrel
        go_wp2_with (first | (refine wpList_next_ranges _ rfl _ rfl 9 keyedS RT bstr (fun v : Value => v) (fun key kl hk => (by obtain ⟨x, hx, _⟩ := WideMaps.string_of_keyOf uStr10 hk; exact ⟨x.data.toList, hx.trans (bstr_data x).symm⟩)) (fun v y _ => ⟨v, rfl⟩) (G n) r c D left cnt rfl hrg.out ?_ ?_; rotate_left; (intro u v kl y w4 cnt' hkey hlk hv hat hrg4 hlt hgr hsz hen; obtain ⟨ev, ek, hf0⟩ := entry_val HD1.out HD2.out hkey hv hat; subst ev; subst ek; have HF0 := hid hf0; have HLK := hid hlk; have HAT := hid hat; have hkh := hasT_le HI.out.1 (kidT_has HI.out.1 hf0); have hj1 : ((kidT T n u : Nat) : Int) < 129 := (by omega); have hj0 : (0 : Int) ≤ ((kidT T n u : Nat) : Int) := (by omega); have HL4 := hid ((HI.out.keep0 (hkp.out.grown hgr (fun k hk => Or.inr (by injection hk with hk; rw [← hk]; exact hr0.out)))).ld _ (kidT_has HI.out.1 hf0)); have R4 := hid hrg4; have HGR := hid hgr; have HLT := hid hlt; have HSZ := hid hsz; clear hkey hlk hv hat hrg4 hlt hgr hsz hf0 hkh)) | (refine wpList_loadTg rfl _ rfl q (kidT T n u * 4) rfl (xT T (kidT T n u)) (G (kidT T n u)) HL4.out ?_) | fail)
        · refine (isDir_any10 _ (xT T (kidT T n u)) (G (kidT T n u))).mono ?_
          rintro e w5 ⟨rfl, k5⟩
          have kR : Keeps [r] wr w4 := (Keeps.refl [r] wr).grown HGR.out (fun k hk => Or.inl (by injection hk with hk; simp [hk]))
          have hnr : ∀ g, (Value.slice a ss.length cc).ownBlock = some g → g ∉ [r] := fun g hg => by simp; exact hne.out g hg
          have ho5 := (ownsRow_keepT (ownsRow_keepT hown.out kR hnr) k5 (by simp))
          have K5 := hid ((hkp.out.grown HGR.out (fun k hk => Or.inr (by injection hk with hk; rw [← hk]; exact hr0.out))).trans k5)
          have hr5 : r < w5.heap.size := by have h1 := hrl.out; have h2 := HSZ.out; have h3 := k5.size; omega
          have R5 := hid (ranges_blockT R4.out (k5.block _ (ranges_ltT R4.out).1 (by simp)) (k5.block _ (ranges_ltT R4.out).2 (by simp)))
          have e9 : ss.length = (ss.map (entT T n)).length := by simp
          rw [e9] at ho5
          obtain ⟨a6, c6, w6, hrun6, ho6, hg6, hn6⟩ := run_appE w5 w.heap.size 29 _ _ ho5 (entT T n u) K5.out.size (by simp; omega)
          have HO6 := hid ho6
          have hg6' : Keeps [] w w6 := by
            refine Keeps.grown (w := w5.alloc (.cells (enC (entT T n u)).toArray 33)) (K5.out.alloc _) hg6 fun k hk => Or.inr ?_
            exact own_ge ho5 hk
          have K6 := hid hg6'
          have R6 : Hid (w6.ranges Try.prog 9 RT (G n) r c D (fun z => left z && !z.sameKey (.string u)) cnt') := hid (by
            have hb1 := (ranges_ltT R5.out).1
            have e1 : (w5.alloc (.cells (enC (entT T n u)).toArray 33)).heap[G n]? = w5.heap[G n]? := Below.heap_alloc _ _ _ hb1
            have e2 : (w5.alloc (.cells (enC (entT T n u)).toArray 33)).heap[r]? = w5.heap[r]? := Below.heap_alloc _ _ _ hr5
            refine ranges_blockT R5.out ((hg6.block _ (by simp; omega) (fun h => ?_)).trans e1) ((hg6.block _ (by simp; omega) (fun h => ?_)).trans e2)
            · have := own_ge ho5 h.symm
              omega
            · exact hne.out r (by rw [e9]; exact h.symm) rfl)
          have HN6 : Hid (∀ g, (Value.slice a6 (ss.length + 1) c6).ownBlock = some g → g ≠ r) := hid (by
            rw [e9]
            intro g hg e
            rcases hn6 with h | h
            · rw [h] at hg; exact hne.out g (by rw [e9]; exact hg) e
            · have := h g hg; simp at this; omega)
          have HC6 := hid (hcol.out.step HLK.out HAT.out)
          rw [← e9] at hrun6 HO6
          have hr6 : Hid (r < w6.heap.size) := hid (by have := hg6.size; simp at this; omega)
          have hcnt := HLT.out
          clear ho5 ho6 hg6 hg6' hn6 kR hnr k5 e9
          go_wp2_with (first | (refine wpList_buildEn rfl _ _ _ rfl (entT T n u) rfl rfl rfl ?_) | (refine wpList_is rfl _ _ (exec_oneEn _ (entT T n u) rfl rfl) ?_) | (refine wpList_is rfl _ _ (exec_appendT _ _ _ rfl rfl rfl hrun6) ?_) | fail)
          go_roundw
          case rel =>
            refine ⟨_, cnt', ss ++ [u], a6, c6, R6, HC6, by simp; omega, by simp, hid ?_, hid (by simpa using HN6.out), K6, hr6⟩
            have := HO6.out
            simpa using this
          case measure =>
            rw [R6.out.left_eq, hrg.out.left_eq]
            exact hcnt
        · intro h0 hl
          have hmem : ∀ u, u ∈ ss ↔ kidT T n u ≠ 0 := fun u => by
            rw [hcol.out.2 u, hl, ← HD2.out u]
            simp
          have e9 : (ss.map (entT T n)).length = ss.length := by simp
          have hnd : ((ss.map (entT T n)).map (·.nm)).Nodup := by
            rw [List.map_map]
            have : ((fun x : En => x.nm) ∘ entT T n) = id := rfl
            rw [this, List.map_id]
            exact hcol.out.1
          have SO := sort_own wr w.heap.size a (ss.map (entT T n)) cc (by rw [e9]; exact hown.out) (by rw [e9]; omega) hnd
          rw [e9] at SO
          have HSO := hid SO
          have HMEM := hid hmem
          have hge : ∀ g, (Value.slice a ss.length cc).ownBlock = some g → w.heap.size ≤ g := fun g hg => own_ge hown.out hg
          have HGE := hid hge
          clear SO hmem e9 hnd hge hl
          go_wp2_with fail
          refine HSO.out.mono ?_
          rintro e w7 ⟨rfl, fs, hp, hs, hE, k7⟩
          have HP := hid hp
          have HS := hid hs
          have HE := hid hE
          have K7 := hid (hkp.out.trans' k7 (fun i hi hm => by
            have := HGE.out i (by simpa using hm)
            omega))
          clear hp hs hE k7
          go_wp2_with fail
          go_ret2
          refine ⟨K7.out, _, fs, rfl, HE.out, HS.out, fun x => ?_⟩
          rw [HP.out.mem_iff, List.mem_map]
          constructor
          · rintro ⟨u, hu, rfl⟩
            exact ⟨(HMEM.out u).1 hu, rfl⟩
          · rintro ⟨h1, h2⟩
            exact ⟨x.nm, (HMEM.out _).2 h1, h2.symm⟩
  · have hx' : (x != 0) = true := by simpa using hx
    have HX := hid hx
    clear hx
    go_wp2_with fail
    go_ret2
    exact ⟨K1.out, rfl⟩
theorem list_any10 {w : World} {q c : Nat} {T : TL} {F : List Nat} (A : TreeAt w q T F c) (hc : c ≤ 90000) (s : ByteArray) (hs : s.size ≤ 140737488351232) :
    Calls Try.prog 13 #[.pointer (some ⟨q, 0, none⟩), .string s] w (ListPost T s.data.toList w) := by
  obtain ⟨G, TI, rfl⟩ := A
  exact list_in w q c T G TI hc s hs
end Go.Proofs.Ytnmiffkflnlanaa
