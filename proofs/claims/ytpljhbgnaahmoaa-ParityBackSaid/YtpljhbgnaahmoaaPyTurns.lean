/- Where one row is another one, the parity is another one by just what that row is another one; parities of parts make the parity of all (the law ParityTurns): for every slice of rows, every row and every place the law returns true, and all of them read as they did. No condition. -/
import Derived.Test.YtpljhbgnaahmoaaPyRows
import Derived.Deep.RegionHeld3
namespace Go.Proofs.Ytpljhbgnaahmoaa
open Go.ChangeShapes Go.WideShapes Go.ChangeAt Go.RowKit

theorem wpList_append_src {P : Program} {ops : Array Oper} {rest : List Oper} {o : Oper} {a : Act} {w : World} {Q : Exit → Act → World → Prop} (hgd : o.guard = none) (s x : Operand) (t : TypeId)
    (ho : o.op = .call { callee := .builtin .append, args := #[s, x], argTypes := #[t, t] })
    (B : Nat) (e : TypeId) (i : TypeInfo) (z : Value) (bytes : Nat) (ht : P.underlying t = some (.slice e)) (hi : P.info? e = some i) (hz : i.zero = some z)
    (hsize : i.size = 1) (hby : i.bytes = bytes) (hzs : z.cells.size = 1) (v : Value) (n : Nat) (xs : List Value) (hs : a.eval s = v) (hown : w.ownsRow B e 1 v n xs)
    (A : Option Addr) (m c : Nat) (news : List Value) (hx : a.eval x = .slice A m c) (hl : news.length = m) (hA : A = none → c = 0) (hmc : m ≤ c) (hnews : ∀ ad, A = some ad → ∀ j u, news[j]? = some u → w.cell? (ad.add j) = some u)
    (h1 : ∀ u ∈ news, u.oneCell' = true) (hn : n + m ≤ maxLen) (hb : (n + m) * bytes ≤ 140737488355328) (hbase : B ≤ w.heap.size)
    (h : ∀ a' c' w', Hid (w'.ownsRow B e 1 (.slice a' (n + m) c') (n + m) (xs ++ news)) → Hid (w.grownBy w' v.ownBlock) → wpList P ops Q rest (a.put o.dst (.slice a' (n + m) c')) w') :
    wpList P ops Q (o :: rest) a w := by
  refine wpList_plain hgd fun K hK => ?_
  obtain ⟨a', c', w', hrun, g1, g2⟩ := run_append_src (P := P) w B t o.type e i z bytes ht hi hz hsize hby hzs v n xs hown A m c news hl hA hmc hnews h1 hn hb hbase
  unfold Oper.wp
  simp [execOp, ho, resolve, invoke, builtin, hs, hx, hrun, Result.andThen]
  exact hK _ _ (h a' c' w' g1 g2)

theorem own_head {w : World} {B : Nat} {T : TypeId} {a : Option Addr} {n m cap : Nat} {xs : List Value} (h : w.ownsRow B T 1 (.slice a n cap) m xs) (hn : 0 < m) : ∃ g, a = some ⟨g, 0, none⟩ := by
  rcases h.2 with ⟨h', h0⟩ | ⟨g, cap', cur, h', _⟩
  · omega
  · injection h' with h1 h2
    exact ⟨g, h1⟩
theorem own_slot {w0 w : World} {B : Nat} {T : TypeId} {a : Option Addr} {n cap : Nat} {rs : List (El w0)} (h : w.ownsRow B T 1 (.slice a n cap) n (rs.map fun r => r.1.1)) {i : Nat} (hi : i < rs.length) :
    ∀ g, a = some ⟨g, 0, none⟩ → w.cell? ⟨g, i, none⟩ = some rs[i].1.1 ∧ w.frozen? ⟨g, i, none⟩ = false := by
  rintro g rfl
  have hl : rs.length = n := by simpa using h.1
  refine ⟨?_, World.ownsRow.frozenAt h i⟩
  rw [World.ownsRow.cellAt h i (by omega), List.getElem?_map, List.getElem?_eq_getElem hi]
  rfl

theorem raws_set {w0 : World} (rs : List (El w0)) (i : Nat) (x : El w0) : raws (rs.set i x) = (raws rs).set i x.1.2 := by
  unfold raws; rw [List.map_set]
theorem raws_at {w0 : World} (rs : List (El w0)) {i : Nat} (hi : i < rs.length) : (raws rs).getD i [] = rs[i].1.2 := by
  simp [raws, List.getD_eq_getElem?_getD, hi]

/-- A head was stored into rows that the call owns. -/
theorem rows_stored {w0 w : World} {B g n cap : Nat} {rs : List (El w0)} (h : w.ownsRow B 25 1 (.slice (some ⟨g, 0, none⟩) n cap) n (rs.map fun r => r.1.1)) (i : Nat) (x : El w0) :
    RowsAt (w.setCell ⟨g, i, none⟩ x.1.1) (.slice (some ⟨g, 0, none⟩) n cap) (rs.set i x) := by
  have := (World.ownsRow.stored h i x.1.1).1
  refine rows_of_own (B := B) ?_
  rw [List.map_set]
  exact this

theorem turn_holds {w0 : World} (rs : List (El w0)) {i : Nat} (hi : i < rs.length) (x : El w0) :
    zeroB (xorL [xorL [xorL (raws rs), xorL (raws (rs.set i x)), rs[i].1.2, x.1.2]]) = true := by
  have hb := raws_byte rs
  have hb2 := raws_byte (rs.set i x)
  rw [one_is _ (xorL_byte (by
    intro r hr
    simp only [List.mem_cons, List.not_mem_nil, or_false] at hr
    rcases hr with rfl | rfl | rfl | rfl
    · exact xorL_byte hb
    · exact xorL_byte hb2
    · exact rs[i].2.1.bytes
    · exact x.2.1.bytes))]
  refine zeroB_of (allZero_xorL fun j => ?_)
  have := other_zero (raws rs) i (by simpa [raws] using hi) x.1.2 j
  rwa [raws_at rs hi, ← raws_set] at this

theorem RowsAt.cellAt {w0 w : World} {g o n cap : Nat} {rs : List (El w0)} (h : RowsAt w (.slice (some ⟨g, o, none⟩) n cap) rs) {i : Nat} (hi : i < rs.length) : w.cell? ⟨g, o + i, none⟩ = some rs[i].1.1 := by
  obtain ⟨g', o', _, e1, _, hc⟩ := h.open (by omega)
  injection e1 with e1 _ _
  injection e1 with e1
  injection e1 with e1 e2
  subst e1; subst e2
  exact hc i hi

theorem longest_four (p q r s : List Int) : longest [p, q, r, s] = max (max (max (max 0 p.length) q.length) r.length) s.length := rfl

/-- What the walk wants to know of the rows. -/
theorem turn_facts {w : World} {g o cap : Nat} {rs : List (El w)} (hR : RowsAt w (.slice (some ⟨g, o, none⟩) rs.length cap) rs) {ua : Option Addr} {uc : Nat} {b : List Int} (hb : RowAt w (.slice ua b.length uc) b) (hbl : b.length ≤ 300)
    (hl : rs.length ≤ 40) (hm : longest (raws rs) ≤ 300) {i cut : Nat} (hi : i < rs.length) (hcut : cut ≤ rs.length) :
    ∃ (zl zk zt zd ri : List Int) (ai : Option Addr) (ci : Nat) (at' ad' : Option Addr) (ks : List (El w)),
      (∀ w', Keeps [] w w' → Calls Try.prog 40 #[.slice (some ⟨g, o, none⟩) rs.length cap] w' (RowPost w' zl)) ∧
      (∀ (w' : World) (g2 c2 : Nat), Keeps [] w w' → RowsAt w' (.slice (some ⟨g2, 0, none⟩) rs.length c2) ks → Calls Try.prog 40 #[.slice (some ⟨g2, 0, none⟩) rs.length c2] w' (RowPost w' zk)) ∧
      (∀ W, (Instr.slice 61 (.slice (some ⟨g, o, none⟩) rs.length cap) none (some (.int .i64 (cut : Int))) none).run Try.prog W = .ok (.slice at' cut cap) W) ∧
      (∀ w', Keeps [] w w' → Calls Try.prog 40 #[.slice at' cut cap] w' (RowPost w' zt)) ∧
      (∀ W, (Instr.slice 61 (.slice (some ⟨g, o, none⟩) rs.length cap) (some (.int .i64 (cut : Int))) none none).run Try.prog W = .ok (.slice ad' (rs.length - cut) (cap - cut)) W) ∧
      (∀ w', Keeps [] w w' → Calls Try.prog 40 #[.slice ad' (rs.length - cut) (cap - cut)] w' (RowPost w' zd)) ∧
      (∀ (w2 : World) (B g2 c2 : Nat), w2.ownsRow B 25 1 (.slice (some ⟨g2, 0, none⟩) rs.length c2) rs.length (rs.map fun r => r.1.1) → RowsAt (w2.setCell ⟨g2, i, none⟩ (.slice ua b.length uc)) (.slice (some ⟨g2, 0, none⟩) rs.length c2) ks) ∧
      (∀ w', Keeps [] w w' → w'.cell? ⟨g, o + i, none⟩ = some (.slice ai ri.length ci)) ∧ RowAt w (.slice ai ri.length ci) ri ∧
      zeroB (xorL [xorL [zl, zk, ri, b]]) = true ∧ xorL [zt, zd] = zl ∧ zl.length ≤ 300 ∧ zk.length ≤ 300 ∧ zt.length ≤ 300 ∧ zd.length ≤ 300 ∧ ri.length ≤ 300 ∧ (xorL [zl, zk, ri, b]).length ≤ 300 := by
  obtain ⟨ai, ci, hx⟩ := rs[i].slice
  have hri := rs[i].2.1
  have hrl : rs[i].1.2.length ≤ 300 := Nat.le_trans (le_longest (by simp only [raws, List.mem_map]; exact ⟨rs[i], List.getElem_mem hi, rfl⟩)) hm
  obtain ⟨xb, hxb1, hxb2⟩ : ∃ x : El w, x.1.1 = .slice ua b.length uc ∧ x.1.2 = b := ⟨El.mk' hb (by omega), rfl, rfl⟩
  obtain ⟨at', _, s1, t1⟩ := rows_take hR cut hcut
  obtain ⟨ad', _, s2, t2⟩ := rows_drop hR cut hcut
  have F1 := turn_holds rs hi xb
  have F2 := parts_is (raws rs) cut
  have e1 : (raws rs).take cut = raws (rs.take cut) := by unfold raws; rw [List.map_take]
  have e2 : (raws rs).drop cut = raws (rs.drop cut) := by unfold raws; rw [List.map_drop]
  rw [e1, e2] at F2
  rw [hxb2] at F1
  have F3 : (xorL (raws rs)).length ≤ 300 := by rw [xorL_length]; exact hm
  have F4 : (xorL (raws (rs.set i xb))).length ≤ 300 := by
    rw [xorL_length]
    refine longest_le fun r hr => ?_
    rw [raws_set] at hr
    rcases List.mem_or_eq_of_mem_set hr with hr | rfl
    · exact Nat.le_trans (le_longest hr) hm
    · rw [hxb2]; exact hbl
  have F5 : (xorL (raws (rs.take cut))).length ≤ 300 := by
    rw [xorL_length]
    refine Nat.le_trans (longest_sub fun r hr => ?_) hm
    rw [← e1] at hr
    exact List.mem_of_mem_take hr
  have F6 : (xorL (raws (rs.drop cut))).length ≤ 300 := by
    rw [xorL_length]
    refine Nat.le_trans (longest_sub fun r hr => ?_) hm
    rw [← e2] at hr
    exact List.mem_of_mem_drop hr
  refine ⟨xorL (raws rs), xorL (raws (rs.set i xb)), xorL (raws (rs.take cut)), xorL (raws (rs.drop cut)), rs[i].1.2, ai, ci, at', ad', rs.set i xb, fun w' k => xor_at k _ rs (hR.keep k) (by omega), fun w' g2 c2 k h => xor_at k _ _ h (by rw [List.length_set]; omega), s1,
    fun w' k => xor_at k _ (rs.take cut) (t1 w' (hR.keep k)) (by rw [List.length_take]; omega), s2, fun w' k => xor_at k _ (rs.drop cut) (t2 w' (hR.keep k)) (by rw [List.length_drop]; omega), ?_, ?_, ?_, F1, F2, F3, F4, ?_, ?_, hrl, ?_⟩
  · intro w2 B g2 c2 h
    rw [← hxb1]
    exact rows_stored h i xb
  · intro w' k
    rw [(hR.keep k).cellAt hi, hx]
  · rw [← hx]; exact hri
  · exact F5
  · exact F6
  · rw [xorL_length, longest_four]
    omega

set_option maxRecDepth 100000 in
set_option maxHeartbeats 8000000 in
theorem lturns_any (w : World) (v : Value) (rs : List (El w)) (hR : RowsAt w v rs) (u : Value) (b : List Int) (hb : RowAt w u b) (z : Int) (hz : 0 ≤ z ∧ z ≤ 255) :
    Calls Try.prog 13 #[v, u, .int .u8 z] w fun e w' => e = .returned (.bool true) ∧ Keeps [] w w' := by
  have HR := hid hR
  have HB := hid hb
  obtain ⟨a, cap, rfl, y⟩ := hR
  clear y
  obtain ⟨ua, uc, rfl, y⟩ := hb
  clear y
  obtain ⟨z1, z2⟩ := hz
  go_enter Try.func13, Try.ntmps13
  go_wp2_with fail
  refine (lawake_any w).mono ?_
  rintro e w1 ⟨rfl, q1⟩
  have K1 := hid q1
  clear q1
  go_wp2_with fail
  refine (small_any w1 _ rs 300 (HR.out.keep K1.out)).mono ?_
  rintro e w2 ⟨rfl, rfl⟩
  cases hs : smallB rs 300 with
  | false =>
    clear hs
    go_wp2_with fail
    go_ret
    exact ⟨rfl, K1.out⟩
  | true =>
    have HL := hid (smallB_len hs)
    have HM := hid (small_longest (most := 300) hs)
    clear hs
    by_cases h0 : rs.length = 0
    · have h0' : ((rs.length : Int) == 0) = true := by simp [h0]
      clear h0
      go_wp2_with fail
      go_ret
      exact ⟨rfl, K1.out⟩
    have h0' : ((rs.length : Int) == 0) = false := by rw [beq_eq_false_iff_ne]; omega
    have hpos : 0 < rs.length := by omega
    clear h0
    by_cases hbl : 300 < b.length
    · have hbl' : (300 : Int) < b.length := by omega
      go_wp2_with fail
      go_ret
      exact ⟨rfl, K1.out⟩
    have hbl' : ¬ (300 : Int) < b.length := by omega
    have hl40 : rs.length ≤ 40 := HL.out
    obtain ⟨i, hi⟩ : ∃ i : Nat, z % (rs.length : Int) = (i : Int) := ⟨(z % (rs.length : Int)).toNat, by have := Int.emod_nonneg z (show (rs.length : Int) ≠ 0 by omega); omega⟩
    have hil : i < rs.length := by have := Int.emod_lt_of_pos z (show (0 : Int) < rs.length by omega); omega
    obtain ⟨cut, hcut⟩ : ∃ i : Nat, z % ((rs.length : Int) + 1) = (i : Int) := ⟨(z % ((rs.length : Int) + 1)).toNat, by have := Int.emod_nonneg z (show ((rs.length : Int) + 1) ≠ 0 by omega); omega⟩
    have hcl : cut ≤ rs.length := by have := Int.emod_lt_of_pos z (show (0 : Int) < (rs.length : Int) + 1 by omega); omega
    have O0 : Hid ((w1.alloc (.cells #[] 25)).ownsRow w1.heap.size 25 1 (.slice (some ⟨w1.heap.size, 0, none⟩) 0 0) 0 []) :=
      World.ownsRow_lit (base := w1.heap.size) (e := 25) (size := 1) w1 #[] 0 (Nat.le_refl _) (by unfold maxLen; omega) rfl
    have K0 := hid (K1.out.alloc (.cells #[] 25))
    obtain ⟨l1, m1, n1, _⟩ := HR.out.parts
    obtain ⟨i0, hi0, hz0, hz1, hz2⟩ := info_parts info25
    have I0 := hid hi0
    have Z0 := hid hz0
    have Z1 := hid hz1
    have Z2 := hid hz2
    have N1 := hid n1
    clear hi0 hz0 hz1 hz2 n1 l1
    go_wp2_with (at_builtin; refine wpList_append_src rfl (.tmp 32) (.tmp 33) 61 rfl w1.heap.size 25 i0 (.slice none 0 0) 24 Try.underlying61 I0.out Z0.out Z1.out Z2.out rfl (.slice (some ⟨w1.heap.size, 0, none⟩) 0 0) 0 [] rfl O0.out a rs.length cap (rs.map fun r => r.1.1) rfl (by rw [List.length_map]) N1.out m1 (HR.out.keep K0.out).parts.2.2.2 (heads_one _) (by unfold maxLen; omega) (by omega) (by simp) ?_; intro a2 c2 w2 O2 G2; simp only [Nat.zero_add, List.nil_append] at O2 ⊢
                 have d1 := own_slot O2.out hil
                 obtain ⟨g2, hg2⟩ := own_head O2.out hpos
                 subst hg2
                 replace d1 := d1 g2 rfl
                 obtain ⟨d1, d2⟩ := d1)
    have K2 : Hid (Keeps [] w w2) := K0.out.grown G2.out (by intro g e; right; exact Nat.le_trans K1.out.size (O0.out.lt g e).1)
    go_wp2_with fail
    obtain ⟨g, o, _, e1, _, hc⟩ := HR.out.open hpos
    injection e1 with e1 _ e3
    subst e1; subst e3
    obtain ⟨zl, zk, zt, zd, ri, ai, ci, at', ad', ks, XL, XK, s1, XT, s2, XD, KR, CI, hri, F1, F2, F3, F4, F5, F6, F7, F8⟩ := turn_facts HR.out HB.out (by omega) hl40 HM.out hil hcl
    have R3 := hid (KR w2 _ g2 c2 O2.out)
    have K3 : Hid (Keeps [] w (w2.setCell ⟨g2, i, none⟩ (.slice ua b.length uc))) := K2.out.setCell (Or.inr (Nat.le_trans K1.out.size (O2.out.lt g2 rfl).1)) _
    replace XL := hid XL
    replace XK := hid XK
    replace XT := hid XT
    replace XD := hid XD
    replace CI := hid CI
    replace hri := hid hri
    replace F1 := hid F1
    replace F2 := hid F2
    clear KR O2 G2 d1 d2 I0 Z0 Z1 Z2 N1 O0 hc K2 K0
    generalize w2.setCell ⟨g2, i, none⟩ (.slice ua b.length uc) = w3 at R3 K3 ⊢
    have S0 := hid (CI.out _ K3.out.drew)
    go_region_held3 (fun w' => w'.cell? ⟨g, o + i, none⟩ = some (.slice ai ri.length ci)) (first | exact y6 | exact y5 | exact y4 | exact S0.out | exact CI.out _ (K5.out.alloc _))
      (first
        | (go_at_call_of 40 (Value.slice (some ⟨g, o, none⟩) rs.length cap); refine (XL.out _ K3.out.drew).mono ?_; rintro e w4 ⟨a4, c4, rfl, q1, _, q2⟩
           have R4 := hid q1
           have K4 := hid (K3.out.drew.trans q2)
           have S4 := hid q2
           have y4 := CI.out _ K4.out
           clear q1 q2)
        | (go_at_call_of 40 (Value.slice (some ⟨g2, 0, none⟩) rs.length c2); refine (XK.out _ g2 c2 K4.out (R3.out.keep ((Keeps.refl [] w3).drew.trans S4.out))).mono ?_; rintro e w5 ⟨a5, c5, rfl, q1, _, q2⟩
           have R5 := hid q1
           have R4' := hid (R4.out.later q2)
           have K5 := hid (K4.out.trans q2)
           have y5 := CI.out _ K5.out
           have X6 := xor_lit w5 [(.slice a4 zl.length c4, zl), (.slice a5 zk.length c5, zk), (.slice ai ri.length ci, ri), (.slice ua b.length uc, b)] (by
             intro r hr
             simp only [List.mem_cons, List.not_mem_nil, or_false] at hr
             rcases hr with rfl | rfl | rfl | rfl
             · exact ⟨R4'.out, by simp only []; omega⟩
             · exact ⟨R5.out, by simp only []; omega⟩
             · exact ⟨hri.out.later K5.out, by simp only []; omega⟩
             · exact ⟨HB.out.later K5.out, by simp only []; omega⟩) 25 (by simp)
           simp only [List.map_cons, List.map_nil, List.length_cons, List.length_nil, Nat.reduceAdd] at X6
           replace X6 := hid X6
           clear q1 q2)
        | (go_at_call 40; refine X6.out.mono ?_; rintro e w6 ⟨a6, c6, rfl, q1, _, q2⟩
           have R6 := hid q1
           have K6 := hid ((K5.out.alloc _).trans q2)
           have y6 := CI.out _ K6.out
           clear q1 q2))
    generalize xorL [zl, zk, ri, b] = zx at *
    clear S0 XK X6 R3 K3 R4 R4' R5 S4 y4 y5 y6
    go_wp2_with fail
    go_region_held3 (fun _ => True) (trivial)
      (first
        | (go_at_call_of 40 (Value.slice at' cut cap); refine (XT.out _ K6.out.drew).mono ?_; rintro e w7 ⟨a7, c7, rfl, q1, _, q2⟩
           have R7 := hid q1
           have K7 := hid (K6.out.drew.trans q2)
           have S7 := hid ((Keeps.refl [] w6).drew.trans q2)
           clear q1 q2)
        | (go_at_call_of 40 (Value.slice ad' (rs.length - cut) (cap - cut)); refine (XD.out _ K7.out).mono ?_; rintro e w8 ⟨a8, c8, rfl, q1, _, q2⟩
           have R8 := hid q1
           have R7' := hid (R7.out.later q2)
           have K8 := hid (K7.out.trans q2)
           have S8 := hid (S7.out.trans q2)
           have X9 := xor_lit w8 [(.slice a7 zt.length c7, zt), (.slice a8 zd.length c8, zd)] (by
             intro r hr
             simp only [List.mem_cons, List.not_mem_nil, or_false] at hr
             rcases hr with rfl | rfl
             · exact ⟨R7'.out, by simp only []; omega⟩
             · exact ⟨R8.out, by simp only []; omega⟩) 25 (by simp)
           simp only [List.map_cons, List.map_nil, List.length_cons, List.length_nil, Nat.reduceAdd, F2.out] at X9
           replace X9 := hid X9
           clear q1 q2)
        | (go_at_call 40; refine X9.out.mono ?_; rintro e w9 ⟨a9, c9, rfl, q1, _, q2⟩
           have R9 := hid q1
           have K9 := hid ((K8.out.alloc _).trans q2)
           have S9 := hid ((S8.out.alloc _).trans q2)
           clear q1 q2))
    have X10 := holds_lit w9 [(.slice a6 zx.length c6, zx)] (by
      intro r hr
      simp only [List.mem_cons, List.not_mem_nil, or_false] at hr
      subst hr
      exact ⟨R6.out.later S9.out, by simp only []; omega⟩) 25 (by simp)
    simp only [List.map_cons, List.map_nil, List.length_cons, List.length_nil, Nat.reduceAdd, F1.out] at X10
    replace X10 := hid X10
    clear X9 R7 R7' R8
    go_wp2_with fail
    refine X10.out.mono ?_
    rintro e w10 ⟨rfl, q2⟩
    have K10 := hid ((K9.out.alloc _).trans q2)
    have R10 := hid (R9.out.later ((lit_keep _ _).trans q2))
    clear q2
    go_wp2_with fail
    refine (XL.out _ K10.out).mono ?_
    rintro e w11 ⟨a11, c11, rfl, q1, _, q2⟩
    have R11 := hid q1
    have R10' := hid (R10.out.later q2)
    have K11 := hid (K10.out.trans q2)
    clear q1 q2
    go_wp2_with fail
    refine (same_self _ _ _ _ R10'.out R11.out (by omega)).mono ?_
    rintro e w12 ⟨rfl, q2⟩
    have K12 := hid (K11.out.trans q2)
    clear q2
    go_wp2_with fail
    go_ret
    exact ⟨rfl, K12.out⟩
end Go.Proofs.Ytpljhbgnaahmoaa
