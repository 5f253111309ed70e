/- Where one row is another one, the parity is another one by just what that row is another one; parities of parts make the parity of all (the law ParityTurns): for every slice of rows, every row and every place the law returns true, and all of them read as they did. No condition. -/
import Derived.Test.YtoglcohdanpciaaPyRows
import Derived.Deep.RegionHeld3
namespace Go.Proofs.Ytoglcohdanpciaa
open Go.ChangeShapes Go.WideShapes Go.ChangeAt Go.RowKit

theorem wpList_append_src {P : Program} {ops : Array Oper} {rest : List Oper} {o : Oper} {a : Act} {w : World} {Q : Exit → Act → World → Prop} (hgd : o.guard = none) (s x : Operand) (t : TypeId)
    (ho : o.op = .call { callee := .builtin .append, args := #[s, x], argTypes := #[t, t] })
    (B : Nat) (e : TypeId) (i : TypeInfo) (z : Value) (bytes : Nat) (ht : P.underlying t = some (.slice e)) (hi : P.info? e = some i) (hz : i.zero = some z)
    (hsize : i.size = 1) (hby : i.bytes = bytes) (hzs : z.cells.size = 1) (v : Value) (n : Nat) (xs : List Value) (hs : a.eval s = v) (hown : w.ownsRow B e 1 v n xs)
    (A : Option Addr) (m c : Nat) (news : List Value) (hx : a.eval x = .slice A m c) (hl : news.length = m) (hA : A = none → c = 0) (hmc : m ≤ c) (hnews : ∀ ad, A = some ad → ∀ j u, news[j]? = some u → w.cell? (ad.add j) = some u)
    (h1 : ∀ u ∈ news, u.oneCell' = true) (hn : n + m ≤ maxLen) (hb : (n + m) * bytes ≤ 140737488355328) (hbase : B ≤ w.heap.size)
    (h : ∀ a' c' w', Hid (w'.ownsRow B e 1 (.slice a' (n + m) c') (n + m) (xs ++ news)) → Hid (w.grownBy w' v.ownBlock) → wpList P ops Q rest (a.put o.dst (.slice a' (n + m) c')) w') :
    wpList P ops Q (o :: rest) a w := by
  refine wpList_plain hgd fun K hK => ?_
  obtain ⟨a', c', w', hrun, g1, g2⟩ := run_append_src (P := P) w B t o.type e i z bytes ht hi hz hsize hby hzs v n xs hown A m c news hl hA hmc hnews h1 hn hb hbase
  unfold Oper.wp
  simp [execOp, ho, resolve, invoke, builtin, hs, hx, hrun, Result.andThen]
  exact hK _ _ (h a' c' w' g1 g2)

theorem own_head {w : World} {B : Nat} {T : TypeId} {a : Option Addr} {n m cap : Nat} {xs : List Value} (h : w.ownsRow B T 1 (.slice a n cap) m xs) (hn : 0 < m) : ∃ g, a = some ⟨g, 0, none⟩ := by
  rcases h.2 with ⟨h', h0⟩ | ⟨g, cap', cur, h', _⟩
  · omega
  · injection h' with h1 h2
    exact ⟨g, h1⟩
theorem own_slot {w0 w : World} {B : Nat} {T : TypeId} {a : Option Addr} {n cap : Nat} {rs : List (El w0)} (h : w.ownsRow B T 1 (.slice a n cap) n (rs.map fun r => r.1.1)) {i : Nat} (hi : i < rs.length) :
    ∀ g, a = some ⟨g, 0, none⟩ → w.cell? ⟨g, i, none⟩ = some rs[i].1.1 ∧ w.frozen? ⟨g, i, none⟩ = false := by
  rintro g rfl
  have hl : rs.length = n := by simpa using h.1
  refine ⟨?_, World.ownsRow.frozenAt h i⟩
  rw [World.ownsRow.cellAt h i (by omega), List.getElem?_map, List.getElem?_eq_getElem hi]
  rfl

theorem raws_set {w0 : World} (rs : List (El w0)) (i : Nat) (x : El w0) : raws (rs.set i x) = (raws rs).set i x.1.2 := by
  unfold raws; rw [List.map_set]
theorem raws_at {w0 : World} (rs : List (El w0)) {i : Nat} (hi : i < rs.length) : (raws rs).getD i [] = rs[i].1.2 := by
  simp [raws, List.getD_eq_getElem?_getD, hi]

/-- A head was stored into rows that the call owns. -/
theorem rows_stored {w0 w : World} {B g n cap : Nat} {rs : List (El w0)} (h : w.ownsRow B 34 1 (.slice (some ⟨g, 0, none⟩) n cap) n (rs.map fun r => r.1.1)) (i : Nat) (x : El w0) :
    RowsAt (w.setCell ⟨g, i, none⟩ x.1.1) (.slice (some ⟨g, 0, none⟩) n cap) (rs.set i x) := by
  have := (World.ownsRow.stored h i x.1.1).1
  refine rows_of_own (B := B) ?_
  rw [List.map_set]
  exact this

theorem turn_holds {w0 : World} (rs : List (El w0)) {i : Nat} (hi : i < rs.length) (x : El w0) :
    zeroB (xorL [xorL [xorL (raws rs), xorL (raws (rs.set i x)), rs[i].1.2, x.1.2]]) = true := by
  have hb := raws_byte rs
  have hb2 := raws_byte (rs.set i x)
  rw [one_is _ (xorL_byte (by
    intro r hr
    simp only [List.mem_cons, List.not_mem_nil, or_false] at hr
    rcases hr with rfl | rfl | rfl | rfl
    · exact xorL_byte hb
    · exact xorL_byte hb2
    · exact rs[i].2.1.bytes
    · exact x.2.1.bytes))]
  refine zeroB_of (allZero_xorL fun j => ?_)
  have := other_zero (raws rs) i (by simpa [raws] using hi) x.1.2 j
  rwa [raws_at rs hi, ← raws_set] at this

theorem RowsAt.cellAt {w0 w : World} {g o n cap : Nat} {rs : List (El w0)} (h : RowsAt w (.slice (some ⟨g, o, none⟩) n cap) rs) {i : Nat} (hi : i < rs.length) : w.cell? ⟨g, o + i, none⟩ = some rs[i].1.1 := by
  obtain ⟨g', o', _, e1, _, hc⟩ := h.open (by omega)
  injection e1 with e1 _ _
  injection e1 with e1
  injection e1 with e1 e2
  subst e1; subst e2
  exact hc i hi

theorem longest_four (p q r s : List Int) : longest [p, q, r, s] = max (max (max (max 0 p.length) q.length) r.length) s.length := rfl

/-- What the walk wants to know of the rows. -/
theorem turn_facts {w : World} {g o cap : Nat} {rs : List (El w)} (hR : RowsAt w (.slice (some ⟨g, o, none⟩) rs.length cap) rs) {ua : Option Addr} {uc : Nat} {b : List Int} (hb : RowAt w (.slice ua b.length uc) b) (hbl : b.length ≤ 300)
    (hl : rs.length ≤ 40) (hm : longest (raws rs) ≤ 300) {i cut : Nat} (hi : i < rs.length) (hcut : cut ≤ rs.length) :
    ∃ (zl zk zt zd ri : List Int) (ai : Option Addr) (ci : Nat) (at' ad' : Option Addr) (ks : List (El w)),
      (∀ w', Keeps [] w w' → Calls Try.prog 57 #[.slice (some ⟨g, o, none⟩) rs.length cap] w' (RowPost w' zl)) ∧
      (∀ (w' : World) (g2 c2 : Nat), Keeps [] w w' → RowsAt w' (.slice (some ⟨g2, 0, none⟩) rs.length c2) ks → Calls Try.prog 57 #[.slice (some ⟨g2, 0, none⟩) rs.length c2] w' (RowPost w' zk)) ∧
      (∀ W, (Instr.slice 26 (.slice (some ⟨g, o, none⟩) rs.length cap) none (some (.int .i64 (cut : Int))) none).run Try.prog W = .ok (.slice at' cut cap) W) ∧
      (∀ w', Keeps [] w w' → Calls Try.prog 57 #[.slice at' cut cap] w' (RowPost w' zt)) ∧
      (∀ W, (Instr.slice 26 (.slice (some ⟨g, o, none⟩) rs.length cap) (some (.int .i64 (cut : Int))) none none).run Try.prog W = .ok (.slice ad' (rs.length - cut) (cap - cut)) W) ∧
      (∀ w', Keeps [] w w' → Calls Try.prog 57 #[.slice ad' (rs.length - cut) (cap - cut)] w' (RowPost w' zd)) ∧
      (∀ (w2 : World) (B g2 c2 : Nat), w2.ownsRow B 34 1 (.slice (some ⟨g2, 0, none⟩) rs.length c2) rs.length (rs.map fun r => r.1.1) → RowsAt (w2.setCell ⟨g2, i, none⟩ (.slice ua b.length uc)) (.slice (some ⟨g2, 0, none⟩) rs.length c2) ks) ∧
      (∀ w', Keeps [] w w' → w'.cell? ⟨g, o + i, none⟩ = some (.slice ai ri.length ci)) ∧ RowAt w (.slice ai ri.length ci) ri ∧
      zeroB (xorL [xorL [zl, zk, ri, b]]) = true ∧ xorL [zt, zd] = zl ∧ zl.length ≤ 300 ∧ zk.length ≤ 300 ∧ zt.length ≤ 300 ∧ zd.length ≤ 300 ∧ ri.length ≤ 300 ∧ (xorL [zl, zk, ri, b]).length ≤ 300 := by
  obtain ⟨ai, ci, hx⟩ := rs[i].slice
  have hri := rs[i].2.1
  have hrl : rs[i].1.2.length ≤ 300 := Nat.le_trans (le_longest (by simp only [raws, List.mem_map]; exact ⟨rs[i], List.getElem_mem hi, rfl⟩)) hm
  obtain ⟨xb, hxb1, hxb2⟩ : ∃ x : El w, x.1.1 = .slice ua b.length uc ∧ x.1.2 = b := ⟨El.mk' hb (by omega), rfl, rfl⟩
  obtain ⟨at', _, s1, t1⟩ := rows_take hR cut hcut
  obtain ⟨ad', _, s2, t2⟩ := rows_drop hR cut hcut
  have F1 := turn_holds rs hi xb
  have F2 := parts_is (raws rs) cut
  have e1 : (raws rs).take cut = raws (rs.take cut) := by unfold raws; rw [List.map_take]
  have e2 : (raws rs).drop cut = raws (rs.drop cut) := by unfold raws; rw [List.map_drop]
  rw [e1, e2] at F2
  rw [hxb2] at F1
  have F3 : (xorL (raws rs)).length ≤ 300 := by rw [xorL_length]; exact hm
  have F4 : (xorL (raws (rs.set i xb))).length ≤ 300 := by
    rw [xorL_length]
    refine longest_le fun r hr => ?_
    rw [raws_set] at hr
    rcases List.mem_or_eq_of_mem_set hr with hr | rfl
    · exact Nat.le_trans (le_longest hr) hm
    · rw [hxb2]; exact hbl
  have F5 : (xorL (raws (rs.take cut))).length ≤ 300 := by
    rw [xorL_length]
    refine Nat.le_trans (longest_sub fun r hr => ?_) hm
    rw [← e1] at hr
    exact List.mem_of_mem_take hr
  have F6 : (xorL (raws (rs.drop cut))).length ≤ 300 := by
    rw [xorL_length]
    refine Nat.le_trans (longest_sub fun r hr => ?_) hm
    rw [← e2] at hr
    exact List.mem_of_mem_drop hr
  refine ⟨xorL (raws rs), xorL (raws (rs.set i xb)), xorL (raws (rs.take cut)), xorL (raws (rs.drop cut)), rs[i].1.2, ai, ci, at', ad', rs.set i xb, fun w' k => xor_at k _ rs (hR.keep k) (by omega), fun w' g2 c2 k h => xor_at k _ _ h (by rw [List.length_set]; omega), s1,
    fun w' k => xor_at k _ (rs.take cut) (t1 w' (hR.keep k)) (by rw [List.length_take]; omega), s2, fun w' k => xor_at k _ (rs.drop cut) (t2 w' (hR.keep k)) (by rw [List.length_drop]; omega), ?_, ?_, ?_, F1, F2, F3, F4, ?_, ?_, hrl, ?_⟩
  · intro w2 B g2 c2 h
    rw [← hxb1]
    exact rows_stored h i xb
  · intro w' k
    rw [(hR.keep k).cellAt hi, hx]
  · rw [← hx]; exact hri
  · exact F5
  · exact F6
  · rw [xorL_length, longest_four]
    omega

end Go.Proofs.Ytoglcohdanpciaa
