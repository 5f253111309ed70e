/- App, PyHolds, PyRef, PyRefF. -/
import Derived.Test.YtcfmonlgpccndaaDoorPkG01
import Derived.Laws.AppendOwnNone
import Derived.Deep.QuietTactic
import Derived.BigQuiet
import Derived.Test.YtcfmonlgpccndaaDoorPkG03
import Derived.Deep.RegionLaw
/- The built-in append on a row of bytes that the call owns, whatever row is appended: what is owned behind it, and that its block is the old one or new. -/
namespace Go.Proofs.YtcfmonlgpccndaaDoor
open Go.RowKit

/-- The new value's block is the old one's, or new. -/
def NewRow (w : World) (v v' : Value) : Prop := v'.ownBlock = v.ownBlock ∨ ∀ k, v'.ownBlock = some k → w.heap.size ≤ k

theorem run_append_new {P : Program} (w : World) (B : Nat) (t ty e : TypeId) (i : TypeInfo) (z : Value) (ht : P.underlying t = some (.slice e)) (hi : P.info? e = some i) (hz : i.zero = some z)
    (hsize : i.size = 1) (hby : i.bytes = 1) (hzs : z.cells.size = 1) (v : Value) (n : Nat) (xs : List Value) (hown : w.ownsRow B e 1 v n xs)
    (a : Addr) (m c : Nat) (news : List Value) (hl : news.length = m) (hnews : ∀ j u, news[j]? = some u → w.cell? (a.add j) = some u) (h1 : ∀ u ∈ news, u.oneCell' = true)
    (hn : n + m ≤ 70368744177664) (hbase : B ≤ w.heap.size) :
    ∃ v' w', (Builtin.append_ #[t, t] ty #[v, .slice (some a) m c]).run P w = .ok v' w' ∧ w'.ownsRow B e 1 v' (n + m) (xs ++ news) ∧ w.grownBy w' v.ownBlock ∧ NewRow w v v' := by
  have hlen : news.length = m * 1 := by omega
  have hmax : n + m ≤ maxLen := by unfold maxLen; omega
  obtain ⟨v', w', hr, ho, hg, _⟩ := run_append_own (P := P) w B t ty e i z 1 1 ht hi hz hsize hby hzs (by omega) v n xs hown a m c news hlen hnews h1 hmax (by omega) hbase
  refine ⟨v', w', hr, ho, hg, ?_⟩
  rcases hown.2 with ⟨rfl, rfl⟩ | ⟨g, cap, cur, rfl, _, hgg, hnc, _, hcs, htake⟩
  · right
    have hx : xs = [] := List.eq_nil_of_length_eq_zero (by simpa using hown.1)
    subst hx
    obtain ⟨v2, w2, hr2, ho2, _⟩ := run_append_own (P := P) w w.heap.size t ty e i z 1 1 ht hi hz hsize hby hzs (by omega) (.slice none 0 0) 0 [] (World.ownsRow_nil _ _ _ _) a m c news hlen hnews h1 hmax (by omega) (Nat.le_refl _)
    rw [hr] at hr2
    injection hr2 with e1 e2
    subst e1; subst e2
    exact fun k hk => (ho2.lt k hk).1
  · by_cases hroom : n + m ≤ cap
    · left
      have hr2 := run_append_room (P := P) w t ty e i ht hi g n cap cur hgg a m c news (by rw [hsize]; exact hlen) hnews h1 hroom (by rw [hsize, hl, hcs]; omega)
      rw [hr] at hr2
      injection hr2 with e1 e2
      subst e1; rfl
    · right
      have hr2 := run_append_grow (P := P) w t ty e i z ht hi hz ⟨g, 0, none⟩ n cap xs (by rw [hsize]; exact hown.1) (hown.cells (g := g) rfl) a m c news (by rw [hsize]; exact hlen) hnews (by omega) (by omega) (growslice_fits (by omega) (by rw [hby]; omega))
      rw [hr] at hr2
      injection hr2 with e1 e2
      subst e1
      intro k hk
      simp [Value.ownBlock] at hk
      omega

theorem ownsRow_slice {w : World} {B : Nat} {e : TypeId} {v : Value} {n : Nat} {xs : List Value} (h : w.ownsRow B e 1 v n xs) : ∃ a c, v = .slice a n c := by
  rcases h.2 with ⟨rfl, rfl⟩ | ⟨g, cap, cur, rfl, _⟩
  · exact ⟨none, 0, rfl⟩
  · exact ⟨_, cap, rfl⟩

/-- A law for the walk: append(s, x...) where s is owned and x any row of bytes. -/
theorem wpList_append_row {P : Program} {w : World} {ops : Array Oper} {rest : List Oper} {o : Oper} {a : Act} {Q : Exit → Act → World → Prop} (hgd : o.guard = none) (s x : Operand) (t : TypeId)
    (ho : o.op = .call { callee := .builtin .append, args := #[s, x], argTypes := #[t, t] })
    (B : Nat) (e : TypeId) (i : TypeInfo) (z : Value) (ht : P.underlying t = some (.slice e)) (hi : P.info? e = some i) (hz : i.zero = some z)
    (hsize : i.size = 1) (hby : i.bytes = 1) (hzs : z.cells.size = 1) (v : Value) (n : Nat) (xs : List Value) (hs : a.eval s = v) (hown : w.ownsRow B e 1 v n xs)
    (u : Value) (bs : List Int) (hx : a.eval x = u) (hr : RowAt w u bs) (hn : n + bs.length ≤ 70368744177664) (hbase : B ≤ w.heap.size)
    (h : ∀ a' c' w', Hid (w'.ownsRow B e 1 (.slice a' (n + bs.length) c') (n + bs.length) (xs ++ bs.map (Value.int .u8))) → Hid (w.grownBy w' v.ownBlock) → Hid (NewRow w v (.slice a' (n + bs.length) c')) → wpList P ops Q rest (a.put o.dst (.slice a' (n + bs.length) c')) w') :
    wpList P ops Q (o :: rest) a w := by
  refine wpList_plain hgd fun K hK => ?_
  obtain ⟨ad, cap, rfl, h1, h2, h3, h4, h5⟩ := hr
  cases ad with
  | none =>
    obtain rfl := h3 rfl
    have hb : bs = [] := List.eq_nil_of_length_eq_zero (by omega)
    subst hb
    have hrun := run_append_owned_none (P := P) (w := w) B t o.type e i 1 ht hi v n xs hown
    unfold Oper.wp
    simp only [List.length_nil] at hx
    simp [execOp, ho, resolve, invoke, builtin, hs, hx, hrun, Result.andThen]
    obtain ⟨a', c', rfl⟩ := ownsRow_slice hown
    exact hK _ _ (h a' c' w (by simpa [Hid] using hown) ⟨rfl, rfl, rfl, Nat.le_refl _, fun _ _ _ => rfl⟩ (Or.inl rfl))
  | some ad =>
    obtain ⟨v', w', hrun, g1, g2, g3⟩ := run_append_new (P := P) w B t o.type e i z ht hi hz hsize hby hzs v n xs hown ad bs.length cap (bs.map (Value.int .u8)) (by simp) (h5 ad rfl) (by simp [Value.oneCell']) hn hbase
    unfold Oper.wp
    simp [execOp, ho, resolve, invoke, builtin, hs, hx, hrun, Result.andThen]
    obtain ⟨a', c', rfl⟩ := ownsRow_slice g1
    exact hK _ _ (h a' c' w' g1 g2 g3)

/-- What is owned can be read. -/
theorem row_of_own {w : World} {B : Nat} {e : TypeId} {v : Value} {zs : List Int} (h : w.ownsRow B e 1 v zs.length (zs.map (Value.int .u8))) (hz : ∀ z ∈ zs, 0 ≤ z ∧ z ≤ 255) : RowAt w v zs := by
  rcases h.2 with ⟨rfl, h0⟩ | ⟨g, cap, cur, rfl, hb, hg, hnc, hcm, hcs, ht⟩
  · rw [List.eq_nil_of_length_eq_zero h0]
    exact RowAt.nil w
  · refine ⟨_, cap, rfl, hnc, hcm, by simp, hz, ?_⟩
    rintro ad had j u hu
    obtain rfl := Option.some.inj had
    exact h.cells (g := g) rfl j u hu

/-- A slice in new memory (or nil) that holds zs; all that was there is there. -/
def NewPost (w : World) (zs : List Int) (e : Ending) (w' : World) : Prop :=
  ∃ a c, e = .returned (.slice a zs.length c) ∧ RowAt w' (.slice a zs.length c) zs ∧ (∀ ad, a = some ad → w.heap.size ≤ ad.block) ∧ Keeps [] w w'

end Go.Proofs.YtcfmonlgpccndaaDoor


/- parity's Holds; the reference's Holds; the laws' Small. -/
namespace Go.Proofs.YtcfmonlgpccndaaDoor
open Go.RowKit Go.Shelf

def zeroB (zs : List Int) : Bool := zs.all (· == 0)
theorem zeroB_of {zs : List Int} (h : allZero zs) : zeroB zs = true := by
  unfold zeroB; rw [List.all_eq_true]; intro z hz; simp [h z hz]
theorem zeroB_snoc (zs : List Int) (z : Int) : zeroB (zs ++ [z]) = (zeroB zs && z == 0) := by simp [zeroB]
theorem zeroB_take {zs : List Int} {k : Nat} (hk : k < zs.length) (hz : zs.getD k 0 ≠ 0) : zeroB zs = false := by
  rw [← Bool.not_eq_true]
  intro h
  unfold zeroB at h
  rw [List.all_eq_true] at h
  apply hz
  rw [List.getD_eq_getElem?_getD, List.getElem?_eq_getElem hk]
  simpa using h _ (List.getElem_mem hk)

theorem ret_bool {a b : Bool} (h : a = b) : Ending.returned (.bool a) = .returned (.bool b) := by rw [h]

def IdxPost (w : World) (zs : List Int) (e : Ending) (w' : World) : Prop :=
  w = w' ∧ ((zeroB zs = true ∧ e = .returned (.int .i64 (-1))) ∨ (zeroB zs = false ∧ ∃ k : Nat, e = .returned (.int .i64 k)))

/-- The reference's Holds and Same's like: below. The laws' Small. -/
def smallB {w0 : World} (rs : List (El w0)) (most : Int) : Bool := decide (rs.length ≤ 40) && (raws rs).all (fun r => decide ((r.length : Int) ≤ most))

theorem smallB_len {w0 : World} {rs : List (El w0)} {most : Int} (h : smallB rs most = true) : rs.length ≤ 40 := by
  unfold smallB at h; simp at h; exact h.1
theorem smallB_row {w0 : World} {rs : List (El w0)} {most : Int} (h : smallB rs most = true) : ∀ r ∈ raws rs, (r.length : Int) ≤ most := by
  unfold smallB at h; simp only [Bool.and_eq_true, List.all_eq_true, decide_eq_true_eq] at h; exact h.2
theorem smallB_many {w0 : World} {rs : List (El w0)} {most : Int} (h : 40 < rs.length) : smallB rs most = false := by
  unfold smallB; simp; omega
theorem smallB_big {w0 : World} {rs : List (El w0)} {most : Int} {k : Nat} (hk : k < rs.length) (h : most < (rs[k].1.2.length : Int)) : smallB rs most = false := by
  unfold smallB
  rw [Bool.and_eq_false_iff]
  right
  rw [← Bool.not_eq_true, List.all_eq_true]
  intro hall
  have := hall rs[k].1.2 (by simp only [raws, List.mem_map]; exact ⟨rs[k], List.getElem_mem hk, rfl⟩)
  simp at this
  omega
theorem smallB_all {w0 : World} {rs : List (El w0)} {most : Int} (h : rs.length ≤ 40) (h2 : ∀ k (hk : k < rs.length), (rs[k].1.2.length : Int) ≤ most) : smallB rs most = true := by
  unfold smallB
  simp only [Bool.and_eq_true, List.all_eq_true, decide_eq_true_eq]
  refine ⟨h, fun r hr => ?_⟩
  simp only [raws, List.mem_map] at hr
  obtain ⟨x, hx, rfl⟩ := hr
  obtain ⟨k, hk, rfl⟩ := List.getElem_of_mem hx
  exact h2 k hk

end Go.Proofs.YtcfmonlgpccndaaDoor


/- The reference's Xor. -/
namespace Go.Proofs.YtcfmonlgpccndaaDoor
open Go.RowKit Go.Shelf

/-- A row that the call owns, nil or not: n bytes. -/
abbrev OwnN (w : World) (B : Nat) (v : Value) (n : Nat) (xs : List Int) : Prop := w.ownsRow B 5 1 v n (xs.map (Value.int .u8))

def lenV : Value → Nat
  | .slice _ n _ => n
  | _ => 0

/-- A row that is not empty lies at its block's head. -/
theorem own_form {w : World} {B : Nat} {a : Option Addr} {n m cap : Nat} {xs : List Int} (h : OwnN w B (.slice a n cap) m xs) (hn : 0 < m) : ∃ g, a = some ⟨g, 0, none⟩ := by
  rcases h.2 with ⟨h', h0⟩ | ⟨g, cap', cur, h', _⟩
  · omega
  · injection h' with h1 h2
    exact ⟨g, h1⟩
theorem own_row {w : World} {B : Nat} {v : Value} {n : Nat} {xs : List Int} (h : OwnN w B v n xs) (hx : ∀ z ∈ xs, byteB z) : RowAt w v xs := by
  have hl : xs.length = n := by simpa using h.1
  subst hl
  exact row_of_own h hx
theorem own_new {w : World} {B : Nat} {a : Option Addr} {n m cap : Nat} {xs : List Int} (h : OwnN w B (.slice a n cap) m xs) : ∀ ad, a = some ad → B ≤ ad.block := by
  rintro ad rfl
  exact (h.lt ad.block rfl).1

theorem zero_cell (w : World) (T : TypeId) : RowAt (w.alloc (.cells #[.int .u8 0] T)) (.slice (some ⟨w.heap.size, 0, none⟩) 1 1) [0] := by
  have := row_lit (w := w) [0] T (by decide) 1 rfl (by unfold maxLen; omega)
  simpa using this

theorem Keeps.own {w w1 w2 : World} {B : Nat} {v : Value} {n : Nat} {xs : List Value} (k : Keeps [] w w1) (ho : w1.ownsRow B 5 1 v n xs) (hg : w1.grownBy w2 v.ownBlock) (hB : w.heap.size ≤ B) : Keeps [] w w2 :=
  k.grown hg (fun g e => Or.inr (by have := (ho.lt g e).1; omega))

theorem raws_take {w0 : World} (rs : List (El w0)) (k : Nat) (h : k < rs.length) : raws (rs.take (k + 1)) = raws (rs.take k) ++ [rs[k].1.2] := by
  rw [List.take_succ_eq_append_getElem h, raws_snoc]

end Go.Proofs.YtcfmonlgpccndaaDoor


/- The reference's Fill and Holds. -/
namespace Go.Proofs.YtcfmonlgpccndaaDoor
open Go.RowKit Go.Shelf

section
variable {P : Program}

/-- append of whatever row of single cells, nil or not, onto a row of the call's own. -/
theorem run_append_src (w : World) (B : Nat) (t ty e : TypeId) (i : TypeInfo) (z : Value) (bytes : Nat) (ht : P.underlying t = some (.slice e)) (hi : P.info? e = some i) (hz : i.zero = some z)
    (hsize : i.size = 1) (hby : i.bytes = bytes) (hzs : z.cells.size = 1) (v : Value) (n : Nat) (xs : List Value) (hown : w.ownsRow B e 1 v n xs)
    (A : Option Addr) (m c : Nat) (news : List Value) (hl : news.length = m) (hA : A = none → c = 0) (hmc : m ≤ c) (hnews : ∀ ad, A = some ad → ∀ j u, news[j]? = some u → w.cell? (ad.add j) = some u) (h1 : ∀ u ∈ news, u.oneCell' = true)
    (hn : n + m ≤ maxLen) (hb : (n + m) * bytes ≤ 140737488355328) (hbase : B ≤ w.heap.size) :
    ∃ a' c' w', (Builtin.append_ #[t, t] ty #[v, .slice A m c]).run P w = .ok (.slice a' (n + m) c') w' ∧ w'.ownsRow B e 1 (.slice a' (n + m) c') (n + m) (xs ++ news) ∧ w.grownBy w' v.ownBlock := by
  cases A with
  | none =>
    obtain rfl := hA rfl
    obtain rfl : m = 0 := by omega
    have hb : news = [] := List.eq_nil_of_length_eq_zero hl
    subst hb
    have hrun := run_append_owned_none (P := P) (w := w) B t ty e i 1 ht hi v n xs hown
    obtain ⟨a', c', rfl⟩ := ownsRow_slice hown
    refine ⟨a', c', w, ?_, by simpa using hown, ⟨rfl, rfl, rfl, Nat.le_refl _, fun _ _ _ => rfl⟩⟩
    simpa using hrun
  | some ad =>
    obtain ⟨v', w', hrun, g1, g2, _⟩ := run_append_own (P := P) w B t ty e i z 1 bytes ht hi hz hsize hby hzs (by omega) v n xs hown ad m c news (by omega) (hnews ad rfl) h1 hn hb hbase
    obtain ⟨a', c', rfl⟩ := ownsRow_slice g1
    exact ⟨a', c', w', hrun, g1, g2⟩

theorem step_append_src {ops : Array Oper} {o : Oper} {a : Act} {w : World} {K : Act → World → Prop} {Q : Exit → Act → World → Prop} {E : Prop} (hgd : o.guard = none) (s x : Operand) (t : TypeId)
    (ho : o.op = .call { callee := .builtin .append, args := #[s, x], argTypes := #[t, t] })
    (B : Nat) (e : TypeId) (i : TypeInfo) (z : Value) (bytes : Nat) (ht : P.underlying t = some (.slice e)) (hi : P.info? e = some i) (hz : i.zero = some z)
    (hsize : i.size = 1) (hby : i.bytes = bytes) (hzs : z.cells.size = 1) (v : Value) (n : Nat) (xs : List Value) (hs : a.eval s = v) (hown : w.ownsRow B e 1 v n xs)
    (A : Option Addr) (m c : Nat) (news : List Value) (hx : a.eval x = .slice A m c) (hl : news.length = m) (hA : A = none → c = 0) (hmc : m ≤ c) (hnews : ∀ ad, A = some ad → ∀ j u, news[j]? = some u → w.cell? (ad.add j) = some u)
    (h1 : ∀ u ∈ news, u.oneCell' = true) (hn : n + m ≤ maxLen) (hb : (n + m) * bytes ≤ 140737488355328) (hbase : B ≤ w.heap.size)
    (h : ∀ a' c' w', Hid (w'.ownsRow B e 1 (.slice a' (n + m) c') (n + m) (xs ++ news)) → Hid (w.grownBy w' v.ownBlock) → K (a.put o.dst (.slice a' (n + m) c')) w') :
    if Region.wanted o (yielded ops a.tmps) = true then Oper.wp P o a w K Q else E := by
  have hw : Region.wanted o (yielded ops a.tmps) = true := by simp [Region.wanted, hgd]
  rw [if_pos hw]
  obtain ⟨a', c', w', hrun, g1, g2⟩ := run_append_src (P := P) w B t o.type e i z bytes ht hi hz hsize hby hzs v n xs hown A m c news hl hA hmc hnews h1 hn hb hbase
  unfold Oper.wp execOp
  simp only [ho, resolve, invoke, builtin, Sem.run_bind, Sem.run_pure, Result.andThen_ok, List.map_toArray, List.map_cons, List.map_nil, hs, hx, hrun]
  exact h a' c' w' g1 g2
end

theorem rows_elem : Tryd.prog.underlying 81 = some (.slice (Tryd.prog.elem 81)) := by kernel_rfl
theorem rows_el : Tryd.prog.elem 81 = 31 := by kernel_rfl
theorem info25 : (Tryd.prog.info? 31).map (fun i => (i.zero, i.size, i.bytes)) = some (some (.slice none 0 0), 1, 24) := by kernel_rfl
theorem size_row (W : World) : (sizeOf 31).run Tryd.prog W = .ok 1 W := by
  obtain ⟨i0, hi, hz0, hz1, hz2⟩ := info_parts info25
  simp [sizeOf, typeInfo, hi, hz1, Result.andThen]

/-- The first n rows. -/
theorem rows_take {w0 w : World} {a : Option Addr} {len cap : Nat} {rs : List (El w0)} (h : RowsAt w (.slice a len cap) rs) (n : Nat) (hn : n ≤ rs.length) :
    ∃ a1, (∀ W, (Instr.sliceAt 81 (.slice a len cap) none (some (.int .i64 (n : Int))) none).run Tryd.prog W = .ok (.slice a1 n cap) W) ∧
      (∀ W, (Instr.slice 81 (.slice a len cap) none (some (.int .i64 (n : Int))) none).run Tryd.prog W = .ok (.slice a1 n cap) W) ∧
      (∀ W, RowsAt W (.slice a len cap) rs → RowsAt W (.slice a1 n cap) (rs.take n)) := by
  obtain ⟨a', cap', hv, h1, h2, h3, h5⟩ := h
  injection hv with e1 e2 e3
  subst e1; subst e2; subst e3
  have hrun : ∀ W, (Instr.slice 81 (.slice a rs.length cap) none (some (.int .i64 (n : Int))) none).run Tryd.prog W = .ok (.slice (if cap = 0 then a else a.map (·.add 0)) n cap) W := by
    intro W
    rw [run_slice_h W 81 a rs.length cap rows_elem .i64 n (by omega) (by omega), rows_el, size_row]
    simp [Result.andThen, sliced]
  have hadd : ∀ ad : Addr, ad.add 0 = ad := fun ad => by unfold Addr.add; split <;> simp_all
  have ha : (if cap = 0 then a else a.map (·.add 0)) = a := by
    split
    · rfl
    · cases a <;> simp [hadd]
  rw [ha] at hrun
  refine ⟨a, fun W => by rw [run_sliceAt_slice W 81 _ _ _ _ rows_elem]; exact hrun W, hrun, ?_⟩
  rintro W ⟨a', cap', hv, g1, g2, g3, g5⟩
  injection hv with e1 e2 e3
  subst e1; subst e3
  refine ⟨a, cap, by rw [List.length_take, Nat.min_eq_left hn], by rw [List.length_take]; omega, g2, g3, fun ad had j u hu => g5 ad had j u ?_⟩
  rw [List.map_take, List.getElem?_take] at hu
  split at hu
  · exact hu
  · cases hu

/-- What is behind them. -/
theorem rows_drop {w0 w : World} {a : Option Addr} {len cap : Nat} {rs : List (El w0)} (h : RowsAt w (.slice a len cap) rs) (n : Nat) (hn : n ≤ rs.length) :
    ∃ a1, (∀ W, (Instr.sliceAt 81 (.slice a len cap) (some (.int .i64 (n : Int))) none none).run Tryd.prog W = .ok (.slice a1 (rs.length - n) (cap - n)) W) ∧
      (∀ W, (Instr.slice 81 (.slice a len cap) (some (.int .i64 (n : Int))) none none).run Tryd.prog W = .ok (.slice a1 (rs.length - n) (cap - n)) W) ∧
      (∀ W, RowsAt W (.slice a len cap) rs → RowsAt W (.slice a1 (rs.length - n) (cap - n)) (rs.drop n)) := by
  obtain ⟨a', cap', hv, h1, h2, h3, h5⟩ := h
  injection hv with e1 e2 e3
  subst e1; subst e2; subst e3
  have hrun : ∀ W, (Instr.slice 81 (.slice a rs.length cap) (some (.int .i64 (n : Int))) none none).run Tryd.prog W = .ok (.slice (if cap = n then a else a.map (·.add n)) (rs.length - n) (cap - n)) W := by
    intro W
    rw [run_slice_l W 81 a rs.length cap rows_elem .i64 n (by omega) (by omega), rows_el, size_row]
    simp [Result.andThen, sliced]
  refine ⟨_, fun W => by rw [run_sliceAt_slice W 81 _ _ _ _ rows_elem]; exact hrun W, hrun, ?_⟩
  rintro W ⟨a', cap', hv, g1, g2, g3, g5⟩
  injection hv with e1 e2 e3
  subst e1; subst e3
  refine ⟨_, cap - n, by rw [List.length_drop], by rw [List.length_drop]; omega, by omega, ?_, ?_⟩
  · split
    · intro _; omega
    · cases a with
      | none => intro _; have := g3 rfl; omega
      | some ad => simp
  · intro ad had j u hu
    have hj : n + j < rs.length := by
      have := (List.getElem?_eq_some_iff.1 hu).1
      simp at this; omega
    rw [if_neg (by omega)] at had
    cases a with
    | none => simp at had
    | some ad0 =>
      simp at had
      subst had
      have e : (ad0.add n).add j = ad0.add (n + j) := by
        have hc := g5 ad0 rfl 0 rs[0].1.1 (by simp [List.getElem?_eq_getElem (show 0 < rs.length by omega)])
        cases hsp : ad0.spot with
        | none =>
          obtain ⟨b0, o0, s0⟩ := ad0
          simp only at hsp
          subst hsp
          rw [Addr.add_lit, Addr.add_lit, Addr.add_lit, Nat.add_assoc]
        | some x =>
          exfalso
          unfold Addr.add at hc
          simp [hsp, World.cell?] at hc
          split at hc <;> simp_all
      rw [e]
      refine g5 ad0 rfl (n + j) u ?_
      rw [← hu, List.map_drop, List.getElem?_drop]

end Go.Proofs.YtcfmonlgpccndaaDoor
