/- The code's tree: newThing, hang, unhang. -/
import Derived.Test.YtnmiffkflnlanaaTrG
namespace Go.Proofs.Ytnmiffkflnlanaa
open Go.RowKit
set_option maxRecDepth 100000

def FreshT (w : World) (F F' : List Nat) : Prop := ∀ b ∈ F', b ∈ F ∨ w.heap.size ≤ b
def tgZ : Array Value := (tgC tg0 0).toArray
def tgN (dir : Bool) : Tg := ⟨true, 0, [], dir⟩
theorem build_tg0 (w : World) : (Instr.build 65 #[]).run Try.prog w = .ok (tgV tg0 0) w := by kernel_rfl
theorem build_tg1 (w : World) : (Instr.build 65 #[(0, .bool true)]).run Try.prog w = .ok (tgV (tgN false) 0) w := by kernel_rfl
theorem spTg (x : Tg) (g : Nat) : (Try.prog.info? 65).map (·.size) = some (tgC x g).toArray.size := by rw [sThing]; rfl
theorem wpList_buildTg {ops : Array Oper} {rest : List Oper} {o : Oper} {a : Act} {w : World} {Q : Exit → Act → World → Prop} (hgd : o.guard = none) (x : Operand) (ho : o.op = .build 65 #[(0, x)]) (hx : a.eval x = .bool true)
    (hk : wpList Try.prog ops Q rest (a.put o.dst (tgV (tgN false) 0)) w) : wpList Try.prog ops Q (o :: rest) a w := by
  refine wpList_is hgd _ _ ?_ hk
  have := build_tg1 w
  simp only [execOp, ho, List.map_toArray, List.map_cons, List.map_nil, hx, Sem.run_bind, this, Result.andThen_ok, Sem.run_pure]
theorem tgV_false (x : Tg) (g g' : Nat) (h : x.dir = false) : tgC x g = tgC x g' := by simp [tgC, h]

/-- A new thing: a directory's map is new. -/
def NewTPost (dir : Bool) (w : World) (e : Ending) (w' : World) : Prop :=
  ∃ g, e = .returned (tgV (tgN dir) g) ∧ Keeps [] w w' ∧ (dir = true → w.heap.size ≤ g ∧ MapT w' g 0 fun _ => 0)

theorem heap_set_in {w : World} {b i : Nat} {A : Array Value} {T : TypeId} (h : w.heap[b]? = some (.cells A T (0, 0))) (u : Value) : (w.setCell ⟨b, i, none⟩ u).heap[b]? = some (.cells (A.setIfInBounds i u) T (0, 0)) := by
  have hlt := lt_of_block h
  have h' : w.heap[b] = .cells A T (0, 0) := by simpa [Array.getElem?_eq_getElem hlt] using h
  show (w.heap.modify b _)[b]? = _
  rw [Array.getElem?_eq_getElem (by simpa using hlt), Array.getElem_modify_self, h']
  rfl
set_option maxHeartbeats 3200000 in
theorem newThing_any (w : World) (dir : Bool) : Calls Try.prog 27 #[.bool dir] w (NewTPost dir w) := by
  have hA : ∃ wA, wA = w.alloc (.cells tgZ 65) := ⟨_, rfl⟩
  obtain ⟨wB, hB⟩ : ∃ wB, wB = (w.alloc (.cells tgZ 65)).alloc (.cells (tgC (tgN false) 0).toArray 65) := ⟨_, rfl⟩
  have kB : Keeps [] w wB := by rw [hB]; exact ((Keeps.refl [] w).alloc _).alloc _
  have zB : wB.heap.size = w.heap.size + 2 := by rw [hB]; simp
  have g1 : wB.heap[w.heap.size]? = some (.cells tgZ 65 (0, 0)) := by rw [hB]; exact (Below.heap_alloc _ _ _ (by simp)).trans (heap_alloc_new w _)
  have g2 : wB.heap[w.heap.size + 1]? = some (.cells (tgC (tgN false) 0).toArray 65 (0, 0)) := by
    rw [hB]
    have := heap_alloc_new (w.alloc (.cells tgZ 65)) (.cells (tgC (tgN false) 0).toArray 65)
    simpa using this
  have HBs := hid hB.symm
  have KB := hid kB
  have ZB := hid zB
  have G1 := hid g1
  have G2 := hid g2
  clear hB kB zB g1 g2 hA
  cases dir with
  | false =>
    have R2 : Hid (wB.rangeAt (w.heap.size + 1) 0 (tgC (tgN false) 0)) := hid fun j v hv => by rw [Nat.zero_add, cell_of_row _ _ j _ _ (0, 0) G2.out]; simpa using hv
    go_enter Try.func27, Try.ntmps27
    go_wp2_with (first | (refine wpList_is rfl _ _ (exec_alloc 65 tgZ iThing rfl) ?_) | (refine wpList_buildTg rfl _ rfl rfl ?_) | (refine wpList_noval rfl _ (exec_storeNew 65 _ _ rfl (w.alloc (.cells tgZ 65)) tgZ (tgC (tgN false) 0).toArray rfl rfl rfl iThing rfl (tgC_one _ _)) ?_) | (refine wpList_loadTg rfl _ rfl (w.heap.size + 1) 0 rfl (tgN false) 0 (by rw [HBs.out]; exact R2.out) ?_) | (refine wpList_storeRowT rfl _ _ rfl w.heap.size rfl tgZ (tgC (tgN false) 0).toArray (spTg _ _) rfl (by rw [HBs.out]; exact G1.out) rfl (tgC_one _ _) ?_; intro w9 s1 s2) | fail)
    rw [HBs.out] at s2
    refine bodyPost_ret (v := tgV (tgN false) 0) (results_cell_row rfl _ _ _ 65 (tgC (tgN false) 0).toArray (0, 0) _ rfl s1.out uThing rfl (spTg _ _)) rfl ?_
    exact ⟨0, rfl, KB.out.trans' s2.out (fun i hi hm => by simp at hm; omega), fun h => by cases h⟩
  | true =>
    have hmm := @run_makeMap Try.prog
    obtain ⟨wD, hD⟩ : ∃ wD, wD = ((w.alloc (.cells tgZ 65)).alloc (.cells ((tgC (tgN false) 0).set 3 (.map (some (w.heap.size + 1 + 1)))).toArray 65)).alloc (.map #[] 0) := ⟨_, rfl⟩
    have kD : Keeps [] w wD := by rw [hD]; exact (((Keeps.refl [] w).alloc _).alloc _).alloc _
    have mD : MapT wD (w.heap.size + 1 + 1) 0 fun _ => 0 := by
      have h := MapT.made ((w.alloc (.cells tgZ 65)).alloc (.cells ((tgC (tgN false) 0).set 3 (.map (some (w.heap.size + 1 + 1)))).toArray 65))
      rw [← hD] at h
      simpa using h
    have g1 : wD.heap[w.heap.size]? = some (.cells tgZ 65 (0, 0)) := by rw [hD]; exact (Below.heap_alloc _ _ _ (by simp; omega)).trans ((Below.heap_alloc _ _ _ (by simp)).trans (heap_alloc_new w _))
    have g2 : wD.heap[w.heap.size + 1]? = some (.cells (tgC (tgN true) (w.heap.size + 1 + 1)).toArray 65 (0, 0)) := by
      rw [hD, Below.heap_alloc _ _ _ (by simp)]
      have := heap_alloc_new (w.alloc (.cells tgZ 65)) (.cells ((tgC (tgN false) 0).set 3 (.map (some (w.heap.size + 1 + 1)))).toArray 65)
      simp only [World.size_alloc] at this
      exact this
    have R2 : Hid (wD.rangeAt (w.heap.size + 1) 0 (tgC (tgN true) (w.heap.size + 1 + 1))) := hid fun j v hv => by rw [Nat.zero_add, cell_of_row _ _ j _ _ (0, 0) g2]; simpa using hv
    have HDs := hid hD.symm
    have KD := hid kD
    have MD := hid mD
    have GD := hid g1
    clear hD kD mD g1 g2
    go_enter Try.func27, Try.ntmps27
    go_wp2_with (first | (refine wpList_is rfl _ _ (exec_alloc 65 tgZ iThing rfl) ?_) | (refine wpList_buildTg rfl _ rfl rfl ?_) | (refine wpList_noval rfl _ (exec_storeNew 65 _ _ rfl (w.alloc (.cells tgZ 65)) tgZ (tgC (tgN false) 0).toArray rfl rfl rfl iThing rfl (tgC_one _ _)) ?_) | (refine wpList_loadTg rfl _ rfl (w.heap.size + 1) 0 rfl (tgN true) (w.heap.size + 1 + 1) (by rw [HDs.out]; exact R2.out) ?_) | (refine wpList_storeRowT rfl _ _ rfl w.heap.size rfl tgZ (tgC (tgN true) (w.heap.size + 1 + 1)).toArray (spTg _ _) rfl (by rw [HDs.out]; exact GD.out) rfl (tgC_one _ _) ?_; intro w9 s1 s2) | fail)
    rw [HDs.out] at s2
    refine bodyPost_ret (v := tgV (tgN true) (w.heap.size + 1 + 1)) (results_cell_row rfl _ _ _ 65 (tgC (tgN true) (w.heap.size + 1 + 1)).toArray (0, 0) _ rfl s1.out uThing rfl (spTg _ _)) rfl ?_
    exact ⟨_, rfl, KD.out.trans' s2.out (fun i hi hm => by simp at hm; omega), fun _ => ⟨by omega, MD.out.keep s2.out (by simp; omega)⟩⟩
end Go.Proofs.Ytnmiffkflnlanaa
