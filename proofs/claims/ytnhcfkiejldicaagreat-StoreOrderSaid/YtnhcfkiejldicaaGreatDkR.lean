/- Image, the function. -/
import Derived.Test.YtnhcfkiejldicaaGreatDkQ
import Derived.Deep.OwnRows
namespace Go.Proofs.YtnhcfkiejldicaaGreat
open Go.RowKit Go.Shelf
attribute [local go_sem] Oper.semAt_some

def byt (l : List Int) : List Value := l.map (Value.int .u8)
theorem byt_one (l : List Int) : ∀ v ∈ byt l, v.oneCell' = true := by
  intro v hv
  simp only [byt, List.mem_map] at hv
  obtain ⟨z, _, rfl⟩ := hv
  rfl

/-- A row that is filled: n bytes of C are there. -/
def FillAt (w : World) (g C : Nat) (l : List Int) : Prop := l.length ≤ C ∧ w.heap[g]? = some (.cells (byt l ++ List.replicate (C - l.length) (Value.int .u8 0)).toArray 5 (0, 0))

theorem FillAt.push {w : World} {g C : Nat} {l r : List Int} (h : FillAt w g C l) (hr : l.length + r.length ≤ C) (ad : Addr) (c : Nat) (ty : TypeId) (hn : ∀ j u, (byt r)[j]? = some u → w.cell? (ad.add j) = some u) :
    ∃ w', (Builtin.append_ #[22, 22] ty #[.slice (some ⟨g, 0, none⟩) l.length C, .slice (some ad) r.length c]).run Tryz.prog w = .ok (.slice (some ⟨g, 0, none⟩) (l.length + r.length) C) w' ∧ FillAt w' g C (l ++ r) ∧ Keeps [g] w w' := by
  obtain ⟨i0, hi, hz0, hz1, hz2⟩ := info_parts info5
  have hlen : (byt l).length = l.length := by simp [byt]
  have hrl : (byt r).length = r.length := by simp [byt]
  have hrun := run_append_room (P := Tryz.prog) w 22 ty 5 i0 Tryz.underlying22 hi g l.length C _ h.2 ad r.length c (byt r) (by rw [hrl, hz1]; omega) hn (byt_one r) hr (by rw [hz1]; simp [byt]; omega)
  refine ⟨_, hrun, ⟨by simp; omega, ?_⟩, ?_⟩
  · rw [setRow_heap w g _ _ 5 _ h.2, hz1]
    have e1 : ((byt l ++ List.replicate (C - l.length) (Value.int .u8 0)).toArray.toList.take (l.length * 1)) = byt l := by
      simp only [Nat.mul_one]
      rw [List.take_append_of_le_length (by omega), ← hlen, List.take_length]
    have e2 : ((byt l ++ List.replicate (C - l.length) (Value.int .u8 0)).toArray.toList.drop (l.length * 1 + (byt r).length)) = List.replicate (C - (l ++ r).length) (Value.int .u8 0) := by
      simp only [Nat.mul_one]
      rw [List.drop_append, List.drop_of_length_le (by omega), hlen, hrl]
      simp
      omega
    rw [e1, e2]
    simp [byt, List.append_assoc]
  · exact ⟨rfl, rfl, rfl, by simp, fun k _ hk => setRow_other w g k _ (by simpa using hk)⟩

theorem exec_append {ρ : Operand → Value} {o : Oper} {w w' : World} {v u z : Value} (x y : Operand) (ho : o.op = .call { callee := .builtin .append, args := #[x, y], argTypes := #[22, 22] }) (hx : ρ x = u) (hy : ρ y = z) (h : (Builtin.append_ #[22, 22] o.type #[u, z]).run Tryz.prog w = .ok v w') : (execOp ρ o).run Tryz.prog w = .ok (.value v) w' := by
  simp [execOp, ho, resolve, invoke, builtin, hx, hy, h, Result.andThen]

end Go.Proofs.YtnhcfkiejldicaaGreat
