/- The code's tree: its calls by what it is; Inos; the laws' awake. -/
import Derived.Test.YtnmiffkflnlanaaTrM
namespace Go.Proofs.Ytnmiffkflnlanaa
open Go.RowKit
set_option maxRecDepth 100000

section
variable {w : World} {q c : Nat} {T : TL} {F : List Nat}
theorem make_any10 (A : TreeAt w q T F c) (hc : c ≤ 10000000) (s : ByteArray) (hs : s.size ≤ 140737488351232) (dir : Bool) :
    Calls Try.prog 10 #[.pointer (some ⟨q, 0, none⟩), .string s, .bool dir] w (DoPost w q (makeT T s.data.toList dir).1 F c (.tuple #[numN (makeT T s.data.toList dir).2.1, .int .i64 (makeT T s.data.toList dir).2.2])) := by
  obtain ⟨G, TI, rfl⟩ := A
  exact make_in w q c T G TI hc s hs dir
theorem remove_any10 (A : TreeAt w q T F c) (s : ByteArray) (hs : s.size ≤ 140737488351232) (dir : Bool) :
    Calls Try.prog 11 #[.pointer (some ⟨q, 0, none⟩), .string s, .bool dir] w (DoPost w q (removeT T s.data.toList dir).1 F c (.tuple #[numN (removeT T s.data.toList dir).2.1, .int .i64 (removeT T s.data.toList dir).2.2])) := by
  obtain ⟨G, TI, rfl⟩ := A
  exact remove_in w q c T G TI s hs dir
theorem move_any10 (A : TreeAt w q T F c) (hc : c ≤ 10000000) (s t : ByteArray) (hs : s.size ≤ 140737488351232) (ht : t.size ≤ 140737488351232) :
    Calls Try.prog 12 #[.pointer (some ⟨q, 0, none⟩), .string s, .string t] w (DoPost w q (moveT T s.data.toList t.data.toList).1 F c (.int .i64 (moveT T s.data.toList t.data.toList).2)) := by
  obtain ⟨G, TI, rfl⟩ := A
  exact move_in w q c T G TI hc s t hs ht
theorem look_at10 (A : TreeAt w q T F c) (s : ByteArray) (hs : s.size ≤ 140737488351232) :
    Calls Try.prog 21 #[.pointer (some ⟨q, 0, none⟩), .string s] w fun e w' => e = .returned (.tuple #[numN (lookT T s.data.toList).1, .bool (lookT T s.data.toList).2.1, .int .i64 (lookT T s.data.toList).2.2]) ∧ Keeps [] w w' := by
  obtain ⟨G, TI, rfl⟩ := A
  exact look_any10 w q c T G TI s hs
theorem has_at10 (A : TreeAt w q T F c) (n : Nat) :
    Calls Try.prog 44 #[.pointer (some ⟨q, 0, none⟩), numN n] w fun e w' => e = .returned (.bool (hasT T n)) ∧ w = w' := by
  obtain ⟨G, TI, rfl⟩ := A
  exact has_any10 w q c T G TI n
end
theorem DoPost.keep_new {w w1 w' : World} {q : Nat} {T' : TL} {F : List Nat} {c : Nat} {v : Value} {e : Ending} (k : Keeps [] w w1) (hF : ∀ b ∈ F, w.heap.size ≤ b) (h : DoPost w1 q T' F c v e w') :
    e = .returned v ∧ ∃ F', TreeAt w' q T' F' (c + 1) ∧ (∀ b ∈ F', w.heap.size ≤ b) ∧ Keeps [] w w' := by
  obtain ⟨he, F', hA, hk, hf⟩ := h
  exact ⟨he, F', hA, fun b hb => (hf b hb).elim (hF b) (fun h => Nat.le_trans k.size h), k.trans' hk (fun i hi hm => by have := hF i hm; omega)⟩

def slA : ByteArray := ⟨#[47, 97]⟩
theorem awake10_any (w : World) : Calls Try.prog 8 #[] w fun e w' => e = .returned (.bool true) ∧ Keeps [] w w' := by
  go_enter Try.func8, Try.ntmps8
  go_wp2_with fail
  refine (newTree_any w).mono ?_
  rintro e w1 ⟨rfl, F1, A1, k1, hF1⟩
  have HA1 := hid A1
  have K1 := hid k1
  have HF1 := hid hF1
  clear A1 k1 hF1
  have M1 := hid (make_any10 HA1.out (by omega) slA (by decide) true)
  go_wp2_with fail
  refine (M1.out.mono fun e w' h => DoPost.keep_new K1.out HF1.out h).mono ?_
  rintro e w2 ⟨rfl, F2, A2, hF2, k2⟩
  have e2 : makeT [] slA.data.toList true = ([⟨2, 1, [97], true⟩], 2, 0) := by decide
  rw [e2] at A2 ⊢
  have L2 := look_at10 A2 slA (by decide)
  have e3 : lookT [⟨2, 1, [97], true⟩] slA.data.toList = (2, true, 0) := by decide
  rw [e3] at L2
  have HL2 := hid L2
  have K2 := hid k2
  clear A2 L2 k2 hF2 e2 e3
  go_wp2_with fail
  refine HL2.out.mono ?_
  rintro e w3 ⟨rfl, k3⟩
  go_wp2_with fail
  go_ret
  exact ⟨rfl, K2.out.trans k3⟩

/-! Inos. -/
def inosT (T : TL) : List Nat := (List.range 129).filter (hasT T)
theorem range_snoc (k : Nat) : List.range (k + 1) = List.range k ++ [k] := List.range_succ
theorem incr_eq : ∀ {a b : List Nat}, a.Pairwise (· < ·) → b.Pairwise (· < ·) → (∀ x, x ∈ a ↔ x ∈ b) → a = b
  | [], [], _, _, _ => rfl
  | [], y :: b, _, _, h => by have := (h y).2 (by simp); simp at this
  | x :: a, [], _, _, h => by have := (h x).1 (by simp); simp at this
  | x :: a, y :: b, ha, hb, h => by
    rw [List.pairwise_cons] at ha hb
    have e : x = y := by
      rcases List.mem_cons.1 ((h x).1 (by simp)) with e | e
      · exact e
      · rcases List.mem_cons.1 ((h y).2 (by simp)) with e2 | e2
        · exact e2.symm
        · have := hb.1 x e; have := ha.1 y e2; omega
    subst e
    rw [incr_eq ha.2 hb.2 fun z => ?_]
    constructor
    · intro hz
      rcases List.mem_cons.1 ((h z).1 (by simp [hz])) with e | e
      · have := ha.1 z hz; omega
      · exact e
    · intro hz
      rcases List.mem_cons.1 ((h z).2 (by simp [hz])) with e | e
      · have := hb.1 z hz; omega
      · exact e
theorem inosT_is {T : TL} (I : InvT T) : inosT T = 1 :: T.map (·.ino) := by
  refine incr_eq ?_ ?_ fun n => ?_
  · exact (List.pairwise_lt_range).sublist List.filter_sublist
  · rw [List.pairwise_cons]
    refine ⟨fun y hy => ?_, ?_⟩
    · obtain ⟨x, hx, rfl⟩ := List.mem_map.1 hy
      have := (I.ino x hx).1
      omega
    · rw [List.pairwise_map]
      exact I.sort
  · unfold inosT
    rw [List.mem_filter, List.mem_range, List.mem_cons, List.mem_map]
    constructor
    · rintro ⟨_, h⟩
      by_cases e : n = 1
      · exact Or.inl e
      · obtain ⟨x, hx, hi, _⟩ := has_mem h e
        exact Or.inr ⟨x, hx, hi⟩
    · rintro (rfl | ⟨x, hx, rfl⟩)
      · exact ⟨by omega, one_has T⟩
      · refine ⟨by have := (I.ino x hx).2; omega, ?_⟩
        unfold hasT
        rw [(findT_some I).2 ⟨hx, rfl⟩]
        simp

theorem arrThings : Try.prog.arrayLen 66 = 129 := by kernel_rfl
theorem arrElemThings : Try.prog.elem 66 = 65 := by kernel_rfl
theorem infoThing3 : (Try.prog.info? 65).map (fun i => (i.zero, i.size)) = some (some (tgV tg0 0), 4) := iThing
theorem run_sliceThings (b : Nat) (w : World) : (Instr.sliceAt 66 (.pointer (some ⟨b, 0, none⟩)) none none none).run Try.prog w = .ok (.slice (some ⟨b, 0, none⟩) 129 129) w := by
  cases hq : Try.prog.info? 65 with
  | none => have := iThing; simp [hq] at this
  | some i =>
    have := iThing
    simp [hq] at this
    rw [run_sliceAt_array_all w 66 ⟨b, 0, none⟩ (by rw [arrThings, arrElemThings]; exact Try.underlying66), arrElemThings, arrThings]
    simp [sizeOf, typeInfo, hq, Result.andThen, slicedAt, Addr.add]
theorem infoIntT : ∃ i : TypeInfo, Try.prog.info? 3 = some i ∧ i.zero = some (.int .i64 0) ∧ i.size = 1 ∧ i.bytes = 8 := by
  have h : (Try.prog.info? 3).map (fun i => (i.zero, i.size, i.bytes)) = some (some (.int .i64 0), 1, 8) := by kernel_rfl
  cases hq : Try.prog.info? 3 with
  | none => simp [hq] at h
  | some i => simp [hq] at h; exact ⟨i, rfl, h.1, h.2.1, h.2.2⟩
end Go.Proofs.Ytnmiffkflnlanaa
