/- The deferred closure of attempt, at each of its four instances: in a frame that panics (it takes what the reader gave up with, puts the row back and lays the error), in one that returns (it does nothing). -/
import Derived.Test.YtjohikekhgcepaaEyeB
import Derived.Test.YtjohikekhgcepaaRec
import Derived.Laws.Pointers
namespace Go.Proofs.Ytjohikekhgcepaa
open Go.RowKit

theorem ta_hit (v : Value) (w : World) : (Instr.typeAssert (.iface 29 v) 20 29 true).run Try.prog w = .ok (.tuple #[v, .bool true]) w := by kernel_rfl
theorem ta_nil (w : World) : (Instr.typeAssert .nilIface 20 29 true).run Try.prog w = .ok (.tuple #[.int .i64 0, .bool false]) w := by kernel_rfl

set_option maxHeartbeats 400000 in
theorem catchInt_panicking (p ah eb : Nat) (v x y : Value) (why : Int) (older : List PanicEntry) (w : World) (hb : w.heap[p]? = some (.cells #[x, y, .bool true] 155 (0, 0)))
    (hv : ∃ a n c, v = .slice a n c)
    (ha : w.cell? ⟨ah, 0, none⟩ = some v) (he : w.cell? ⟨eb, 0, none⟩ = some (.pointer (some ⟨p, 0, none⟩))) :
    CallsD Try.prog 187 #[.pointer (some ⟨ah, 0, none⟩), .pointer (some ⟨eb, 0, none⟩)] (.panicking ({ v := .iface 29 (.int .i64 why), recovered := false } :: older)) w fun e u' w' =>
      e = .returned (.tuple #[]) ∧ u' = .panicking ({ v := .iface 29 (.int .i64 why), recovered := true } :: older) ∧ w' = (w.setCell ⟨p, 0, none⟩ v).setCell ⟨p, 1, none⟩ (.int .i64 why) := by
  obtain ⟨a, n, c, rfl⟩ := hv
  have c0 : w.cell? ⟨p, 0, none⟩ = some x := by simp [World.cell?, hb]
  have c1 : w.cell? ⟨p, 1, none⟩ = some y := by simp [World.cell?, hb]
  have f0 : w.frozen? ⟨p, 0, none⟩ = false := by simp [World.frozen?, hb]
  have f1 : w.frozen? ⟨p, 1, none⟩ = false := by simp [World.frozen?, hb]
  have t1 := ta_hit
  refine callsD_of_wpS Try.func187 rfl fun c₀ cs hu => ?_
  simp only [Try.ntmps187, List.size_toArray, List.length_cons, List.length_nil, Nat.reduceAdd, Nat.reduceSub, Array.replicate_succ,
     Array.replicate_zero, List.push_toArray, List.append_toArray, List.nil_append, List.cons_append]
  have hrec : recoverD (c₀ :: cs) = some (.iface 29 (.int .i64 why), { c₀ with mode := .panicking ({ v := .iface 29 (.int .i64 why), recovered := true } :: older) } :: cs) := by
    simp only [recoverD, hu]
  refine wpS_recover_lit rfl rfl (Or.inl hrec) ?_
  simp only [Act.put]
  go_wp2_with fail
  exact ⟨rfl, _, rfl, .tuple #[], results_none rfl _ _ _, rfl, rfl, rfl⟩

set_option maxHeartbeats 400000 in
theorem catchInt_idle (p q : Addr) (w : World) :
    CallsD Try.prog 187 #[.pointer (some p), .pointer (some q)] .returning w fun e u' w' => e = .returned (.tuple #[]) ∧ u' = .returning ∧ w' = w := by
  have t1 := ta_nil
  refine callsD_of_wpS Try.func187 rfl fun c₀ cs hu => ?_
  simp only [Try.ntmps187, List.size_toArray, List.length_cons, List.length_nil, Nat.reduceAdd, Nat.reduceSub, Array.replicate_succ,
     Array.replicate_zero, List.push_toArray, List.append_toArray, List.nil_append, List.cons_append]
  have hrec : recoverD (c₀ :: cs) = none := by simp only [recoverD, hu]
  refine wpS_recover_lit rfl rfl (Or.inr ⟨hrec, rfl, rfl⟩) ?_
  simp only [Act.put]
  go_wp2_with fail
  refine ⟨rfl, .returning, ?_, .tuple #[], results_none rfl _ _ _, rfl, rfl, rfl⟩
  rw [← hu]

set_option maxHeartbeats 400000 in
theorem catchStr_panicking (p ah eb : Nat) (v x y : Value) (why : Int) (older : List PanicEntry) (w : World) (hb : w.heap[p]? = some (.cells #[x, y, .bool true] 155 (0, 0)))
    (hv : ∃ a n c, v = .slice a n c)
    (ha : w.cell? ⟨ah, 0, none⟩ = some v) (he : w.cell? ⟨eb, 0, none⟩ = some (.pointer (some ⟨p, 0, none⟩))) :
    CallsD Try.prog 218 #[.pointer (some ⟨ah, 0, none⟩), .pointer (some ⟨eb, 0, none⟩)] (.panicking ({ v := .iface 29 (.int .i64 why), recovered := false } :: older)) w fun e u' w' =>
      e = .returned (.tuple #[]) ∧ u' = .panicking ({ v := .iface 29 (.int .i64 why), recovered := true } :: older) ∧ w' = (w.setCell ⟨p, 0, none⟩ v).setCell ⟨p, 1, none⟩ (.int .i64 why) := by
  obtain ⟨a, n, c, rfl⟩ := hv
  have c0 : w.cell? ⟨p, 0, none⟩ = some x := by simp [World.cell?, hb]
  have c1 : w.cell? ⟨p, 1, none⟩ = some y := by simp [World.cell?, hb]
  have f0 : w.frozen? ⟨p, 0, none⟩ = false := by simp [World.frozen?, hb]
  have f1 : w.frozen? ⟨p, 1, none⟩ = false := by simp [World.frozen?, hb]
  have t1 := ta_hit
  refine callsD_of_wpS Try.func218 rfl fun c₀ cs hu => ?_
  simp only [Try.ntmps218, List.size_toArray, List.length_cons, List.length_nil, Nat.reduceAdd, Nat.reduceSub, Array.replicate_succ,
     Array.replicate_zero, List.push_toArray, List.append_toArray, List.nil_append, List.cons_append]
  have hrec : recoverD (c₀ :: cs) = some (.iface 29 (.int .i64 why), { c₀ with mode := .panicking ({ v := .iface 29 (.int .i64 why), recovered := true } :: older) } :: cs) := by
    simp only [recoverD, hu]
  refine wpS_recover_lit rfl rfl (Or.inl hrec) ?_
  simp only [Act.put]
  go_wp2_with fail
  exact ⟨rfl, _, rfl, .tuple #[], results_none rfl _ _ _, rfl, rfl, rfl⟩

set_option maxHeartbeats 400000 in
theorem catchStr_idle (p q : Addr) (w : World) :
    CallsD Try.prog 218 #[.pointer (some p), .pointer (some q)] .returning w fun e u' w' => e = .returned (.tuple #[]) ∧ u' = .returning ∧ w' = w := by
  have t1 := ta_nil
  refine callsD_of_wpS Try.func218 rfl fun c₀ cs hu => ?_
  simp only [Try.ntmps218, List.size_toArray, List.length_cons, List.length_nil, Nat.reduceAdd, Nat.reduceSub, Array.replicate_succ,
     Array.replicate_zero, List.push_toArray, List.append_toArray, List.nil_append, List.cons_append]
  have hrec : recoverD (c₀ :: cs) = none := by simp only [recoverD, hu]
  refine wpS_recover_lit rfl rfl (Or.inr ⟨hrec, rfl, rfl⟩) ?_
  simp only [Act.put]
  go_wp2_with fail
  refine ⟨rfl, .returning, ?_, .tuple #[], results_none rfl _ _ _, rfl, rfl, rfl⟩
  rw [← hu]

set_option maxHeartbeats 400000 in
theorem catchRaw_panicking (p ah eb : Nat) (v x y : Value) (why : Int) (older : List PanicEntry) (w : World) (hb : w.heap[p]? = some (.cells #[x, y, .bool true] 155 (0, 0)))
    (hv : ∃ a n c, v = .slice a n c)
    (ha : w.cell? ⟨ah, 0, none⟩ = some v) (he : w.cell? ⟨eb, 0, none⟩ = some (.pointer (some ⟨p, 0, none⟩))) :
    CallsD Try.prog 214 #[.pointer (some ⟨ah, 0, none⟩), .pointer (some ⟨eb, 0, none⟩)] (.panicking ({ v := .iface 29 (.int .i64 why), recovered := false } :: older)) w fun e u' w' =>
      e = .returned (.tuple #[]) ∧ u' = .panicking ({ v := .iface 29 (.int .i64 why), recovered := true } :: older) ∧ w' = (w.setCell ⟨p, 0, none⟩ v).setCell ⟨p, 1, none⟩ (.int .i64 why) := by
  obtain ⟨a, n, c, rfl⟩ := hv
  have c0 : w.cell? ⟨p, 0, none⟩ = some x := by simp [World.cell?, hb]
  have c1 : w.cell? ⟨p, 1, none⟩ = some y := by simp [World.cell?, hb]
  have f0 : w.frozen? ⟨p, 0, none⟩ = false := by simp [World.frozen?, hb]
  have f1 : w.frozen? ⟨p, 1, none⟩ = false := by simp [World.frozen?, hb]
  have t1 := ta_hit
  refine callsD_of_wpS Try.func214 rfl fun c₀ cs hu => ?_
  simp only [Try.ntmps214, List.size_toArray, List.length_cons, List.length_nil, Nat.reduceAdd, Nat.reduceSub, Array.replicate_succ,
     Array.replicate_zero, List.push_toArray, List.append_toArray, List.nil_append, List.cons_append]
  have hrec : recoverD (c₀ :: cs) = some (.iface 29 (.int .i64 why), { c₀ with mode := .panicking ({ v := .iface 29 (.int .i64 why), recovered := true } :: older) } :: cs) := by
    simp only [recoverD, hu]
  refine wpS_recover_lit rfl rfl (Or.inl hrec) ?_
  simp only [Act.put]
  go_wp2_with fail
  exact ⟨rfl, _, rfl, .tuple #[], results_none rfl _ _ _, rfl, rfl, rfl⟩

set_option maxHeartbeats 400000 in
theorem catchRaw_idle (p q : Addr) (w : World) :
    CallsD Try.prog 214 #[.pointer (some p), .pointer (some q)] .returning w fun e u' w' => e = .returned (.tuple #[]) ∧ u' = .returning ∧ w' = w := by
  have t1 := ta_nil
  refine callsD_of_wpS Try.func214 rfl fun c₀ cs hu => ?_
  simp only [Try.ntmps214, List.size_toArray, List.length_cons, List.length_nil, Nat.reduceAdd, Nat.reduceSub, Array.replicate_succ,
     Array.replicate_zero, List.push_toArray, List.append_toArray, List.nil_append, List.cons_append]
  have hrec : recoverD (c₀ :: cs) = none := by simp only [recoverD, hu]
  refine wpS_recover_lit rfl rfl (Or.inr ⟨hrec, rfl, rfl⟩) ?_
  simp only [Act.put]
  go_wp2_with fail
  refine ⟨rfl, .returning, ?_, .tuple #[], results_none rfl _ _ _, rfl, rfl, rfl⟩
  rw [← hu]

set_option maxHeartbeats 400000 in
theorem catchBool_panicking (p ah eb : Nat) (v x y : Value) (why : Int) (older : List PanicEntry) (w : World) (hb : w.heap[p]? = some (.cells #[x, y, .bool true] 155 (0, 0)))
    (hv : ∃ a n c, v = .slice a n c)
    (ha : w.cell? ⟨ah, 0, none⟩ = some v) (he : w.cell? ⟨eb, 0, none⟩ = some (.pointer (some ⟨p, 0, none⟩))) :
    CallsD Try.prog 213 #[.pointer (some ⟨ah, 0, none⟩), .pointer (some ⟨eb, 0, none⟩)] (.panicking ({ v := .iface 29 (.int .i64 why), recovered := false } :: older)) w fun e u' w' =>
      e = .returned (.tuple #[]) ∧ u' = .panicking ({ v := .iface 29 (.int .i64 why), recovered := true } :: older) ∧ w' = (w.setCell ⟨p, 0, none⟩ v).setCell ⟨p, 1, none⟩ (.int .i64 why) := by
  obtain ⟨a, n, c, rfl⟩ := hv
  have c0 : w.cell? ⟨p, 0, none⟩ = some x := by simp [World.cell?, hb]
  have c1 : w.cell? ⟨p, 1, none⟩ = some y := by simp [World.cell?, hb]
  have f0 : w.frozen? ⟨p, 0, none⟩ = false := by simp [World.frozen?, hb]
  have f1 : w.frozen? ⟨p, 1, none⟩ = false := by simp [World.frozen?, hb]
  have t1 := ta_hit
  refine callsD_of_wpS Try.func213 rfl fun c₀ cs hu => ?_
  simp only [Try.ntmps213, List.size_toArray, List.length_cons, List.length_nil, Nat.reduceAdd, Nat.reduceSub, Array.replicate_succ,
     Array.replicate_zero, List.push_toArray, List.append_toArray, List.nil_append, List.cons_append]
  have hrec : recoverD (c₀ :: cs) = some (.iface 29 (.int .i64 why), { c₀ with mode := .panicking ({ v := .iface 29 (.int .i64 why), recovered := true } :: older) } :: cs) := by
    simp only [recoverD, hu]
  refine wpS_recover_lit rfl rfl (Or.inl hrec) ?_
  simp only [Act.put]
  go_wp2_with fail
  exact ⟨rfl, _, rfl, .tuple #[], results_none rfl _ _ _, rfl, rfl, rfl⟩

set_option maxHeartbeats 400000 in
theorem catchBool_idle (p q : Addr) (w : World) :
    CallsD Try.prog 213 #[.pointer (some p), .pointer (some q)] .returning w fun e u' w' => e = .returned (.tuple #[]) ∧ u' = .returning ∧ w' = w := by
  have t1 := ta_nil
  refine callsD_of_wpS Try.func213 rfl fun c₀ cs hu => ?_
  simp only [Try.ntmps213, List.size_toArray, List.length_cons, List.length_nil, Nat.reduceAdd, Nat.reduceSub, Array.replicate_succ,
     Array.replicate_zero, List.push_toArray, List.append_toArray, List.nil_append, List.cons_append]
  have hrec : recoverD (c₀ :: cs) = none := by simp only [recoverD, hu]
  refine wpS_recover_lit rfl rfl (Or.inr ⟨hrec, rfl, rfl⟩) ?_
  simp only [Act.put]
  go_wp2_with fail
  refine ⟨rfl, .returning, ?_, .tuple #[], results_none rfl _ _ _, rfl, rfl, rfl⟩
  rw [← hu]
end Go.Proofs.Ytjohikekhgcepaa
