/- The law DiskLoads, what it is about. -/
import Derived.Test.YtiljhjegfklgmaaDkT
import Derived.Test.YtiljhjegfklgmaaDkU
namespace Go.Proofs.Ytiljhjegfklgmaa
open Go.RowKit

/-- A disk that no fuse kills, whose writes make of what lasts what stands there. -/
structure LdOne (s : DS) : Prop where
  cnt : s.cnt = 6
  dead : s.dead = false
  fuse : s.fuse = -1
  rep : s.loose.foldl (fun g x => upd g x.1 x.2) s.las = s.now

theorem LdOne.start : LdOne (blankS 6) := ⟨rfl, rfl, rfl, rfl⟩
theorem LdOne.write {s : DS} (h : LdOne s) (k : Int) (zs : List Int) : LdOne (writeS s k zs) := by
  unfold writeS
  split
  · unfold DS.wrote
    rw [if_neg (by rw [h.fuse]; omega)]
    refine ⟨h.cnt, h.dead, ?_, ?_⟩
    · simp only [DS.spent, h.fuse]
      rfl
    · simp only [DS.spent, List.foldl_append, List.foldl_cons, List.foldl_nil, h.rep]
  · exact h
theorem LdOne.sync {s : DS} (h : LdOne s) : LdOne (syncS s) := by
  unfold syncS
  rw [if_neg (by simp [h.dead]), if_neg (by rw [h.fuse]; omega)]
  refine ⟨h.cnt, h.dead, ?_, rfl⟩
  simp only [DS.synced, DS.spent, h.fuse]
  rfl

/-- Two disks with the same sectors. -/
structure LdTwo (a b : DS) : Prop where
  ca : a.cnt = 6
  cb : b.cnt = 6
  da : a.dead = false
  db : b.dead = false
  fa : a.fuse = -1
  fb : b.fuse = -1
  eq : ∀ i, i < 6 → a.now i = b.now i

theorem LdTwo.start {s : DS} (h : LdOne s) : LdTwo (loadS s.now 6) (s.crashed []) :=
  ⟨rfl, h.cnt, rfl, rfl, rfl, rfl, fun i hi => by simp only [loadS, DS.crashed, crashRow, keptBy_nil, h.rep, if_pos hi]⟩

theorem LdTwo.write {a b : DS} (h : LdTwo a b) (k : Int) (zs : List Int) : LdTwo (writeS a k zs) (writeS b k zs) := by
  by_cases ht : 0 ≤ k ∧ k < 6 ∧ zs.length = 64
  · have ta : a.takes k zs.length := ⟨h.da, ht.1, by rw [h.ca]; exact ht.2.1, ht.2.2⟩
    have tb : b.takes k zs.length := ⟨h.db, ht.1, by rw [h.cb]; exact ht.2.1, ht.2.2⟩
    simp only [writeS, if_pos ta, if_pos tb, DS.wrote, h.fa, h.fb]
    refine ⟨h.ca, h.cb, h.da, h.db, rfl, rfl, fun i hi => ?_⟩
    simp only [DS.spent]
    show upd a.now _ _ i = upd b.now _ _ i
    unfold upd
    rw [h.eq i hi]
  · have ta : ¬ a.takes k zs.length := fun t => ht ⟨t.2.1, by have := t.2.2.1; rw [h.ca] at this; exact this, t.2.2.2⟩
    have tb : ¬ b.takes k zs.length := fun t => ht ⟨t.2.1, by have := t.2.2.1; rw [h.cb] at this; exact this, t.2.2.2⟩
    simp only [writeS, if_neg ta, if_neg tb]
    exact h

theorem imageL_congr {f g : Nat → Row} {n : Nat} (h : ∀ i, i < n → f i = g i) : imageL f n = imageL g n := by
  unfold imageL
  rw [List.flatMap_def, List.flatMap_def]
  congr 1
  refine List.map_congr_left fun i hi => ?_
  rw [List.mem_range] at hi
  rw [h i hi]

theorem imageL_six (f : Nat → Row) : (imageL f 6).length ≤ 1000000 := by rw [imageL_len]; omega

end Go.Proofs.Ytiljhjegfklgmaa
