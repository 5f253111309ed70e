/- The walk of the laws' write: the same deeds, of both pens. -/
import Derived.Test.YtfkafelidkcinaaRefC
import Derived.Test.YtfkafelidkcinaaDeeds
namespace Go.Proofs.Ytfkafelidkcinaa
open Go.RowKit

def odd (x : Int) : Bool := bits .and .i64 x 1 == 1
def deedW (s : List Int × Int) (d : Dd) : List Int × Int :=
  if d.act ≤ 1 then penNum d.x d.n s else if d.act = 2 then penRaw d.bs s else if d.act = 3 then penRaw d.bs s else penBool (odd d.x) s
def deedR (s : List Int × Int) (d : Dd) : List Int × Int :=
  if d.act ≤ 1 then refNum d.x d.n s else if d.act = 2 then refRaw d.bs s else if d.act = 3 then refRaw d.bs s else refBool (odd d.x) s

theorem Rel.deed {s r : List Int × Int} (h : Rel s r) (d : Dd) : Rel (deedW s d) (deedR r d) := by
  unfold deedW deedR
  split
  · exact h.num _ _
  · split
    · exact h.raw _
    · split
      · exact h.raw _
      · exact h.bool _

theorem Rel.deeds (ds : List Dd) : ∀ {s r : List Int × Int}, Rel s r → Rel (ds.foldl deedW s) (ds.foldl deedR r) := by
  induction ds with
  | nil => exact fun h => h
  | cons d ds ih => exact fun h => ih (h.deed d)

/-- Two pens that were made since w, apart from each other. -/
structure TwoAt (w w' : World) (p q : Nat) (v u : Value) (s r : List Int × Int) : Prop where
  pen : PenAt w' w.heap.size 31 5 p v s.1 s.2
  ref : PenAt w' w.heap.size 67 5 q u r.1 r.2
  kept : Keeps [] w w'
  pq : p ≠ q
  vq : v.ownBlock ≠ some q
  up : u.ownBlock ≠ some p
  vu : ∀ k, v.ownBlock = some k → u.ownBlock ≠ some k

theorem PenAt.ge {w' : World} {B : Nat} {T U : TypeId} {p : Nat} {v : Value} {zs : List Int} {bad : Int} (h : PenAt w' B T U p v zs bad) : ∀ k ∈ p :: v.ownBlock.toList, B ≤ k := by
  intro k hk
  rcases List.mem_cons.1 hk with rfl | hk
  · exact h.lo
  · exact (h.own.lt k (by simpa using hk)).1

theorem TwoAt.stepW {w w2 w3 : World} {p q : Nat} {v u : Value} {s r s' : List Int × Int} {e : Ending} (h : TwoAt w w2 p q v u s r) (hp : PenPost w2 w.heap.size 31 5 p v s' e w3) :
    e = .returned (.tuple #[]) ∧ ∃ v', TwoAt w w3 p q v' u s' r := by
  obtain ⟨rfl, v', q1, q2, q3⟩ := hp
  refine ⟨rfl, v', q1, h.ref.keep q2 ?_ ?_, h.kept.trans' q2 (fun i hi hm => by have := h.pen.ge i hm; omega), h.pq, ?_, h.up, ?_⟩
  · intro hm
    rcases List.mem_cons.1 hm with hm | hm
    · exact h.pq hm.symm
    · exact h.vq (by simpa using hm)
  · intro g hg hm
    rcases List.mem_cons.1 hm with hm | hm
    · exact h.up (by rw [hg, hm])
    · exact h.vu g (by simpa using hm) hg
  · rcases q3 with q3 | q3
    · rw [q3]; exact h.vq
    · intro hq
      have := q3 q hq
      have := h.ref.lt
      omega
  · intro k hk hu
    rcases q3 with q3 | q3
    · exact h.vu k (by rw [← q3]; exact hk) hu
    · have := q3 k hk
      have := (h.ref.own.lt k hu).2
      omega

theorem TwoAt.stepR {w w2 w3 : World} {p q : Nat} {v u : Value} {s r r' : List Int × Int} {e : Ending} (h : TwoAt w w2 p q v u s r) (hp : PenPost w2 w.heap.size 67 5 q u r' e w3) :
    e = .returned (.tuple #[]) ∧ ∃ u', TwoAt w w3 p q v u' s r' := by
  obtain ⟨rfl, u', q1, q2, q3⟩ := hp
  refine ⟨rfl, u', h.pen.keep q2 ?_ ?_, q1, h.kept.trans' q2 (fun i hi hm => by have := h.ref.ge i hm; omega), h.pq, h.vq, ?_, ?_⟩
  · intro hm
    rcases List.mem_cons.1 hm with hm | hm
    · exact h.pq hm
    · exact h.up (by simpa using hm)
  · intro g hg hm
    rcases List.mem_cons.1 hm with hm | hm
    · exact h.vq (by rw [hg, hm])
    · exact h.vu g hg (by simpa using hm)
  · rcases q3 with q3 | q3
    · rw [q3]; exact h.up
    · intro hq
      have := q3 p hq
      have := h.pen.lt
      omega
  · intro k hk hu
    rcases q3 with q3 | q3
    · exact h.vu k hk (by rw [← q3]; exact hu)
    · have := q3 k hu
      have := (h.pen.own.lt k hk).2
      omega

theorem TwoAt.keep {w w2 w3 : World} {p q : Nat} {v u : Value} {s r : List Int × Int} (h : TwoAt w w2 p q v u s r) (k : Keeps [] w2 w3) : TwoAt w w3 p q v u s r :=
  ⟨h.pen.keep k (by simp) (by simp), h.ref.keep k (by simp) (by simp), h.kept.trans k, h.pq, h.vq, h.up, h.vu⟩

theorem off_old {w : World} {v : Value} {zs : List Int} {S : List Nat} (h : RowAt w v zs) (hs : ∀ k ∈ S, w.heap.size ≤ k) : Off S v zs := by
  intro ad n c e hne hm
  have hpos : 0 < zs.length := by cases zs with
    | nil => exact absurd rfl hne
    | cons _ _ => simp
  obtain ⟨g, off, cap, hv, _, hc⟩ := h.open hpos
  rw [hv] at e
  injection e with e1 _ _
  obtain rfl := Option.some.inj e1
  have := World.block_lt_of_cell? _ _ (hc 0 hpos)
  have := hs _ hm
  simp at *
  omega

def WritePost (w : World) (ds : List Dd) (e : Ending) (w' : World) : Prop :=
  ∃ p q v u, e = .returned (.tuple #[.pointer (some ⟨p, 0, none⟩), .pointer (some ⟨q, 0, none⟩)]) ∧ TwoAt w w' p q v u (ds.foldl deedW ([], 0)) (ds.foldl deedR ([], 0))

set_option maxRecDepth 100000 in
set_option maxHeartbeats 1600000 in
theorem write_any (w : World) (v : Value) (ds : List Dd) (h : DeedsAt w v ds) (hl : ds.length ≤ 200) (hr : ∀ d ∈ ds, d.bs.length ≤ 70000) : Calls Try.prog 19 #[v] w (WritePost w ds) := by
  obtain ⟨a, cap, rfl, vl, vb, v0, z⟩ := h
  have Z := hid z
  have HR := hid hr
  clear z hr vb v0
  have T0 : Hid (TwoAt w ((w.alloc (.cells #[.slice none 0 0, .int .i64 0] 31)).alloc (.cells #[.slice none 0 0, .int .i64 0] 67)) w.heap.size (w.heap.size + 1) (.slice none 0 0) (.slice none 0 0) ([], 0) ([], 0)) := by
    have k1 : Keeps [] w (w.alloc (.cells #[.slice none 0 0, .int .i64 0] 31)) := (Keeps.refl _ _).alloc _
    have k2 : Keeps [] (w.alloc (.cells #[.slice none 0 0, .int .i64 0] 31)) ((w.alloc (.cells #[.slice none 0 0, .int .i64 0] 31)).alloc (.cells #[.slice none 0 0, .int .i64 0] 67)) := (Keeps.refl _ _).alloc _
    have p1 := (PenSince.new w (Keeps.refl [] w) 31).pen.keep k2 (by simp) (by simp)
    have p2 := (PenSince.new w k1 67).pen
    rw [World.size_alloc] at p2
    exact ⟨p1, p2, k1.trans k2, by omega, by simp [Value.ownBlock], by simp [Value.ownBlock], by simp [Value.ownBlock]⟩
  go_enter Try.func19, Try.ntmps19
  go_wp2_with fail
  go_loopw [6] (fun i wr => ∃ (k : Nat) (v u : Value), k ≤ ds.length ∧ i = .int .i64 k ∧ TwoAt w wr w.heap.size (w.heap.size + 1) v u ((ds.take k).foldl deedW ([], 0)) ((ds.take k).foldl deedR ([], 0))) (fun i _ => ds.length - (intOf i).toNat)
  case atStart => exact ⟨0, _, _, by omega, rfl, T0.out⟩
  case round =>
    obtain ⟨k, v, u, hk, rfl, q1⟩ := hrel
    have T := hid q1
    clear q1
    by_cases hlt : k < ds.length
    · obtain ⟨g, off, rfl, hd⟩ := Z.out (by intro e; rw [e] at hlt; simp at hlt)
      have DA0 := hid (hd k hlt)
      have hbl := HR.out ds[k] (List.getElem_mem hlt)
      have HF := hid (show (ds.take (k + 1)).foldl deedW ([], 0) = deedW ((ds.take k).foldl deedW ([], 0)) ds[k] ∧ (ds.take (k + 1)).foldl deedR ([], 0) = deedR ((ds.take k).foldl deedR ([], 0)) ds[k] by
        rw [List.take_succ_eq_append_getElem hlt, List.foldl_append, List.foldl_append]; exact ⟨rfl, rfl⟩)
      clear hd
      generalize hdk : ds[k] = d at *
      clear hdk
      obtain ⟨ra, rc, hrow, z⟩ := DA0.out.row
      clear z
      have DK := DA0.out.keep T.out.kept
      have c0 := DK.c0
      have c1 := DK.c1
      have c2 := DK.c2
      have c3 := DK.c3
      rw [hrow] at c3
      clear DK
      have T1 := hid (T.out.keep ((Keeps.refl [] wr).alloc (.cells #[.int .i64 d.act, .int .i64 d.x, .int .i64 d.n, .slice ra d.bs.length rc] 49)))
      have X1 := hid (heap_alloc_new wr (.cells #[.int .i64 d.act, .int .i64 d.x, .int .i64 d.n, .slice ra d.bs.length rc] 49))
      have hb1 := hid (show ∀ i ∈ w.heap.size :: v.ownBlock.toList, i ≠ wr.heap.size by
        intro i hi e
        rcases List.mem_cons.1 hi with hi | hi
        · have := T.out.pen.lt; omega
        · have := (T.out.pen.own.lt i (by simpa using hi)).2; omega)
      have R0 : Hid (RowAt w (.slice ra d.bs.length rc) d.bs) := by have := DA0.out.row; rw [hrow] at this; exact this
      generalize hbx : Obj.cells #[Value.int .i64 d.act, .int .i64 d.x, .int .i64 d.n, .slice ra d.bs.length rc] 49 = bx at T1 X1
      have HBX := hid hbx
      clear hbx hrow
      by_cases h1 : d.act ≤ 1
      · have HS := hid (show deedW ((ds.take k).foldl deedW ([], 0)) d = penNum d.x d.n ((ds.take k).foldl deedW ([], 0)) ∧ deedR ((ds.take k).foldl deedR ([], 0)) d = refNum d.x d.n ((ds.take k).foldl deedR ([], 0)) by
          unfold deedW deedR; rw [if_pos h1, if_pos h1]; exact ⟨rfl, rfl⟩)
        go_wp2_with fail
        rw [HBX.out]
        refine (num_any _ w.heap.size w.heap.size v _ _ d.x d.n T1.out.pen T1.out.kept.size).mono ?_
        intro e w2 hq
        obtain ⟨rfl, v2, q2⟩ := T1.out.stepW hq
        have X2 : w2.heap[wr.heap.size]? = some bx := by
          obtain ⟨_, _, _, hk, _⟩ := hq
          rw [hk.block wr.heap.size (by rw [World.size_alloc]; omega) (fun hm => hb1.out _ hm rfl)]
          exact X1.out
        have T2 := hid q2
        clear q2 hq
        rw [← HBX.out] at X2
        have y1 : w2.cell? ⟨wr.heap.size, 1, none⟩ = some (.int .i64 d.x) := by simp [World.cell?, X2]
        have y2 : w2.cell? ⟨wr.heap.size, 2, none⟩ = some (.int .i64 d.n) := by simp [World.cell?, X2]
        clear X2
        go_wp2_with fail
        refine (rnum_any _ w.heap.size (w.heap.size + 1) u _ _ d.x d.n T2.out.ref T2.out.kept.size).mono ?_
        intro e w3 hq
        obtain ⟨rfl, u3, q2⟩ := T2.out.stepR hq
        have T3 := hid q2
        clear q2 hq
        go_wp2_with fail
        go_roundw
        case rel => exact ⟨k + 1, v2, u3, by omega, by go_num, by rw [HF.out.1, HF.out.2, HS.out.1, HS.out.2]; exact T3.out⟩
        case measure => simp [intOf]; omega
      · have h1' : decide (d.act ≤ 1) = false := by simp; omega
        by_cases h2 : d.act = 2
        · have h2' : (d.act == 2) = true := by simpa using h2
          have HS := hid (show deedW ((ds.take k).foldl deedW ([], 0)) d = penRaw d.bs ((ds.take k).foldl deedW ([], 0)) ∧ deedR ((ds.take k).foldl deedR ([], 0)) d = refRaw d.bs ((ds.take k).foldl deedR ([], 0)) by
            unfold deedW deedR; rw [if_neg h1, if_neg h1, if_pos h2, if_pos h2]; exact ⟨rfl, rfl⟩)
          clear h1 h2
          go_wp2_with fail
          rw [HBX.out]
          refine (raw_any _ w.heap.size w.heap.size v _ _ _ d.bs T1.out.pen (R0.out.keep T1.out.kept (by intro _ _ _ _ _; simp)) (off_old R0.out T1.out.pen.ge) T1.out.kept.size (by omega)).mono ?_
          intro e w2 hq
          obtain ⟨rfl, v2, q2⟩ := T1.out.stepW hq
          have X2 : w2.heap[wr.heap.size]? = some bx := by
            obtain ⟨_, _, _, hk, _⟩ := hq
            rw [hk.block wr.heap.size (by rw [World.size_alloc]; omega) (fun hm => hb1.out _ hm rfl)]
            exact X1.out
          have T2 := hid q2
          clear q2 hq
          rw [← HBX.out] at X2
          have y3 : w2.cell? ⟨wr.heap.size, 3, none⟩ = some (.slice ra d.bs.length rc) := by simp [World.cell?, X2]
          clear X2
          go_wp2_with fail
          refine (rraw_any _ w.heap.size (w.heap.size + 1) u _ _ _ d.bs T2.out.ref (R0.out.keep T2.out.kept (by intro _ _ _ _ _; simp)) (off_old R0.out T2.out.ref.ge) T2.out.kept.size (by omega)).mono ?_
          intro e w3 hq
          obtain ⟨rfl, u3, q2⟩ := T2.out.stepR hq
          have T3 := hid q2
          clear q2 hq
          go_wp2_with fail
          go_roundw
          case rel => exact ⟨k + 1, v2, u3, by omega, by go_num, by rw [HF.out.1, HF.out.2, HS.out.1, HS.out.2]; exact T3.out⟩
          case measure => simp [intOf]; omega
        · have h2' : (d.act == 2) = false := by simpa using h2
          by_cases h3 : d.act = 3
          · have h3' : (d.act == 3) = true := by simpa using h3
            have HS := hid (show deedW ((ds.take k).foldl deedW ([], 0)) d = penRaw d.bs ((ds.take k).foldl deedW ([], 0)) ∧ deedR ((ds.take k).foldl deedR ([], 0)) d = refRaw d.bs ((ds.take k).foldl deedR ([], 0)) by
              unfold deedW deedR; rw [if_neg h1, if_neg h1, if_neg h2, if_neg h2, if_pos h3, if_pos h3]; exact ⟨rfl, rfl⟩)
            have hcs := hid (codes_strOf d.bs R0.out.bytes)
            have cv := conv_row (R0.out.keep T1.out.kept (by intro _ _ _ _ _; simp))
            rw [← HBX.out] at cv
            clear h1 h2 h3
            go_wp2_with fail
            rw [HBX.out]
            refine (text_any _ w.heap.size w.heap.size v _ _ _ T1.out.pen T1.out.kept.size (by rw [strOfNums_size]; omega)).mono ?_
            intro e w2 hq
            rw [hcs.out] at hq
            clear cv
            obtain ⟨rfl, v2, q2⟩ := T1.out.stepW hq
            have X2 : w2.heap[wr.heap.size]? = some bx := by
              obtain ⟨_, _, _, hk, _⟩ := hq
              rw [hk.block wr.heap.size (by rw [World.size_alloc]; omega) (fun hm => hb1.out _ hm rfl)]
              exact X1.out
            have T2 := hid q2
            clear q2 hq
            rw [← HBX.out] at X2
            have y3 : w2.cell? ⟨wr.heap.size, 3, none⟩ = some (.slice ra d.bs.length rc) := by simp [World.cell?, X2]
            clear X2
            go_wp2_with fail
            refine (rraw_any _ w.heap.size (w.heap.size + 1) u _ _ _ d.bs T2.out.ref (R0.out.keep T2.out.kept (by intro _ _ _ _ _; simp)) (off_old R0.out T2.out.ref.ge) T2.out.kept.size (by omega)).mono ?_
            intro e w3 hq
            obtain ⟨rfl, u3, q2⟩ := T2.out.stepR hq
            have T3 := hid q2
            clear q2 hq
            go_wp2_with fail
            go_roundw
            case rel => exact ⟨k + 1, v2, u3, by omega, by go_num, by rw [HF.out.1, HF.out.2, HS.out.1, HS.out.2]; exact T3.out⟩
            case measure => simp [intOf]; omega
          · have h3' : (d.act == 3) = false := by simpa using h3
            have HS := hid (show deedW ((ds.take k).foldl deedW ([], 0)) d = penBool (odd d.x) ((ds.take k).foldl deedW ([], 0)) ∧ deedR ((ds.take k).foldl deedR ([], 0)) d = refBool (odd d.x) ((ds.take k).foldl deedR ([], 0)) by
              unfold deedW deedR; rw [if_neg h1, if_neg h1, if_neg h2, if_neg h2, if_neg h3, if_neg h3]; exact ⟨rfl, rfl⟩)
            clear h1 h2 h3
            go_wp2_with fail
            rw [HBX.out]
            refine (bool_any _ w.heap.size w.heap.size v _ _ (odd d.x) T1.out.pen T1.out.kept.size).mono ?_
            intro e w2 hq
            obtain ⟨rfl, v2, q2⟩ := T1.out.stepW hq
            have X2 : w2.heap[wr.heap.size]? = some bx := by
              obtain ⟨_, _, _, hk, _⟩ := hq
              rw [hk.block wr.heap.size (by rw [World.size_alloc]; omega) (fun hm => hb1.out _ hm rfl)]
              exact X1.out
            have T2 := hid q2
            clear q2 hq
            rw [← HBX.out] at X2
            have y1 : w2.cell? ⟨wr.heap.size, 1, none⟩ = some (.int .i64 d.x) := by simp [World.cell?, X2]
            clear X2
            go_wp2_with fail
            refine (rbool_any _ w.heap.size (w.heap.size + 1) u _ _ (odd d.x) T2.out.ref T2.out.kept.size).mono ?_
            intro e w3 hq
            obtain ⟨rfl, u3, q2⟩ := T2.out.stepR hq
            have T3 := hid q2
            clear q2 hq
            go_wp2_with fail
            go_roundw
            case rel => exact ⟨k + 1, v2, u3, by omega, by go_num, by rw [HF.out.1, HF.out.2, HS.out.1, HS.out.2]; exact T3.out⟩
            case measure => simp [intOf]; omega
    · have : k = ds.length := by omega
      subst this
      go_wp2_with fail
      go_ret2
      have := T.out
      rw [List.take_length] at this
      exact ⟨w.heap.size, w.heap.size + 1, v, u, rfl, this⟩
end Go.Proofs.Ytfkafelidkcinaa
