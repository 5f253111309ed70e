/- The deeds that a law is handed, as they lie in memory; the walk of the laws' room. -/
import Derived.Test.YtfkafelidkcinaaModel
namespace Go.Proofs.Ytfkafelidkcinaa
open Go.RowKit

structure Dd where
  act : Int
  x : Int
  n : Int
  row : Value
  bs : List Int

def i64 (z : Int) : Prop := -9223372036854775808 ≤ z ∧ z ≤ 9223372036854775807

/-- Deed d lies in the four cells from there on. -/
structure DeedAt (w : World) (g off : Nat) (d : Dd) : Prop where
  c0 : w.cell? ⟨g, off, none⟩ = some (.int .i64 d.act)
  c1 : w.cell? ⟨g, off + 1, none⟩ = some (.int .i64 d.x)
  c2 : w.cell? ⟨g, off + 2, none⟩ = some (.int .i64 d.n)
  c3 : w.cell? ⟨g, off + 3, none⟩ = some d.row
  row : RowAt w d.row d.bs
  fit : d.bs.length ≤ 140737488351232
  b0 : i64 d.act
  b1 : i64 d.x
  b2 : i64 d.n

/-- A slice of deeds. -/
def DeedsAt (w : World) (v : Value) (ds : List Dd) : Prop :=
  ∃ (a : Option Addr) (cap : Nat), v = .slice a ds.length cap ∧ ds.length ≤ cap ∧ cap ≤ maxLen ∧ (a = none → cap = 0) ∧
    (ds ≠ [] → ∃ g off, a = some ⟨g, off, none⟩ ∧ ∀ i (h : i < ds.length), DeedAt w g (off + i * 4) ds[i])

theorem DeedAt.keep {w w' : World} {g off : Nat} {d : Dd} (h : DeedAt w g off d) (k : Keeps [] w w') : DeedAt w' g off d :=
  ⟨k.cell h.c0 (by simp), k.cell h.c1 (by simp), k.cell h.c2 (by simp), k.cell h.c3 (by simp), h.row.keep k (by intro _ _ _ _ _; simp), h.fit, h.b0, h.b1, h.b2⟩

theorem DeedsAt.keep {w w' : World} {v : Value} {ds : List Dd} (h : DeedsAt w v ds) (k : Keeps [] w w') : DeedsAt w' v ds := by
  obtain ⟨a, cap, rfl, h1, h2, h0, h3⟩ := h
  refine ⟨a, cap, rfl, h1, h2, h0, fun hne => ?_⟩
  obtain ⟨g, off, rfl, h4⟩ := h3 hne
  exact ⟨g, off, rfl, fun i hi => (h4 i hi).keep k⟩

def RoomOk (ds : List Dd) : Prop := ds.length ≤ 100 ∧ ∀ d ∈ ds, d.bs.length ≤ 70000

def RoomPost (w : World) (ds : List Dd) (e : Ending) (w' : World) : Prop := ∃ b, e = .returned (.bool b) ∧ w = w' ∧ (b = true → RoomOk ds)

set_option maxHeartbeats 400000 in
theorem room_any (w : World) (v : Value) (ds : List Dd) (h : DeedsAt w v ds) : Calls Try.prog 18 #[v] w (RoomPost w ds) := by
  obtain ⟨a, cap, rfl, h1, h2, h0, h3⟩ := h
  clear h2 h0
  by_cases hl : ds.length > 100
  · have hl' : (100 : Int) < ds.length := by omega
    clear h3
    go_enter Try.func18, Try.ntmps18
    go_wp2_with fail
    go_ret
    exact ⟨false, rfl, rfl, by simp⟩
  · have hl' : ¬ (100 : Int) < ds.length := by omega
    have H3 := hid h3
    clear h3
    go_enter Try.func18, Try.ntmps18
    go_wp2_with fail
    go_loop [3, 4] (fun s i => ∃ (k : Nat) (n : Int), k ≤ ds.length ∧ i = .int .i64 k ∧ s = .int .i64 n ∧ 0 ≤ n ∧ n ≤ 200000 ∧ ∀ d ∈ ds.take k, d.bs.length ≤ 70000) (fun _ i => ds.length - (intOf i).toNat)
    case atStart => exact ⟨0, 0, by omega, rfl, rfl, by omega, by omega, by simp⟩
    case round =>
      obtain ⟨k, n, hk, rfl, rfl, n0, n1, hall⟩ := hrel
      have HA := hid hall
      clear hall
      by_cases hlt : k < ds.length
      · obtain ⟨g, off, rfl, hd⟩ := H3.out (by intro e; rw [e] at hlt; simp at hlt)
        have D := hid (hd k hlt)
        have c3 := D.out.c3
        obtain ⟨ra, rc, hrow, z⟩ := D.out.row
        clear z
        rw [hrow] at c3
        have hf := D.out.fit
        clear hd
        have HL := hid (show ∀ b : Nat, b = ds[k].bs.length → b ≤ 70000 → ∀ d ∈ ds.take (k + 1), d.bs.length ≤ 70000 by
          intro b hb hle d hm
          rw [List.take_succ_eq_append_getElem hlt] at hm
          rcases List.mem_append.1 hm with hm | hm
          · exact HA.out d hm
          · have : d = ds[k] := by simpa using hm
            rw [this, ← hb]
            exact hle)
        generalize hbl : ds[k].bs.length = bl at *
        clear hrow hbl
        go_wp2_with fail
        · go_ret
          exact ⟨false, rfl, rfl, by simp⟩
        · have hs : ((bl : Nat) : Int) ≤ 70000 ∧ n + (bl : Int) ≤ 200000 := by assumption
          go_round
          case rel => exact ⟨k + 1, n + bl, by omega, by go_num, rfl, by omega, by omega, HL.out bl rfl (by omega)⟩
          case measure => simp [intOf]; omega
        · go_ret
          exact ⟨false, rfl, rfl, by simp⟩
      · have : k = ds.length := by omega
        subst this
        go_wp2_with fail
        go_ret
        refine ⟨true, rfl, rfl, fun _ => ⟨by omega, fun d hd => HA.out d ?_⟩⟩
        rw [List.take_length]
        exact hd
end Go.Proofs.Ytfkafelidkcinaa
