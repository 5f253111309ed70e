/- Slots: what becomes of a disk when a slot is put or cleared (plain mathematics). -/
import Derived.Test.YtnhcfkiejldicaaGreatSlF
namespace Go.Proofs.YtnhcfkiejldicaaGreat
open Go.RowKit

def chk (b : List Int) (k : Nat) : List Int := (b.drop (k * 64)).take 64
theorem chk_len (b : List Int) (k : Nat) : (chk b k).length = csz b.length k := by simp [chk, csz]
theorem chk_le (b : List Int) (k : Nat) : (chk b k).length ≤ 64 := by rw [chk_len]; unfold csz; omega

/-- The first k parts are written, from sector n on. -/
def holdW (s : DS) (n : Nat) (b : List Int) : Nat → DS
  | 0 => s
  | k + 1 => writeS (holdW s n b k) (n + k : Nat) (pad64 (chk b k))
/-- b is written from sector n on, and lasts. -/
def holdS (s : DS) (n : Nat) (b : List Int) : DS := syncS (holdW s n b (nch b.length))
/-- A head is written at sector n, and lasts. -/
def markS (s : DS) (n : Nat) (h : Hd) : DS := syncS (writeS s n (pad64 (headB h)))
def deadE (s : DS) : Int := if s.dead then 14 else 0

theorem writeS_dead {s : DS} (h : s.dead = true) (k : Int) (zs : List Int) : writeS s k zs = s := by
  have : ¬ s.takes k zs.length := by simp [DS.takes, h]
  simp only [writeS, if_neg this]
theorem syncS_dead {s : DS} (h : s.dead = true) : syncS s = s := by simp [syncS, h]
theorem writeS_cnt (s : DS) (k : Int) (zs : List Int) : (writeS s k zs).cnt = s.cnt := by
  unfold writeS
  split
  · unfold DS.wrote; split <;> rfl
  · rfl
theorem syncS_cnt (s : DS) : (syncS s).cnt = s.cnt := by
  unfold syncS
  split
  · rfl
  · split <;> rfl
theorem writeE_is {s : DS} {k : Nat} {zs : List Int} (hk : k < s.cnt) (hz : zs.length = 64) : writeE s k zs.length = deadE (writeS s k zs) := by
  unfold deadE
  cases hd : s.dead with
  | true =>
    rw [writeS_dead hd, hd]
    have : ¬ s.takes k zs.length := by simp [DS.takes, hd]
    simp only [writeE, if_neg this, hd]
    rfl
  | false =>
    have ht : s.takes k zs.length := ⟨hd, by omega, by omega, hz⟩
    simp only [writeE, writeS, if_pos ht, DS.wrote]
    by_cases hf : s.fuse = 0
    · simp [hf]
    · simp [hf, DS.spent, hd]
theorem syncE_is (s : DS) : syncE s = deadE (syncS s) := by
  unfold deadE syncE syncS
  cases hd : s.dead with
  | true => simp [hd]
  | false =>
    by_cases hf : s.fuse = 0
    · simp [hf]
    · simp [hf, DS.synced, DS.spent, hd]
theorem holdW_cnt (s : DS) (n : Nat) (b : List Int) : ∀ k, (holdW s n b k).cnt = s.cnt
  | 0 => rfl
  | k + 1 => by rw [holdW, writeS_cnt, holdW_cnt s n b k]
theorem holdS_cnt (s : DS) (n : Nat) (b : List Int) : (holdS s n b).cnt = s.cnt := by rw [holdS, syncS_cnt, holdW_cnt]
theorem holdW_dead {s : DS} {n : Nat} {b : List Int} {k : Nat} (h : (holdW s n b k).dead = true) : ∀ j, k ≤ j → holdW s n b j = holdW s n b k
  | 0, hj => by
    have : k = 0 := by omega
    subst this; rfl
  | j + 1, hj => by
    by_cases e : k = j + 1
    · rw [e]
    · have ih := holdW_dead h j (by omega)
      rw [holdW, ih, writeS_dead h]
theorem holdS_dead {s : DS} {n : Nat} {b : List Int} {k : Nat} (hk : k ≤ nch b.length) (h : (holdW s n b k).dead = true) : holdS s n b = holdW s n b k := by
  rw [holdS, holdW_dead h _ hk, syncS_dead h]
end Go.Proofs.YtnhcfkiejldicaaGreat
