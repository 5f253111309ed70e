/- The reference's slots: Clear. -/
import Derived.Test.YtiljhjegfklgmaaRsF
namespace Go.Proofs.Ytiljhjegfklgmaa
open Go.RowKit Go.Shelf
set_option maxRecDepth 100000
set_option linter.unusedSimpArgs false

/-- A disk's state that is within bounds. -/
structure DS.Fit (s : DS) (K : Nat) : Prop where
  ok : s.Ok K
  ll : s.loose.length ≤ K
theorem DS.Fit.mono {s : DS} {K K' : Nat} (h : s.Fit K) (hk : K ≤ K') : s.Fit K' := ⟨⟨h.ok.lo, h.ok.hi, h.ok.fz, ⟨h.ok.op.1, by have := h.ok.op.2; omega⟩, h.ok.at_, h.ok.eqs⟩, by have := h.ll; omega⟩
theorem DS.Fit.wrote {s : DS} {K : Nat} (h : s.Fit K) (n : Nat) (hn : n < s.cnt) (r : Row) : (s.wrote n r).Fit (K + 1) := by
  refine ⟨DS.wrote_ok h.ok n hn r, ?_⟩
  have := h.ll
  unfold DS.wrote
  split
  · show (s.loose ++ [(n, r)]).length ≤ _
    rw [List.length_append, List.length_singleton]; omega
  · show (s.loose ++ [(n, r)]).length ≤ _
    rw [List.length_append, List.length_singleton]; omega
theorem DS.Fit.writeS {s : DS} {K : Nat} (h : s.Fit K) (k : Int) (zs : List Int) : (writeS s k zs).Fit (K + 1) := by
  unfold Go.Proofs.Ytiljhjegfklgmaa.writeS
  split
  · rename_i ht
    exact h.wrote k.toNat (by have := ht.2.1; have := ht.2.2.1; omega) _
  · exact h.mono (by omega)
theorem DS.Fit.syncS {s : DS} {K : Nat} (h : s.Fit K) : (syncS s).Fit (K + 1) := by
  obtain ⟨ok, ll⟩ := h
  unfold Go.Proofs.Ytiljhjegfklgmaa.syncS
  split
  · exact (DS.Fit.mk ok ll).mono (by omega)
  · split
    · exact ⟨⟨ok.lo, ok.hi, ok.fz, ⟨ok.op.1, by have := ok.op.2; show s.ops ≤ _; omega⟩, ok.at_, ok.eqs⟩, by show s.loose.length ≤ _; omega⟩
    · refine ⟨⟨ok.lo, ok.hi, ?_, ⟨?_, ?_⟩, fun x hx => absurd hx (by simp [DS.synced, DS.spent]), fun i hi => rfl⟩, by simp [DS.synced, DS.spent]⟩
      · show -9223372036854775808 ≤ (if 0 < s.fuse then s.fuse - 1 else s.fuse) ∧ (if 0 < s.fuse then s.fuse - 1 else s.fuse) ≤ 9223372036854775807
        have := ok.fz
        split <;> omega
      · have := ok.op.1; show 0 ≤ s.ops + 1; omega
      · have := ok.op.2; show s.ops + 1 ≤ ((K + 1 : Nat) : Int); omega

/-- The reference's slots, and its disk. -/
structure RdAt (w : World) (q p first : Nat) (hs : List Hd) (s : DS) (M G : List Nat) (K : Nat) : Prop where
  sl : RsAt w q p first hs M
  dk : RefS w p s G
  dis : ∀ b ∈ M, b ∉ G
  fit : s.Fit K
  room : first + hs.length * 8 ≤ s.cnt
  ok : ∀ h ∈ hs, h.Ok
theorem RdAt.keep {w w' : World} {q p first : Nat} {hs : List Hd} {s : DS} {M G S : List Nat} {K : Nat} (h : RdAt w q p first hs s M G K) (k : Keeps S w w') (h1 : ∀ b ∈ M, b ∉ S) (h2 : ∀ b ∈ G, b ∉ S) : RdAt w' q p first hs s M G K :=
  ⟨h.sl.keep k h1, h.dk.keep k h2, h.dis, h.fit, h.room, h.ok⟩
def RdPost (w : World) (q p first : Nat) (hs : List Hd) (s : DS) (M G : List Nat) (K : Nat) (er : Int) (e : Ending) (w' : World) : Prop :=
  e = .returned (.int .i64 er) ∧ ∃ M' G', RdAt w' q p first hs s M' G' K ∧ Keeps (M ++ G) w w' ∧ Fresh w M M' ∧ Fresh w G G'

/-- The disk has gone on. -/
theorem RdAt.disk {w w' : World} {q p first : Nat} {hs : List Hd} {s s' : DS} {M G : List Nat} {K K' : Nat} (h : RdAt w q p first hs s M G K) (d : RDone w p s' G w') (f : s'.Fit K') (hc : s'.cnt = s.cnt) :
    ∃ G', RdAt w' q p first hs s' M G' K' ∧ Keeps (M ++ G) w w' ∧ Fresh w G G' := by
  obtain ⟨G', r, k, fr⟩ := d
  refine ⟨G', ⟨h.sl.keep k h.dis, r, fun b hb hg => ?_, f, by rw [hc]; exact h.room, h.ok⟩, k.mono (fun _ _ hm => List.mem_append.2 (.inr hm)), fr⟩
  rcases fr b hg with h1 | h1
  · exact h.dis b hb h1
  · have := h.sl.lt b hb; omega
theorem pad_nil : pad64 (headB hd0) = List.replicate 64 0 := rfl
theorem markS_fit {s : DS} {K : Nat} (h : s.Fit K) (n : Nat) (hd : Hd) : (markS s n hd).Fit (K + 2) := (h.writeS _ _).syncS

/-- A head is set. -/
theorem RslIn.setAt {w : World} {q p : Nat} {first : Int} {g c : Nat} {rs : List Rh} (h : RslIn w q p first (.slice (some ⟨g, 0, none⟩) rs.length c) rs) (i : Nat) (hi : i < rs.length) (r : Rh) (hr : RowAt w r.kv r.key)
    (hoff : ∀ b, r.blk = some b → b ≠ q ∧ g ≠ b ∧ b < w.heap.size) :
    RslIn (w.setCells g (i * 3) [.bool r.u, r.kv, .int .i64 r.n]) q p first (.slice (some ⟨g, 0, none⟩) rs.length c) (rs.set i r) ∧ w.there g (i * 3) 3 := by
  have hgq : g ≠ q := fun e => h.no (by rw [← e]; rfl)
  have hrow : ∀ x, x ∈ rs.set i r → RowAt w x.kv x.key ∧ ∀ b, x.blk = some b → b ≠ q ∧ g ≠ b ∧ b < w.heap.size := fun x hx => by
    rcases List.mem_or_eq_of_mem_set hx with hx | rfl
    · refine ⟨h.keys x hx, fun b e => ?_⟩
      obtain ⟨h1, h2, h3⟩ := h.off x hx b e
      exact ⟨h1, fun e2 => h2 (by rw [← e2]; rfl), h3⟩
    · exact ⟨hr, hoff⟩
  have hsz : (w.setCells g (i * 3) [.bool r.u, r.kv, .int .i64 r.n]).heap.size = w.heap.size := by
    show (((w.setCell _ _).setCell _ _).setCell _ _).heap.size = _
    simp [World.setCell]
  rcases h.own.2 with ⟨e, _⟩ | ⟨g1, cap, cur, e, hb, hg, hnc, hcm, hcs, ht⟩
  · cases e
  · injection e with e1 _ e3
    injection e1 with e1
    injection e1 with e1
    subst e1; subst e3
    have hcl := hcells_length rs
    have hnew : (w.setCells g (i * 3) [.bool r.u, r.kv, .int .i64 r.n]).heap[g]? = some (.cells (((cur.setIfInBounds (i * 3) (.bool r.u)).setIfInBounds (i * 3 + 1) r.kv).setIfInBounds (i * 3 + 2) (.int .i64 r.n)) 79 (0, 0)) :=
      heap_setCell_same _ g (i * 3 + 1 + 1) _ _ _ (heap_setCell_same _ g (i * 3 + 1) _ _ _ (heap_setCell_same w g (i * 3) _ _ _ hg))
    refine ⟨⟨by rw [set3_other _ _ _ _ _ _ (fun e => hgq e.symm)]; exact h.blk, ?_, fun x hx => ?_, fun x hx b e => ?_, h.no⟩, there_of hg _ _ (by omega)⟩
    · rw [List.length_set]
      refine ⟨by rw [hcells_length, List.length_set], .inr ⟨g, c, _, rfl, hb, hnew, hnc, hcm, by simpa using hcs, ?_⟩⟩
      rw [← hcells_set rs i r hi, ← ht]
      simp only [Array.toList_setIfInBounds, List.take_set, List.length_set]
    · obtain ⟨h1, h2⟩ := hrow x hx
      exact row_of_same h1 (fun hne b e => set3_other _ _ _ _ _ _ (fun e2 => (h2 b (Rh.blk_iff.2 ⟨hne, e⟩)).2.1 e2.symm))
    · obtain ⟨h1, h2, h3⟩ := (hrow x hx).2 b e
      exact ⟨h1, fun e2 => h2 (by injection e2), by rw [hsz]; exact h3⟩
theorem buildHeld0 {ρ : Operand → Value} {o : Oper} {w : World} (ho : o.op = .build 79 #[]) : (execOp ρ o).run Try.prog w = .ok (.value (.agg #[.bool false, .slice none 0 0, .int .i64 0])) w := by
  simp only [execOp, ho, List.map_toArray, List.map_nil, Sem.run_bind, run_buildHeld0, Result.andThen_ok, Sem.run_pure]

end Go.Proofs.Ytiljhjegfklgmaa
