/- The law SlotPlays: how it stands between two deeds. -/
import Derived.Test.YtiljhjegfklgmaaRsK
namespace Go.Proofs.Ytiljhjegfklgmaa
open Go.RowKit Go.Shelf
set_option maxRecDepth 100000
set_option linter.unusedSimpArgs false

theorem ropen_no (w : World) (p : Nat) (s : DS) (G : List Nat) (H : RefS w p s G) (first : Int) (hf : first < 0 ∨ (s.cnt : Int) < first) :
    Calls Try.prog 10 #[.pointer (some ⟨p, 0, none⟩), .int .i64 first] w fun e w' => e = .returned (.tuple #[.pointer none, .int .i64 1]) ∧ w = w' := by
  obtain ⟨C4, C6, ⟨ca, cc, C0⟩, hpG, hpw⟩ := H.cells
  clear H C4 C6
  by_cases h0 : first < 0
  · go_enter Try.func10, Try.ntmps10
    go_wp2_with fail
    go_ret2
    exact ⟨rfl, rfl⟩
  · have h1 : (s.cnt : Int) < first := by omega
    clear hf
    go_enter Try.func10, Try.ntmps10
    go_wp2_with fail
    go_ret2
    exact ⟨rfl, rfl⟩
theorem lOpen_no (w : World) (p : Nat) (s : DS) (F : List Nat) (K : Nat) (D : DiskAt w p s F K) (first : Int) (hf : first < 0 ∨ (s.cnt : Int) < first) :
    Calls Try.prog 9 #[.pointer (some ⟨p, 0, none⟩), .int .i64 first] w fun e w' => e = .returned (.tuple #[.pointer none, .int .i64 1]) ∧ w = w' := by
  by_cases h0 : first < 0
  · exact lOpen_neg w p first h0
  · obtain ⟨n, rfl⟩ := Int.eq_ofNat_of_zero_le (show 0 ≤ first by omega)
    exact lOpen_arg w p s F K D n (by omega)

/-- Between two deeds, or between the code's and the reference's. -/
structure SpI (W w : World) (q p g rq rp first : Nat) (hs : List Hd) (s : DS) (hs2 : List Hd) (s2 : DS) (F M G : List Nat) (K : Nat) : Prop where
  c : SlAt w q p g first hs s F K
  r : RdAt w rq rp first hs2 s2 M G K
  dis : ∀ b ∈ q :: g :: F, b ∉ M ++ G
  new : ∀ b ∈ (q :: g :: F) ++ (M ++ G), W.heap.size ≤ b
  kp : Keeps [] W w
theorem RdAt.mono {w : World} {q p first : Nat} {hs : List Hd} {s : DS} {M G : List Nat} {K K' : Nat} (h : RdAt w q p first hs s M G K) (hk : K ≤ K') : RdAt w q p first hs s M G K' := ⟨h.sl, h.dk, h.dis, h.fit.mono hk, h.room, h.ok⟩
section
variable {W w w' : World} {q p g rq rp first : Nat} {hs hs' hs2 hs2' : List Hd} {s s' s2 s2' : DS} {F M G : List Nat} {K K' : Nat}
theorem SpI.keep (h : SpI W w q p g rq rp first hs s hs2 s2 F M G K) (k : Keeps [] w w') : SpI W w' q p g rq rp first hs s hs2 s2 F M G K :=
  ⟨h.c.keep k (by simp) (by simp) (by simp), h.r.keep k (by simp) (by simp), h.dis, h.new, h.kp.trans k⟩
theorem SpI.mono (h : SpI W w q p g rq rp first hs s hs2 s2 F M G K) (hk : K ≤ K') : SpI W w q p g rq rp first hs s hs2 s2 F M G K' :=
  ⟨h.c.mono hk, h.r.mono hk, h.dis, h.new, h.kp⟩
theorem SpI.lt (h : SpI W w q p g rq rp first hs s hs2 s2 F M G K) : ∀ b ∈ (q :: g :: F) ++ (M ++ G), b < w.heap.size := by
  intro b hb
  simp only [List.mem_append, List.mem_cons] at hb
  rcases hb with (rfl | rfl | hb) | hb | hb
  · exact h.c.sl.ltq
  · exact h.c.sl.ltg
  · exact h.c.dk.lt b hb
  · exact h.r.sl.lt b hb
  · exact h.r.dk.lt b hb
theorem SpI.code (h : SpI W w q p g rq rp first hs s hs2 s2 F M G K) {F' : List Nat} (d : SlAt w' q p g first hs' s' F' K') (k : Keeps (g :: F) w w') (fr : Fresh w F F') (hk : K ≤ K') : SpI W w' q p g rq rp first hs' s' hs2 s2 F' M G K' := by
  have hm : ∀ b ∈ M ++ G, b ∉ g :: F := fun b hb hc => h.dis b (List.mem_cons_of_mem _ hc) hb
  refine ⟨d, (h.r.keep k (fun b hb => hm b (List.mem_append.2 (.inl hb))) (fun b hb => hm b (List.mem_append.2 (.inr hb)))).mono hk, fun b hb hg => ?_, fun b hb => ?_, h.kp.trans' k (fun i hi hc => by have := h.new i (List.mem_append.2 (.inl (List.mem_cons_of_mem _ hc))); omega)⟩
  · rcases List.mem_cons.1 hb with rfl | hb
    · exact h.dis _ (by simp) hg
    · rcases List.mem_cons.1 hb with rfl | hb
      · exact h.dis _ (by simp) hg
      · rcases fr b hb with h1 | h1
        · exact h.dis b (by simp [h1]) hg
        · have := h.lt b (List.mem_append.2 (.inr hg)); omega
  · rcases List.mem_append.1 hb with hb | hb
    · rcases List.mem_cons.1 hb with rfl | hb
      · exact h.new _ (by simp)
      · rcases List.mem_cons.1 hb with rfl | hb
        · exact h.new _ (by simp)
        · rcases fr b hb with h1 | h1
          · exact h.new b (by simp [h1])
          · have := h.kp.size; omega
    · exact h.new b (List.mem_append.2 (.inr hb))
theorem SpI.ref (h : SpI W w q p g rq rp first hs s hs2 s2 F M G K) {er : Int} {e : Ending} (d : RdPost w rq rp first hs2' s2' M G K' er e w') (hk : K ≤ K') : ∃ M' G', SpI W w' q p g rq rp first hs s hs2' s2' F M' G' K' := by
  obtain ⟨_, M', G', r, k, f1, f2⟩ := d
  have hm : ∀ b ∈ q :: g :: F, b ∉ M ++ G := h.dis
  have hfr : ∀ b ∈ M' ++ G', b ∈ M ++ G ∨ w.heap.size ≤ b := fun b hb => by
    rcases List.mem_append.1 hb with hb | hb
    · exact (f1 b hb).imp (fun h => List.mem_append.2 (.inl h)) id
    · exact (f2 b hb).imp (fun h => List.mem_append.2 (.inr h)) id
  refine ⟨M', G', (h.c.keep k (hm q (by simp)) (hm g (by simp)) (fun b hb => hm b (by simp [hb]))).mono hk, r, fun b hb hg => ?_, fun b hb => ?_, h.kp.trans' k (fun i hi hc => by have := h.new i (List.mem_append.2 (.inr hc)); omega)⟩
  · rcases hfr b hg with h1 | h1
    · exact hm b hb h1
    · have := h.lt b (List.mem_append.2 (.inl hb)); omega
  · rcases List.mem_append.1 hb with hb | hb
    · exact h.new b (List.mem_append.2 (.inl hb))
    · rcases hfr b hb with h1 | h1
      · exact h.new b (List.mem_append.2 (.inr h1))
      · have := h.kp.size; omega
theorem SpI.lk (h : SpI W w q p g rq rp first hs s hs s F M G K) : LkAt w q p g rq rp first hs s F M G K := ⟨h.c, h.r⟩
end
theorem RdPost.is {w : World} {q p first : Nat} {hs : List Hd} {s : DS} {M G : List Nat} {K : Nat} {er : Int} {e : Ending} {w' : World} (h : RdPost w q p first hs s M G K er e w') : e = .returned (.int .i64 er) := h.1

/-- A deed as a value. -/
def D5.cells (d : D5) : List Value := [.int .i64 d.act, .int .i64 d.i, .int .i64 d.n, d.kv, d.bv]
theorem D5At.cells {w : World} {g off : Nat} {d : D5} (h : D5At w g off d) : ∀ j v, d.cells[j]? = some v → w.cell? ⟨g, off + j, none⟩ = some v := fun j v hv => by
  match j, hv with
  | 0, hv => simp [D5.cells] at hv; subst hv; exact h.c0
  | 1, hv => simp [D5.cells] at hv; subst hv; exact h.c1
  | 2, hv => simp [D5.cells] at hv; subst hv; exact h.c2
  | 3, hv => simp [D5.cells] at hv; subst hv; exact h.c3
  | 4, hv => simp [D5.cells] at hv; subst hv; exact h.c4
section
variable {ops : Array Oper} {rest : List Oper} {o : Oper} {a : Act} {w : World} {Q : Exit → Act → World → Prop}
end
end Go.Proofs.Ytiljhjegfklgmaa
