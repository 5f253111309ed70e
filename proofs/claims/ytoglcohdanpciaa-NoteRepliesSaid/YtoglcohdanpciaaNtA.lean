/- note: requests and replies plainly; how they lie in memory; what their bytes are. -/
import Derived.Test.YtoglcohdanpciaaNtM
import Derived.Test.YtoglcohdanpciaaKitK
namespace Go.Proofs.Ytoglcohdanpciaa
open Go.RowKit Go.Shelf
set_option maxRecDepth 100000
set_option linter.unusedSimpArgs false
set_option linter.unusedVariables false

/-- A stripe and its size. -/
structure Sz where
  c : Int
  l : Int
  n : Int
  s : Int
deriving DecidableEq, Inhabited
/-- An entry. -/
structure Ent where
  nm : ByteArray
  ino : Int
  dir : Bool
deriving DecidableEq, Inhabited
structure Rq where
  cl : Int
  lf : Int
  sq : Int
  dO : Int
  pa : ByteArray
  tp : ByteArray
  di : Bool
  wr : Bool
  cz : Bool
  ha : Int
  nx : Int
  sw : Int
  ss : List Sz
  dl : List Dl
structure Rp where
  e : Int
  ino : Int
  sz : Int
  ha : Int
  sw : Int
  di : Bool
  es : List Ent
  mp : List Int
def KSz : Kn Sz := ⟨fun x => [.int .i64 x.c, .int .i64 x.l, .int .i64 x.n, .int .i64 x.s], 4, ⟨0, 0, 0, 0⟩⟩
def KEnt : Kn Ent := ⟨fun x => [.string x.nm, .int .i64 x.ino, .bool x.dir], 3, ⟨⟨#[]⟩, 0, false⟩⟩
def Rq.cells (r : Rq) (vs vd : Value) : List Value := [.int .i64 r.cl, .int .i64 r.lf, .int .i64 r.sq, .int .i64 r.dO, .string r.pa, .string r.tp, .bool r.di, .bool r.wr, .bool r.cz, .int .i64 r.ha, .int .i64 r.nx, .int .i64 r.sw, vs, vd]
def Rp.cells (r : Rp) (ve vm : Value) : List Value := [.int .i64 r.e, .int .i64 r.ino, .int .i64 r.sz, .int .i64 r.ha, .int .i64 r.sw, .bool r.di, ve, vm]
def rqV (r : Rq) (vs vd : Value) : Value := .agg (r.cells vs vd).toArray
def rpV (r : Rp) (ve vm : Value) : Value := .agg (r.cells ve vm).toArray
def rqZ : Rq := ⟨0, 0, 0, 0, ⟨#[]⟩, ⟨#[]⟩, false, false, false, 0, 0, 0, [], []⟩
def rpZ : Rp := ⟨0, 0, 0, 0, 0, false, [], []⟩
theorem bldSz (T TS : TypeId) (hi : (Try.prog.info? T).map (fun i => (i.zero, i.size, i.bytes)) = some (some (KSz.v KSz.z), 4, 32)) (hu : Try.prog.underlying TS = some (.slice T)) (w : World) (x : Sz) :
    (Instr.buildSlice TS 1 #[(0, KSz.v x)]).run Try.prog w = .ok (.slice (some ⟨w.heap.size, 0, none⟩) 1 1) (w.alloc (.cells (KSz.cells x).toArray T)) := by
  obtain ⟨ie, hie, hz, hs, _⟩ := info_parts hi
  refine run_buildSlice w _ _ 1 _ _ ie _ hu hie hz (by rw [hs]; decide) (by rw [hs]; decide) ?_
  rw [hs]
  have e : (Array.range (1 * 4)) = #[0, 1, 2, 3] := rfl
  have e2 : (KSz.v KSz.z).cells = (KSz.cells KSz.z).toArray := rfl
  have e3 : (KSz.v x).cells = (KSz.cells x).toArray := rfl
  simp only [Instr.fill, e, e2, e3]
  simp [KSz]
theorem bldEnt (T TS : TypeId) (hi : (Try.prog.info? T).map (fun i => (i.zero, i.size, i.bytes)) = some (some (KEnt.v KEnt.z), 3, 32)) (hu : Try.prog.underlying TS = some (.slice T)) (w : World) (x : Ent) :
    (Instr.buildSlice TS 1 #[(0, KEnt.v x)]).run Try.prog w = .ok (.slice (some ⟨w.heap.size, 0, none⟩) 1 1) (w.alloc (.cells (KEnt.cells x).toArray T)) := by
  obtain ⟨ie, hie, hz, hs, _⟩ := info_parts hi
  refine run_buildSlice w _ _ 1 _ _ ie _ hu hie hz (by rw [hs]; decide) (by rw [hs]; decide) ?_
  rw [hs]
  have e : (Array.range (1 * 3)) = #[0, 1, 2] := rfl
  have e2 : (KEnt.v KEnt.z).cells = (KEnt.cells KEnt.z).toArray := rfl
  have e3 : (KEnt.v x).cells = (KEnt.cells x).toArray := rfl
  simp only [Instr.fill, e, e2, e3]
  simp [KEnt]
theorem oneSz : ∀ x, ∀ u ∈ KSz.cells x, u.oneCell' = true := by
  intro x u hu
  simp [KSz] at hu
  rcases hu with rfl | rfl | rfl | rfl <;> rfl
theorem oneEnt : ∀ x, ∀ u ∈ KEnt.cells x, u.oneCell' = true := by
  intro x u hu
  simp [KEnt] at hu
  rcases hu with rfl | rfl | rfl <;> rfl
theorem cSz : KSz.Ty 144 79 32 := ⟨fun _ => rfl, oneSz, by decide, by decide, by kernel_rfl, by kernel_rfl, by kernel_rfl, Try.underlying79, ⟨_, Try.underlying144, rfl⟩, bldSz _ _ (by kernel_rfl) Try.underlying79⟩
theorem rSz : KSz.Ty 143 86 32 := ⟨fun _ => rfl, oneSz, by decide, by decide, by kernel_rfl, by kernel_rfl, by kernel_rfl, Try.underlying86, ⟨_, Try.underlying143, rfl⟩, bldSz _ _ (by kernel_rfl) Try.underlying86⟩
theorem cEnt : KEnt.Ty 102 71 32 := ⟨fun _ => rfl, oneEnt, by decide, by decide, by kernel_rfl, by kernel_rfl, by kernel_rfl, Try.underlying71, ⟨_, Try.underlying102, rfl⟩, bldEnt _ _ (by kernel_rfl) Try.underlying71⟩
theorem iReq : (Try.prog.info? 82).map (fun i => (i.zero, i.size)) = some (some (rqV rqZ (.slice none 0 0) (.slice none 0 0)), 14) := by kernel_rfl
theorem irReq : (Try.prog.info? 88).map (fun i => (i.zero, i.size)) = some (some (rqV rqZ (.slice none 0 0) (.slice none 0 0)), 14) := by kernel_rfl
theorem iRep : (Try.prog.info? 73).map (fun i => (i.zero, i.size)) = some (some (rpV rpZ (.slice none 0 0) (.slice none 0 0)), 8) := by kernel_rfl
theorem irRep : (Try.prog.info? 100).map (fun i => (i.zero, i.size)) = some (some (rpV rpZ (.slice none 0 0) (.slice none 0 0)), 8) := by kernel_rfl

/-- A kind of things seen as another one. -/
def mapC {α β : Type} (c : Cdc α) (f : α → β) (h : β → α) : Cdc β where
  g := fun st => (f (c.g st).1, (c.g st).2)
  b := fun x => c.b (h x)
  p := fun x s => c.p (h x) s
  q := fun x s => c.q (h x) s
  f := fun x => c.f (h x)
  e := fun x => c.e (h x)
theorem mapC_ok {α β : Type} {c : Cdc α} {f : α → β} {h : β → α} (hc : c.Ok) (fh : ∀ x, f (h x) = x) (hf : ∀ x, h (f x) = x) : (mapC c f h).Ok where
  be := fun x r hx => by
    show (f (c.g (c.b (h x) ++ r, 0)).1, (c.g (c.b (h x) ++ r, 0)).2) = _
    rw [hc.be _ _ hx, fh]
  ok := fun zs hb hz => by
    obtain ⟨h1, h2⟩ := hc.ok zs hb hz
    refine ⟨?_, ?_⟩
    · show zs = c.b (h (f (c.g (zs, 0)).1)) ++ _
      rw [hf]; exact h1
    · show c.f (h (f (c.g (zs, 0)).1))
      rw [hf]; exact h2
  stay := fun st hs => hc.stay st hs
  cut := fun x j hx hj => hc.cut (h x) j hx hj
  rel := fun x s r hr => hc.rel (h x) s r hr
  pok := fun x s hz => hc.pok (h x) s hz
  pfit := fun x s hx hl => hc.pfit (h x) s hx hl
  pstay := fun x st hs => hc.pstay (h x) st hs
  fe := fun x hx => hc.fe (h x) hx
/-- .. of which not all may be. -/
def chkC {α : Type} (c : Cdc α) (ok : α → Bool) : Cdc α where
  g := fun st => ((c.g st).1, formW (c.g st).2 (!ok (c.g st).1))
  b := c.b
  p := c.p
  q := c.q
  f := fun x => c.f x ∧ ok x = true
  e := c.e
theorem formW_stay {st : PSt} (h : st.2 ≠ 0) (b : Bool) : formW st b = st := by unfold formW; rw [if_neg (fun h2 => h h2.2)]
theorem formW_no (st : PSt) : formW st false = st := by unfold formW; rw [if_neg (by simp)]
theorem formW_ok {st : PSt} {b : Bool} (h : (formW st b).2 = 0) : st.2 = 0 ∧ b = false ∧ formW st b = st := by
  unfold formW at h ⊢
  by_cases hb : b = true ∧ st.2 = 0
  · rw [if_pos hb] at h; cases h
  · rw [if_neg hb] at h ⊢
    refine ⟨h, ?_, rfl⟩
    cases b with
    | true => exact absurd ⟨rfl, h⟩ hb
    | false => rfl
theorem chkC_ok {α : Type} {c : Cdc α} {ok : α → Bool} (hc : c.Ok) : (chkC c ok).Ok where
  be := fun x r hx => by
    show ((c.g (c.b x ++ r, 0)).1, formW (c.g (c.b x ++ r, 0)).2 (!ok (c.g (c.b x ++ r, 0)).1)) = _
    rw [hc.be _ _ hx.1]
    simp only
    rw [hx.2]
    rfl
  ok := fun zs hb hz => by
    have hz' : (formW (c.g (zs, 0)).2 (!ok (c.g (zs, 0)).1)).2 = 0 := hz
    obtain ⟨h1, h2, h3⟩ := formW_ok hz'
    obtain ⟨e1, e2⟩ := hc.ok zs hb h1
    refine ⟨?_, e2, by show ok (c.g (zs, 0)).1 = true; simpa using h2⟩
    show zs = c.b (c.g (zs, 0)).1 ++ (formW (c.g (zs, 0)).2 (!ok (c.g (zs, 0)).1)).1
    rw [h3]; exact e1
  stay := fun st hs => by
    show formW (c.g st).2 _ = st
    rw [hc.stay st hs, formW_stay hs]
  cut := fun x j hx hj => by
    show (formW (c.g ((c.b x).take j, 0)).2 _).2 = 2
    have h := hc.cut x j hx.1 hj
    rw [formW_stay (by rw [h]; decide), h]
  rel := hc.rel
  pok := hc.pok
  pfit := hc.pfit
  pstay := hc.pstay
  fe := fun x hx => hc.fe x hx.1
def okDo (x : Int) : Bool := decide (1 ≤ x) && decide (x ≤ 11)
def okE (x : Int) : Bool := decide (x ≤ 18)
def szC : Cdc Sz := mapC (seqC (nC 1) (seqC (nC 3) (seqC (nC 4) (nC 2)))) (fun t => ⟨t.1, t.2.1, t.2.2.1, t.2.2.2⟩) (fun x => (x.c, x.l, x.n, x.s))
def enC : Cdc Ent := mapC (seqC txC (seqC (nC 2) boC)) (fun t => ⟨t.1, t.2.1, t.2.2⟩) (fun x => (x.nm, x.ino, x.dir))
theorem szC_ok : szC.Ok := mapC_ok (seqC_ok (nC_ok (by decide) (by decide)) (seqC_ok (nC_ok (by decide) (by decide)) (seqC_ok (nC_ok (by decide) (by decide)) (nC_ok (by decide) (by decide))))) (fun _ => rfl) (fun _ => rfl)
theorem enC_ok : enC.Ok := mapC_ok (seqC_ok txC_ok (seqC_ok (nC_ok (by decide) (by decide)) boC_ok)) (fun _ => rfl) (fun _ => rfl)
/-- Deltas. -/
def ptC : Cdc Pt := mapC (seqC (nC 1) (seqC (nC 3) (seqC (nC 4) (seqC (nC 2) (nC 1))))) (fun t => ⟨t.1, t.2.1, t.2.2.1, t.2.2.2.1, t.2.2.2.2⟩) (fun x => (x.c, x.l, x.n, x.a, x.k))
theorem ptC_ok : ptC.Ok := mapC_ok (seqC_ok (nC_ok (by decide) (by decide)) (seqC_ok (nC_ok (by decide) (by decide)) (seqC_ok (nC_ok (by decide) (by decide)) (seqC_ok (nC_ok (by decide) (by decide)) (nC_ok (by decide) (by decide)))))) (fun _ => rfl) (fun _ => rfl)
def hdC : Cdc Dl := mapC (seqC (seqC (nC 1) (seqC (nC 2) (seqC (nC 1) (nC 2)))) ⟨fun st => ((pZ, pZ), st), fun _ => [], fun _ s => s, fun _ s => s, fun _ => True, fun _ => True⟩) (fun t => ⟨t.1.1, t.1.2.1, t.1.2.2.1, t.1.2.2.2, t.2.1, t.2.2⟩) (fun x => ((x.d, x.i, x.b, x.s), (x.t, x.o)))
theorem hd4_ok : (seqC (nC 1) (seqC (nC 2) (seqC (nC 1) (nC 2)))).Ok := seqC_ok (nC_ok (by decide) (by decide)) (seqC_ok (nC_ok (by decide) (by decide)) (seqC_ok (nC_ok (by decide) (by decide)) (nC_ok (by decide) (by decide))))
def hd4 (x : Dl) : Int × Int × Int × Int := (x.d, x.i, x.b, x.s)
abbrev h4C := seqC (nC 1) (seqC (nC 2) (seqC (nC 1) (nC 2)))
theorem headN_is4 (x : Dl) (s : PSt) : headN x s = h4C.p (hd4 x) s := rfl
theorem rheadN_is4 (x : Dl) (s : PSt) : rheadN x s = h4C.q (hd4 x) s := rfl
theorem putP_is5 (x : Pt) (s : PSt) : putP x s = ptC.p x s := rfl
theorem rputP_is5 (x : Pt) (s : PSt) : rputP x s = ptC.q x s := rfl
theorem bytesP_is5 (x : Pt) : bytesP x = ptC.b x := by
  show _ = be x.c 1 ++ (be x.l 3 ++ (be x.n 4 ++ (be x.a 2 ++ be x.k 1)))
  unfold bytesP
  simp only [List.append_assoc]
theorem headB_is4 (x : Dl) : headB12 x = h4C.b (hd4 x) := by
  show _ = be x.d 1 ++ (be x.i 2 ++ (be x.b 1 ++ be x.s 2))
  unfold headB12
  simp only [List.append_assoc]
def eD (x : Dl) : Prop := h4C.e (hd4 x) ∧ (x.d = 1 → ptC.e x.t) ∧ (x.d = 3 → ptC.e x.o ∧ ptC.e x.t)
def dlC : Cdc Dl where
  g := fun st => ((getD st).1, finD (getD st))
  b := bytesD
  p := putD
  q := rputD
  f := fun x => mayL x = true
  e := eD
theorem getD_stay {st : PSt} (h : st.2 ≠ 0) : (getD st).2 = st := by
  have e : headE st = (⟨0, 0, 0, 0, pZ, pZ⟩, st) := by
    unfold headE
    rw [numE_stay 1 h]
    simp only
    rw [numE_stay 2 h]
    simp only
    rw [numE_stay 1 h]
    simp only
    rw [numE_stay 2 h]
  unfold getD
  rw [e]
  simp
theorem eD_of {x : Dl} (h : mayL x = true) : eD x := by
  have f := fitD_of h
  have fp : ∀ p : Pt, FitP p → ptC.e p := fun p h => ⟨h.c, h.l, h.n, h.a, h.k⟩
  exact ⟨⟨f.d, f.i, f.b, f.s⟩, fun _ => fp _ f.t, fun _ => ⟨fp _ f.o, fp _ f.t⟩⟩
theorem pok_two {α β : Type} {c : Cdc α} {d : Cdc β} (hc : c.Ok) (hd : d.Ok) {x : α} {y : β} {s : List Int} (hz : (d.p y (c.p x (s, 0))).2 = 0) : d.p y (c.p x (s, 0)) = (s ++ c.b x ++ d.b y, 0) ∧ c.e x ∧ d.e y := by
  have := (seqC_ok hc hd).pok (x, y) s hz
  obtain ⟨h1, h2, h3⟩ := this
  refine ⟨?_, h2, h3⟩
  rw [List.append_assoc]
  exact h1
theorem dlC_ok : dlC.Ok where
  be := fun x r h => by
    show ((getD (bytesD x ++ r, 0)).1, finD (getD (bytesD x ++ r, 0))) = _
    rw [getD_be h]
    unfold finD
    rw [show mayL (x, (r, (0 : Int))).1 = true from h]
    rfl
  ok := fun zs hb hz => by
    have hz' : (finD (getD (zs, 0))).2 = 0 := hz
    obtain ⟨h1, h2, h3⟩ := finD_good hz'
    refine ⟨?_, h2⟩
    show zs = bytesD (getD (zs, 0)).1 ++ (finD (getD (zs, 0))).1
    rw [h3]
    exact (getD_ok hb h1).1
  stay := fun st h => by
    show finD (getD st) = st
    unfold finD
    rw [getD_stay h, formW_stay h]
  cut := fun x j h hj => by
    show (finD (getD ((bytesD x).take j, 0))).2 = 2
    have e := getD_short h hj
    unfold finD
    rw [formW_stay (by rw [e]; decide), e]
  rel := fun x s r h => by
    have h1 : Rel (headN x s) (rheadN x r) := hd4_ok.rel (hd4 x) s r h
    show Rel (putD x s) (rputD x r)
    unfold putD rputD
    split
    · exact ptC_ok.rel _ _ _ h1
    · split
      · exact ptC_ok.rel _ _ _ (ptC_ok.rel _ _ _ h1)
      · exact h1
  pok := fun x s hz => by
    have hz' : (putD x (s, 0)).2 = 0 := hz
    show putD x (s, 0) = (s ++ bytesD x, 0) ∧ eD x
    unfold putD bytesD at *
    by_cases h1 : x.d = 1
    · simp only [if_pos h1] at hz' ⊢
      obtain ⟨e1, e2, e3⟩ := pok_two hd4_ok ptC_ok (x := hd4 x) (y := x.t) hz'
      refine ⟨?_, e2, fun _ => e3, fun h3 => by omega⟩
      rw [headB_is4, bytesP_is5, ← List.append_assoc]
      exact e1
    · simp only [if_neg h1] at hz' ⊢
      by_cases h3 : x.d = 3
      · simp only [if_pos h3] at hz' ⊢
        obtain ⟨e1, e2, e3⟩ := pok_two (seqC_ok hd4_ok ptC_ok) ptC_ok (x := (hd4 x, x.o)) (y := x.t) hz'
        refine ⟨?_, e2.1, fun h => absurd h h1, fun _ => ⟨e2.2, e3⟩⟩
        rw [headB_is4, bytesP_is5, bytesP_is5]
        have e1' : ptC.p x.t (ptC.p x.o (h4C.p (hd4 x) (s, 0))) = (s ++ (h4C.b (hd4 x) ++ ptC.b x.o) ++ ptC.b x.t, 0) := e1
        simp only [List.append_assoc] at e1' ⊢
        exact e1'
      · simp only [if_neg h3, List.append_nil] at hz' ⊢
        obtain ⟨e1, e2⟩ := hd4_ok.pok (hd4 x) s hz'
        refine ⟨?_, e2, fun h => absurd h h1, fun h => absurd h h3⟩
        rw [headB_is4]
        exact e1
  pfit := fun x s h hl => by
    have hl' : s.length + (bytesD x).length ≤ 65536 := hl
    show putD x (s, 0) = (s ++ bytesD x, 0)
    unfold putD bytesD at *
    rw [List.length_append] at hl'
    have hb := headB_len x
    have e0 : headN x (s, 0) = (s ++ headB12 x, 0) := by
      rw [headB_is4]
      exact hd4_ok.pfit (hd4 x) s h.1 (by rw [← headB_is4]; omega)
    rw [e0]
    by_cases h1 : x.d = 1
    · simp only [if_pos h1] at hl' ⊢
      rw [putP_is5, bytesP_is5]
      rw [bytesP_is5] at hl'
      rw [ptC_ok.pfit x.t _ (h.2.1 h1) (by rw [List.length_append]; omega), List.append_assoc]
    · simp only [if_neg h1] at hl' ⊢
      by_cases h3 : x.d = 3
      · simp only [if_pos h3] at hl' ⊢
        rw [bytesP_is5, bytesP_is5, List.length_append] at hl'
        rw [putP_is5, putP_is5, bytesP_is5, bytesP_is5]
        rw [ptC_ok.pfit x.o _ (h.2.2 h3).1 (by rw [List.length_append]; omega), ptC_ok.pfit x.t _ (h.2.2 h3).2 (by rw [List.length_append, List.length_append]; omega)]
        simp only [List.append_assoc]
      · simp only [if_neg h3, List.append_nil]
  pstay := fun x st h => by
    have h1 : (headN x st).2 = st.2 := hd4_ok.pstay (hd4 x) st h
    show (putD x st).2 = st.2
    unfold putD
    split
    · rw [putP_is5, ptC_ok.pstay _ _ (by rw [h1]; exact h), h1]
    · split
      · have h2 : (putP x.o (headN x st)).2 = st.2 := by rw [putP_is5, ptC_ok.pstay _ _ (by rw [h1]; exact h), h1]
        rw [putP_is5, ptC_ok.pstay _ _ (by rw [h2]; exact h), h2]
      · exact h1
  fe := fun x h => eD_of h

abbrev RqT := Int × Int × Int × Int × ByteArray × ByteArray × Bool × Bool × Bool × Int × Int × Int × List Sz × List Dl
def Rq.t (r : Rq) : RqT := (r.cl, r.lf, r.sq, r.dO, r.pa, r.tp, r.di, r.wr, r.cz, r.ha, r.nx, r.sw, r.ss, r.dl)
def Rq.of (t : RqT) : Rq := ⟨t.1, t.2.1, t.2.2.1, t.2.2.2.1, t.2.2.2.2.1, t.2.2.2.2.2.1, t.2.2.2.2.2.2.1, t.2.2.2.2.2.2.2.1, t.2.2.2.2.2.2.2.2.1, t.2.2.2.2.2.2.2.2.2.1, t.2.2.2.2.2.2.2.2.2.2.1, t.2.2.2.2.2.2.2.2.2.2.2.1, t.2.2.2.2.2.2.2.2.2.2.2.2.1, t.2.2.2.2.2.2.2.2.2.2.2.2.2⟩
def rqC : Cdc Rq := mapC (seqC (nC 1) (seqC (nC 3) (seqC (nC 4) (seqC (chkC (nC 1) okDo) (seqC txC (seqC txC (seqC boC (seqC boC (seqC boC (seqC (nC 1) (seqC (nC 4) (seqC (nC 3) (seqC (lsC szC) (lsC dlC)))))))))))))) Rq.of Rq.t
theorem rqC_ok : rqC.Ok := mapC_ok (seqC_ok (nC_ok (by decide) (by decide)) (seqC_ok (nC_ok (by decide) (by decide)) (seqC_ok (nC_ok (by decide) (by decide)) (seqC_ok (chkC_ok (nC_ok (by decide) (by decide))) (seqC_ok txC_ok (seqC_ok txC_ok (seqC_ok boC_ok (seqC_ok boC_ok (seqC_ok boC_ok (seqC_ok (nC_ok (by decide) (by decide)) (seqC_ok (nC_ok (by decide) (by decide)) (seqC_ok (nC_ok (by decide) (by decide)) (seqC_ok (lsC_ok szC_ok) (lsC_ok dlC_ok)))))))))))))) (fun _ => rfl) (fun _ => rfl)
abbrev RpT := Int × Int × Int × Int × Int × Bool × List Ent × List Int
def Rp.t (r : Rp) : RpT := (r.e, r.ino, r.sz, r.ha, r.sw, r.di, r.es, r.mp)
def Rp.of (t : RpT) : Rp := ⟨t.1, t.2.1, t.2.2.1, t.2.2.2.1, t.2.2.2.2.1, t.2.2.2.2.2.1, t.2.2.2.2.2.2.1, t.2.2.2.2.2.2.2⟩
def rpC : Cdc Rp := mapC (seqC (chkC (nC 1) okE) (seqC (nC 2) (seqC (nC 2) (seqC (nC 1) (seqC (nC 3) (seqC boC (seqC (lsC enC) rowC))))))) Rp.of Rp.t
theorem rpC_ok : rpC.Ok := mapC_ok (seqC_ok (chkC_ok (nC_ok (by decide) (by decide))) (seqC_ok (nC_ok (by decide) (by decide)) (seqC_ok (nC_ok (by decide) (by decide)) (seqC_ok (nC_ok (by decide) (by decide)) (seqC_ok (nC_ok (by decide) (by decide)) (seqC_ok boC_ok (seqC_ok (lsC_ok enC_ok) rowC_ok))))))) (fun _ => rfl) (fun _ => rfl)
/-- What is answered of bytes: what is wrong first, or nothing is. -/
def decW {α : Type} (c : Cdc α) (zs : List Int) : Int := endOf (c.g (zs, 0)).2.1 (c.g (zs, 0)).2.2
def endS (s : PSt) : List Int × Int := (if s.2 = 0 then s.1 else [], s.2)
def encQ (r : Rq) : List Int × Int := if okDo r.dO = false then ([], 1) else if badL r.dl = true then ([], 1) else if 4000 < r.ss.length ∨ 4000 < r.dl.length then ([], 3) else endS (rqC.p r ([], 0))
def rencQ (r : Rq) : List Int × Int := if okDo r.dO = false then ([], 1) else if badL r.dl = true then ([], 1) else if 4000 < r.ss.length ∨ 4000 < r.dl.length then ([], 3) else endS (rqC.q r ([], 0))
def encP (r : Rp) : List Int × Int := if 4000 < r.es.length then ([], 3) else endS (rpC.p r ([], 0))
def rencP (r : Rp) : List Int × Int := if 4000 < r.es.length then ([], 3) else endS (rpC.q r ([], 0))
theorem endS_rel {s r : PSt} (h : Rel s r) : endS s = endS r := by
  unfold endS
  rw [← h.1]
  by_cases h0 : s.2 = 0
  · rw [if_pos h0, if_pos h0, h.2 h0]
  · rw [if_neg h0, if_neg h0]
theorem rel0 : Rel ([], 0) ([], 0) := ⟨rfl, fun _ => rfl⟩
theorem encQ_both (r : Rq) : rencQ r = encQ r := by unfold rencQ encQ; rw [endS_rel (rqC_ok.rel r _ _ rel0)]
theorem encP_both (r : Rp) : rencP r = encP r := by unfold rencP encP; rw [endS_rel (rpC_ok.rel r _ _ rel0)]
theorem encQ_ok {r : Rq} (h : (encQ r).2 = 0) : (encQ r).1 = rqC.b r ∧ rqC.f r := by
  unfold encQ at h ⊢
  by_cases h1 : okDo r.dO = false
  · rw [if_pos h1] at h; cases h
  · rw [if_neg h1] at h ⊢
    by_cases h2 : badL r.dl = true
    · rw [if_pos h2] at h; cases h
    · rw [if_neg h2] at h ⊢
      by_cases h3 : 4000 < r.ss.length ∨ 4000 < r.dl.length
      · rw [if_pos h3] at h; cases h
      · rw [if_neg h3] at h ⊢
        have hz : (rqC.p r ([], 0)).2 = 0 := h
        obtain ⟨e1, e2⟩ := rqC_ok.pok r [] hz
        refine ⟨?_, ?_⟩
        · unfold endS
          rw [e1]
          simp
        · obtain ⟨f1, f2, f3, f4, f5, f6, f7, f8, f9, fa, fb, fc, fd, fe⟩ := e2
          exact ⟨f1, f2, f3, ⟨f4, by show okDo r.dO = true; simpa using h1⟩, f5, f6, f7, f8, f9, fa, fb, fc, ⟨by show r.ss.length ≤ 4000; omega, fun x hx => fd.2 x hx⟩, ⟨by show r.dl.length ≤ 4000; omega, fun x hx => badL_all (ds := r.dl) (by simpa using h2) x hx⟩⟩
theorem encP_ok {r : Rp} (h : (encP r).2 = 0) (he : r.e ≤ 18) : (encP r).1 = rpC.b r ∧ rpC.f r := by
  unfold encP at h ⊢
  by_cases h3 : 4000 < r.es.length
  · rw [if_pos h3] at h; cases h
  · rw [if_neg h3] at h ⊢
    have hz : (rpC.p r ([], 0)).2 = 0 := h
    obtain ⟨e1, e2⟩ := rpC_ok.pok r [] hz
    refine ⟨?_, ?_⟩
    · unfold endS
      rw [e1]
      simp
    · obtain ⟨f1, f2, f3, f4, f5, f6, f7, f8⟩ := e2
      exact ⟨⟨f1, by show okE r.e = true; unfold okE; simpa using he⟩, f2, f3, f4, f5, f6, ⟨by show r.es.length ≤ 4000; omega, fun x hx => f7.2 x hx⟩, f8⟩
/-- What was written is read. -/
theorem dec_b {α : Type} {c : Cdc α} (hc : c.Ok) {x : α} (h : c.f x) : decW c (c.b x) = 0 ∧ (c.g (c.b x, 0)).1 = x := by
  have e := hc.be x [] h
  rw [List.append_nil] at e
  unfold decW
  rw [e]
  exact ⟨rfl, rfl⟩
/-- What was read was written. -/
theorem b_dec {α : Type} {c : Cdc α} (hc : c.Ok) {zs : List Int} (hb : Byt zs) (h : decW c zs = 0) : zs = c.b (c.g (zs, 0)).1 ∧ c.f (c.g (zs, 0)).1 := by
  unfold decW endOf at h
  by_cases h0 : (c.g (zs, 0)).2.2 = 0
  · rw [if_pos h0] at h
    have hl : (c.g (zs, 0)).2.1 = [] := by
      by_cases hl : (c.g (zs, 0)).2.1.length = 0
      · exact List.eq_nil_of_length_eq_zero hl
      · rw [if_neg hl] at h; cases h
    obtain ⟨e1, e2⟩ := hc.ok zs hb h0
    refine ⟨?_, e2⟩
    rw [hl, List.append_nil] at e1
    exact e1
  · rw [if_neg h0] at h; exact absurd h h0
theorem cut_b {α : Type} {c : Cdc α} (hc : c.Ok) {x : α} (h : c.f x) {j : Nat} (hj : j < (c.b x).length) : decW c ((c.b x).take j) = 2 := by
  unfold decW endOf
  rw [hc.cut x j h hj]
  rfl
theorem long_b {α : Type} {c : Cdc α} (hc : c.Ok) {x : α} (h : c.f x) (z : Int) : decW c (c.b x ++ [z]) = 3 := by
  unfold decW
  rw [hc.be x [z] h]
  rfl
theorem inj_b {α : Type} {c : Cdc α} (hc : c.Ok) {x y : α} (hx : c.f x) (hy : c.f y) (h : c.b x = c.b y) : x = y := by
  have e1 := (dec_b hc hx).2
  have e2 := (dec_b hc hy).2
  rw [h, e2] at e1
  exact e1.symm
theorem encQ_fit {r : Rq} (hf : rqC.f r) (hl : (rqC.b r).length ≤ 65536) : encQ r = (rqC.b r, 0) := by
  obtain ⟨f1, f2, f3, ⟨f4, f4o⟩, f5, f6, f7, f8, f9, fa, fb, fc, fd, fe⟩ := id hf
  have h4 : okDo r.dO = true := f4o
  have hs : r.ss.length ≤ 4000 := fd.1
  have hd : r.dl.length ≤ 4000 := fe.1
  have hm : badL r.dl = false := badL_of (fun x hx => fe.2 x hx)
  unfold encQ
  rw [if_neg (by rw [h4]; simp), if_neg (by rw [hm]; simp), if_neg (by omega), rqC_ok.pfit r [] (rqC_ok.fe r hf) (by simpa using hl)]
  simp [endS]
theorem b_ne {r : Rq} : 0 < (rqC.b r).length := by
  show 0 < (be r.cl 1 ++ _).length
  rw [List.length_append, be_length]
  omega
theorem bp_ne {r : Rp} : 0 < (rpC.b r).length := by
  show 0 < (be r.e 1 ++ _).length
  rw [List.length_append, be_length]
  omega
end Go.Proofs.Ytoglcohdanpciaa
