/- The code's tree: Remove. -/
import Derived.Test.YtnmiffkflnlanaaTrK
namespace Go.Proofs.Ytnmiffkflnlanaa
open Go.RowKit
set_option maxRecDepth 100000

theorem wpList_lenMap {ops : Array Oper} {rest : List Oper} {o : Oper} {a : Act} {w : World} {Q : Exit → Act → World → Prop} (hg : o.guard = none) (x : Operand) (ho : o.op = .call { callee := .builtin .len, args := #[x], argTypes := #[63] }) (v : Option Nat) (k : Nat) (hx : a.eval x = .map v)
    (hrun : ∀ ty, (Builtin.len_ #[63] ty #[.map v]).run Try.prog w = .ok (numN k) w) (hK : wpList Try.prog ops Q rest (a.put o.dst (numN k)) w) : wpList Try.prog ops Q (o :: rest) a w := by
  refine wpList_is hg _ w ?_ hK
  simp [execOp, ho, resolve, invoke, builtin, hx, hrun o.type, Result.andThen]
theorem wpList_buildTg0 {ops : Array Oper} {rest : List Oper} {o : Oper} {a : Act} {w : World} {Q : Exit → Act → World → Prop} (hgd : o.guard = none) (ho : o.op = .build 65 #[])
    (hk : wpList Try.prog ops Q rest (a.put o.dst (tgV tg0 0)) w) : wpList Try.prog ops Q (o :: rest) a w := by
  refine wpList_is hgd _ _ ?_ hk
  have := build_tg0 w
  simp only [execOp, ho, List.map_toArray, List.map_nil, Sem.run_bind, this, Result.andThen_ok, Sem.run_pure]
theorem lookT_ok {T : TL} (I : InvT T) {p : List UInt8} (h : (lookT T p).2.2 = 0) : hasT T (lookT T p).1 = true ∧ (lookT T p).2.1 = isDirT T (lookT T p).1 := by
  rw [lookT_find] at h ⊢
  by_cases h0 : (findR T p).2 = 0
  · rw [if_pos h0]
    exact ⟨findR_has I h0, rfl⟩
  · rw [if_neg h0] at h
    exact absurd h h0
theorem has_mem {T : TL} {n : Nat} (h : hasT T n = true) (h1 : n ≠ 1) : ∃ x ∈ T, x.ino = n ∧ findT T n = some x := by
  unfold hasT at h
  simp [h1] at h
  obtain ⟨x, hx⟩ := Option.isSome_iff_exists.1 h
  exact ⟨x, List.mem_of_find?_eq_some hx, by simpa using List.find?_some hx, hx⟩
theorem xT_of {T : TL} {x : Th} (h : findT T x.ino = some x) : (xT T x.ino).up = x.up ∧ (xT T x.ino).nm = x.nm := by simp [xT, upT, nmT, h]
theorem hasKid_len {T : TL} (I : InvT T) (n : Nat) : hasKid T n = false ↔ ∀ s, kidT T n s = 0 := by
  unfold hasKid
  rw [List.any_eq_false]
  constructor
  · intro h s
    rw [kidT_zero I]
    intro x hx e
    have := h x hx
    simp [e] at this
  · intro h x hx
    simp
    intro e
    have h1 := kidT_some I hx
    rw [e, h x.nm] at h1
    have := (I.ino x hx).1
    omega
theorem hasKid_file {T : TL} (I : InvT T) {n : Nat} (h : isDirT T n = false) : hasKid T n = false := by
  rw [hasKid_len I]
  intro s
  rw [kidT_zero I]
  intro x hx e
  have := I.up x hx
  rw [e, h] at this
  cases this
theorem xT_del {T : TL} (I : InvT T) {n : Nat} (h1 : n ≠ 1) (m : Nat) : xT (delT T n) m = updX (xT T) n tg0 m := by
  by_cases e : m = n
  · subst e
    rw [updX_same]
    simp [xT, hasT, upT, nmT, isDirT, find_del I, h1, tg0]
  · rw [updX_ne _ _ e]
    simp [xT, hasT, upT, nmT, isDirT, find_del I, e]
/-- How many names? -/
theorem names_len {w : World} {q c : Nat} {T : TL} {G : Nat → Nat} (TI : TreeIn w q T G c) (n : Nat) (hn : n < 129) :
    ∃ k : Nat, (∀ ty, (Builtin.len_ #[63] ty #[.map (if (xT T n).dir then some (G n) else none)]).run Try.prog w = .ok (numN k) w) ∧ (k = 0 ↔ hasKid T n = false) := by
  cases hd : (xT T n).dir with
  | false =>
    refine ⟨0, fun ty => ?_, by simp [hasKid_file TI.1 hd]⟩
    simp only [Bool.false_eq_true, if_false]
    exact Maps.len_nil uNames ty
  | true =>
    obtain ⟨k, hk, hz⟩ := (TI.2.map n hn hd).len 63
    refine ⟨k, fun ty => ?_, by rw [hz, hasKid_len TI.1]⟩
    simp only [if_true]
    obtain ⟨k2, hk2, _⟩ := (TI.2.map n hn hd).len ty
    have e : ∀ t1 t2, (Builtin.len_ #[63] t1 #[.map (some (G n))]).run Try.prog w = (Builtin.len_ #[63] t2 #[.map (some (G n))]).run Try.prog w := fun _ _ => rfl
    rw [e ty 63, hk]

theorem two_bools (dir is : Bool) : (dir = true ∧ is = false) ∨ (dir = false ∧ is = true) ∨ is = dir := by cases dir <;> cases is <;> simp

set_option maxHeartbeats 1600000 in
theorem remove_in (w : World) (q c : Nat) (T : TL) (G : Nat → Nat) (TI : TreeIn w q T G c) (s : ByteArray) (hs : s.size ≤ 140737488351232) (dir : Bool) :
    Calls Try.prog 11 #[.pointer (some ⟨q, 0, none⟩), .string s, .bool dir] w (DoPost w q (removeT T s.data.toList dir).1 (foot q (xT T) G) c (.tuple #[numN (removeT T s.data.toList dir).2.1, .int .i64 (removeT T s.data.toList dir).2.2])) := by
  have HI := hid TI
  have HSP := hid (look_any10 w q c T G TI s hs)
  have HOK := hid (lookT_ok (p := s.data.toList) TI.1)
  obtain ⟨r, hr⟩ : ∃ r, r = removeT T s.data.toList dir := ⟨_, rfl⟩
  rw [← hr]
  unfold removeT at hr
  clear TI
  generalize lookT T s.data.toList = sp at HSP HOK hr
  have HR := hid hr
  clear hr
  obtain ⟨n, is, x⟩ := sp
  go_enter Try.func11, Try.ntmps11
  go_wp2_with fail
  refine HSP.out.mono ?_
  rintro e w1 ⟨rfl, k1⟩
  have K1 := hid k1
  have HI1 := hid (HI.out.keep0 k1)
  clear k1
  by_cases hx : x = 0
  · subst hx
    have OK := hid (HOK.out rfl)
    have hn2 := (hasT_le HI.out.1 OK.out.1).2
    have hni : ((n : Int) < 129) := by omega
    have hni0 : (0 : Int) ≤ n := by omega
    clear HOK
    by_cases h1 : n = 1
    · subst h1
      go_wp2_with fail
      go_ret2
      rw [HR.out]
      exact DoPost.no HI1.out K1.out
    · have h1' : ((n : Int) == 1) = false := by simp; omega
      have H1 := hid h1
      clear h1
      rcases two_bools dir is with ⟨rfl, rfl⟩ | ⟨rfl, rfl⟩ | rfl
      · go_wp2_with fail
        go_ret2
        rw [HR.out, if_neg (fun h => h rfl), if_neg H1.out, if_pos (show (true && !false) = true from rfl)]
        exact DoPost.no (v := .tuple #[numN 0, .int .i64 10]) HI1.out K1.out
      · go_wp2_with fail
        go_ret2
        rw [HR.out, if_neg (fun h => h rfl), if_neg H1.out, if_neg (show ¬ (false && !true) = true by decide), if_pos (show (!false && true) = true from rfl)]
        exact DoPost.no (v := .tuple #[numN 0, .int .i64 9]) HI1.out K1.out
      · obtain ⟨k, hk, hkz⟩ := names_len HI1.out n (by omega)
        have c3 := HI1.out.2.c3 n (by omega)
        generalize (if (xT T n).dir = true then some (G n) else none) = mv at c3 hk
        have HKZ := hid hkz
        clear hkz
        by_cases hk0 : k = 0
        · have hkd : decide ((0 : Int) < k) = false := by simp; omega
          have hkn : decide (0 < k) = false := by simp; omega
          have HNK := hid (HKZ.out.1 hk0)
          clear hk0
          obtain ⟨x, hxm, hxi, hxf⟩ := has_mem OK.out.1 H1.out
          have hxf2 : findT T x.ino = some x := by rw [hxi]; exact hxf
          obtain ⟨e1, e2⟩ := xT_of hxf2
          have hup := HI.out.1.up x hxm
          have hup2 := (hasT_le HI.out.1 (isDirT_has hup)).2
          subst hxi
          have U := fun W (k : Keeps [] w W) => unhang_mid W q c (xT T) G (kidT T) (HI.out.keep0 k).2 x.ino (by omega) (by rw [e1]; omega) (by rw [e1]; exact hup) (by rw [e2]; have := (mayN_len (HI.out.1.may x hxm)).2; exact Nat.le_trans this (by decide))
          unfold UnhangPost at U
          rw [e1, e2] at U
          have HU := hid (U w1 K1.out)
          have HXM := hid hxm
          clear U hxf hxf2 e1 e2 hxm
          have HCL : Hid (∀ w2 w3, MidIn w2 q (xT T) G (updK (kidT T) x.up x.nm 0) c → Keeps [G x.up] w1 w2 → w3 = w2.setCells q (x.ino * 4) (tgC tg0 0) → DoPost w q (delT T x.ino) (foot q (xT T) G) c (.tuple #[numN x.ino, .int .i64 0]) (.returned (.tuple #[numN x.ino, .int .i64 0])) w3) := hid (by
            rintro w2 w3 M2 K2 rfl
            obtain ⟨m3, k3⟩ := M2.thing x.ino (by omega) tg0 0 (fun _ => 0) (fun h => by simp [tg0] at h)
            have J := HI.out.1.del (n := x.ino) HNK.out
            refine ⟨rfl, foot q (xT (delT T x.ino)) (fun m => if m = x.ino then 0 else G m), ⟨_, ⟨J, (m3.congr (fun m _ => xT_del HI.out.1 H1.out m) (fun m hm hd => ?_)).mono (Nat.le_succ c)⟩, rfl⟩, ?_, ?_⟩
            · have e : m ≠ x.ino := fun e => by rw [e, updX_same] at hd; simp [tg0] at hd
              rw [if_neg e]
              funext v
              rw [kid_del HI.out.1 HXM.out J]
              unfold updK
              by_cases e2 : m = x.up
              · subst e2
                rw [if_pos rfl]
                unfold updS
                by_cases e3 : v = x.nm
                · simp [e3]
                · simp [e3]
              · rw [if_neg e2, if_neg (fun h => e2 h.1)]
            · have hq : q ∈ foot q (xT T) G := by simp [foot]
              have hgd : G x.up ∈ foot q (xT T) G := mem_footT.2 (Or.inr ⟨x.up, by omega, hup, rfl⟩)
              exact ((K1.out.mono (by simp)).trans' K2 (fun i hi hm => by simp at hm; rw [hm]; exact hgd)).trans' k3 (fun i hi hm => by simp at hm; rw [hm]; exact hq)
            · intro b hb
              rcases mem_footT.1 hb with rfl | ⟨m, hm, hd, rfl⟩
              · exact Or.inl (by simp [foot])
              · rw [xT_del HI.out.1 H1.out] at hd
                by_cases e : m = x.ino
                · rw [e, updX_same] at hd; simp [tg0] at hd
                · rw [updX_ne _ _ e] at hd
                  simp only [if_neg e]
                  exact Or.inl (mem_footT.2 (Or.inr ⟨m, hm, hd, rfl⟩)))
          cases is with
          | true =>
            go_wp2_with fail
            refine HU.out.mono ?_
            rintro e w2 ⟨rfl, m2, k2⟩
            have M2 := hid m2
            have K2 := hid k2
            clear m2 k2
            go_wp2_with (first | (refine wpList_buildTg0 rfl rfl ?_) | (refine wpList_store_mid rfl 65 _ _ rfl q (x.ino * 4) (tgC tg0 0).toArray rfl rfl (M2.out.there x.ino (by omega) 0 4 (by omega)) (spTg _ _) (tgC_one _ _) ?_) | fail)
            go_ret2
            rw [HR.out, if_neg (fun h => h rfl), if_neg H1.out, if_neg (by decide), if_neg (by decide), if_neg (show ¬ hasKid T x.ino = true by rw [HNK.out]; decide)]
            exact HCL.out w2 _ M2.out K2.out rfl
          | false =>
            go_wp2_with fail
            refine HU.out.mono ?_
            rintro e w2 ⟨rfl, m2, k2⟩
            have M2 := hid m2
            have K2 := hid k2
            clear m2 k2
            go_wp2_with (first | (refine wpList_buildTg0 rfl rfl ?_) | (refine wpList_store_mid rfl 65 _ _ rfl q (x.ino * 4) (tgC tg0 0).toArray rfl rfl (M2.out.there x.ino (by omega) 0 4 (by omega)) (spTg _ _) (tgC_one _ _) ?_) | fail)
            go_ret2
            rw [HR.out, if_neg (fun h => h rfl), if_neg H1.out, if_neg (by decide), if_neg (by decide), if_neg (show ¬ hasKid T x.ino = true by rw [HNK.out]; decide)]
            exact HCL.out w2 _ M2.out K2.out rfl
        · have hkd : decide ((0 : Int) < k) = true := by simp; omega
          have hkn : decide (0 < k) = true := by simp; omega
          have HNK := hid (show hasKid T n = true by
            cases hq : hasKid T n with
            | true => rfl
            | false => exact absurd (HKZ.out.2 hq) hk0)
          clear hk0
          cases is <;>
          · go_wp2_with fail
            go_ret2
            rw [HR.out, if_neg (fun h => h rfl), if_neg H1.out, if_neg (by decide), if_neg (by decide), if_pos HNK.out]
            exact DoPost.no (v := .tuple #[numN 0, .int .i64 11]) HI1.out K1.out
  · have hx' : (x != 0) = true := by simpa using hx
    have HX := hid hx
    clear hx
    go_wp2_with fail
    go_ret2
    rw [HR.out, if_pos HX.out]
    exact DoPost.no HI1.out K1.out
end Go.Proofs.Ytnmiffkflnlanaa
