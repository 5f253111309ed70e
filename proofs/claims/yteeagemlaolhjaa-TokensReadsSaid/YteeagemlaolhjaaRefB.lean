/- Walks of the reference's pen: Raw, Bool, Copy, Bytes; what both pens make of the same calls. -/
import Derived.Test.YteeagemlaolhjaaRefA
namespace Go.Proofs.Yteeagemlaolhjaa
open Go.RowKit

def refRawBad (bs : List Int) (s : List Int × Int) : Int :=
  if s.2 = 0 then (if 65535 < bs.length then 3 else if 65536 < s.1.length + 2 + bs.length then 3 else 0) else s.2
def refRaw (bs : List Int) (s : List Int × Int) : List Int × Int :=
  refAdd bs (refNum ((bs.length : Int) % 65536) 2 (s.1, refRawBad bs s))
def refBool (b : Bool) (s : List Int × Int) : List Int × Int := refNum (if b then 1 else 0) 1 s

set_option maxHeartbeats 400000 in
theorem rbool_any (w : World) (B p : Nat) (v : Value) (zs : List Int) (bad : Int) (b : Bool) (h : PenAt w B 44 5 p v zs bad) (hB : B ≤ w.heap.size) :
    Calls Try.prog 43 #[.pointer (some ⟨p, 0, none⟩), .bool b] w (PenPost w B 44 5 p v (refBool b (zs, bad))) := by
  have H := hid h
  clear h
  cases b with
  | true =>
    go_enter Try.func43, Try.ntmps43
    go_wp2_with fail
    refine (rnum_any _ B p v zs bad 1 1 H.out hB).mono ?_
    rintro e w' ⟨rfl, hq⟩
    go_wp2_with fail
    go_end0
    exact ⟨rfl, hq⟩
  | false =>
    go_enter Try.func43, Try.ntmps43
    go_wp2_with fail
    refine (rnum_any _ B p v zs bad 0 1 H.out hB).mono ?_
    rintro e w' ⟨rfl, hq⟩
    go_wp2_with fail
    go_end0
    exact ⟨rfl, hq⟩
end Go.Proofs.Yteeagemlaolhjaa
