/- note: SameRequest. -/
import Derived.Test.YtoglcohdanpciaaNtPn0
import Derived.Test.YtoglcohdanpciaaNtPn1
import Derived.Test.YtoglcohdanpciaaNtPn2
import Derived.Test.YtoglcohdanpciaaNtPn3
import Derived.Test.YtoglcohdanpciaaNtPn4
import Derived.Test.YtoglcohdanpciaaNtPn5
import Derived.Test.YtoglcohdanpciaaNtPe
namespace Go.Proofs.Ytoglcohdanpciaa
open Go.RowKit Go.Shelf
set_option maxRecDepth 100000
set_option linter.unusedSimpArgs false
set_option linter.unusedVariables false

theorem sameQ_any (w : World) (a b : Rq) (a1 a2 b1 b2 : Value) (h1 : LsAt KSz w a1 a.ss) (h2 : LsAt KSz w b1 b.ss) (m1 : LsAt KDl w a2 a.dl) (m2 : LsAt KDl w b2 b.dl) :
    Calls Try.prog 45 #[rqV a a1 a2, rqV b b1 b2] w (PIff w (a = b)) := by
  by_cases q0 : a.cl = b.cl
  case neg => exact sameQ_n0 w a b a1 a2 b1 b2 h1 h2 m1 m2 q0
  by_cases q1 : a.lf = b.lf
  case neg => exact sameQ_n1 w a b a1 a2 b1 b2 h1 h2 m1 m2 q0 q1
  by_cases q2 : a.sq = b.sq
  case neg => exact sameQ_n2 w a b a1 a2 b1 b2 h1 h2 m1 m2 q0 q1 q2
  by_cases q3 : a.dO = b.dO
  case neg => exact sameQ_n3 w a b a1 a2 b1 b2 h1 h2 m1 m2 q0 q1 q2 q3
  by_cases q4 : a.pa = b.pa
  case neg => exact sameQ_n4 w a b a1 a2 b1 b2 h1 h2 m1 m2 q0 q1 q2 q3 q4
  by_cases q5 : a.tp = b.tp
  case neg => exact sameQ_n5 w a b a1 a2 b1 b2 h1 h2 m1 m2 q0 q1 q2 q3 q4 q5
  by_cases q6 : a.di = b.di
  case neg => exact sameQ_n6 w a b a1 a2 b1 b2 h1 h2 m1 m2 q0 q1 q2 q3 q4 q5 q6
  by_cases q7 : a.wr = b.wr
  case neg => exact sameQ_n7 w a b a1 a2 b1 b2 h1 h2 m1 m2 q0 q1 q2 q3 q4 q5 q6 q7
  by_cases q8 : a.cz = b.cz
  case neg => exact sameQ_n8 w a b a1 a2 b1 b2 h1 h2 m1 m2 q0 q1 q2 q3 q4 q5 q6 q7 q8
  by_cases q9 : a.ha = b.ha
  case neg => exact sameQ_n9 w a b a1 a2 b1 b2 h1 h2 m1 m2 q0 q1 q2 q3 q4 q5 q6 q7 q8 q9
  by_cases q10 : a.nx = b.nx
  case neg => exact sameQ_n10 w a b a1 a2 b1 b2 h1 h2 m1 m2 q0 q1 q2 q3 q4 q5 q6 q7 q8 q9 q10
  by_cases q11 : a.sw = b.sw
  case neg => exact sameQ_n11 w a b a1 a2 b1 b2 h1 h2 m1 m2 q0 q1 q2 q3 q4 q5 q6 q7 q8 q9 q10 q11
  by_cases q12 : a.ss.length = b.ss.length
  case neg => exact sameQ_n12 w a b a1 a2 b1 b2 h1 h2 m1 m2 q0 q1 q2 q3 q4 q5 q6 q7 q8 q9 q10 q11 q12
  exact sameQ_e w a b a1 a2 b1 b2 h1 h2 m1 m2 q0 q1 q2 q3 q4 q5 q6 q7 q8 q9 q10 q11 q12
end Go.Proofs.Ytoglcohdanpciaa
