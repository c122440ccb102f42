/-
  Terms that are made simpler, as plain data: which term each call of fold asks for, or tells. No Go text here.
-/
import Derived.Test.YtamiifgdpdfjnaaPl
namespace Go.Proofs.Ytamiifgdpdfjnaa
open Go.RowKit
set_option linter.unusedVariables false

/-- Whether a term is a constant, and which word that is (0, if it is none). -/
def conB (N : List Nd) (a : Int) : Bool := (ndA N a).op == 20
def conV (N : List Nd) (a : Int) : Int := if (ndA N a).op == 20 then (ndA N a).v else 0
def isC (N : List Nd) (a x : Int) : Bool := conB N a && (conV N a == x)
def alk (N : List Nd) (a b : Int) : Bool := (wdF N a != 0) && (wdF N a == wdF N b)
def canB (op : Int) : Bool := op == 2 || (op == 8 || op == 12)
/-- Whether the word is known ahead, where the operator is one. -/
def sure (N : List Nd) (op a b : Int) : Bool := (conB N a && conB N b) || ((a == b) && canB op)
def setV (N : List Nd) (op a b : Int) : Int := if sure N op a b then Wd.binF op (wdF N a) (conV N a) (conV N b) else 0
def setB (N : List Nd) (op a b : Int) : Bool := sure N op a b && (Wd.binE op (wdF N a) == 0)

def subO (N : List Nd) (a b : Int) : Option Int := if isC N b 0 then some a else none
def addO (N : List Nd) (a b : Int) : Option Int := if isC N a 0 then some b else subO N a b
def andO (N : List Nd) (a b : Int) : Option Int := if isC N a 0 then some a else if isC N b 0 then some b else none
def mulO (N : List Nd) (a b : Int) : Option Int := if isC N a 1 then some b else if isC N b 1 then some a else andO N a b
def oneO (N : List Nd) (op a b : Int) : Option Int :=
  if op = 3 then mulO N a b else if op = 6 then andO N a b else if op = 1 ∨ op = 7 ∨ op = 8 then addO N a b
  else if op = 2 ∨ op = 9 ∨ op = 10 ∨ op = 11 then subO N a b else none
def oneI (N : List Nd) (op a b : Int) : Int := (oneO N op a b).getD 0
def oneB (N : List Nd) (op a b : Int) : Bool := (oneO N op a b).isSome

/-- What each call asks for. -/
def fbinP (N : List Nd) (op a b : Int) : Plan :=
  if alk N a b then (if setB N op a b then constP (opW op (wdF N a)) (setV N op a b) else if oneB N op a b then .inl (oneI N op a b, 0) else binP N op a b) else binP N op a b
def funP (N : List Nd) (op a : Int) : Plan :=
  if isN N a && ((op == 15) || (op == 16)) then (if (ndA N a).op == 20 then constP (ndA N a).wd (Wd.unF op (ndA N a).wd (ndA N a).v) else if (ndA N a).op == op then .inl ((ndA N a).a, 0) else unP N op a) else unP N op a
def fiteP (N : List Nd) (c a b : Int) : Plan :=
  if (wdF N c == 1) && alk N a b then (if (a == b) || isC N c 1 then .inl (a, 0) else if isC N c 0 then .inl (b, 0) else iteP N c a b) else iteP N c a b

theorem conV_bd {N : List Nd} (g : Gd N) (a : Int) : 0 ≤ conV N a ∧ conV N a < 18446744073709551616 := by
  unfold conV
  split
  · cases h : isN N a
    · rw [ndA_no h]; simp [z6]
    · exact (g.ft _ (ndA_mem h)).2.2.2.2.2
  · omega
theorem setV_bd {N : List Nd} (g : Gd N) (op a b : Int) : 0 ≤ setV N op a b ∧ setV N op a b < 18446744073709551616 := by
  unfold setV
  split
  · unfold Wd.binF
    split
    · exact Wd.cut_bd _ _
    · omega
  · omega
theorem unF_bd (op w x : Int) : 0 ≤ Wd.unF op w x ∧ Wd.unF op w x < 18446744073709551616 := by
  unfold Wd.unF
  split
  · exact Wd.cut_bd _ _
  · split
    · exact Wd.cut_bd _ _
    · omega

end Go.Proofs.Ytamiifgdpdfjnaa
