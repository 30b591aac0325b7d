/- As deep as may be, and one more: the sources of SyntaxNests, taken apart by the plain parser. -/
import Derived.Test.YtbejgachdhfakaaGreatDoorGQ
import Derived.Test.YtbejgachdhfakaaGreatDoorGA
namespace Go.Proofs.YtbejgachdhfakaaGreatDoor
open Go.RowKit

def ndNr (n : Nd) : Nr := ⟨n.kind, n.pl, n.name, n.typ, n.op, n.bits, n.size, asInts n.kids⟩
def fdFr (f : Fd) : Fr := ⟨f.name, f.pl, f.pars.map fun p => (p.1, (p.2.1 : Int), (p.2.2 : Int)), f.res, f.body⟩
def rep (n : Nat) (x : List UInt8) : List UInt8 := (List.replicate n x).flatten
def nestA : Nat → List UInt8
  | 1 => [45]
  | 2 => [102, 40]
  | 3 => [97, 91]
  | 4 => [117, 56, 40]
  | _ => [40]
def nestB : Nat → List UInt8
  | 1 => []
  | 3 => [93]
  | _ => [41]
def nestSrc (k n : Nat) : List UInt8 := [102, 117, 110, 99, 32, 102, 40, 41, 32, 105, 54, 52, 32, 123, 32, 114, 101, 116, 117, 114, 110, 32] ++ rep n (nestA k) ++ [49] ++ rep n (nestB k) ++ [59, 32, 125]
def ifSrc (n : Nat) : List UInt8 := [102, 117, 110, 99, 32, 102, 40, 41, 32, 105, 54, 52, 32, 123] ++ rep n [105, 102, 32, 116, 114, 117, 101, 32, 123] ++ ([125] ++ rep n [125])
def tokFine (l : List UInt8) (t : Tok) : Bool := decide (t.1 ≠ 5) && (decide (t.1 ≠ 4) || ((l.drop t.2.1).take (t.2.2 - t.2.1)).all fun b => decide (b.toNat < 128))
/-- A source's run, as the plain parser has it: the tree's own check, or the fault. -/
noncomputable def runOf (l : List UInt8) : Option (Res (List Fd)) :=
  match scanS true l with
  | .error _ => none
  | .ok ts => if ts.all (tokFine l) = true then some (fnsP floatW ⟨l.toArray⟩ 2000 2000 [] { toks := ts, opn := 0, nodes := [] }) else none
def fineNd (n : Nd) : Bool := decide (n.bits < 18446744073709551616) && decide (n.name.size ≤ 65536) && decide (n.kids.length ≤ 65536)
def fineFd (f : Fd) : Bool := decide (f.name.size ≤ 65536) && decide (f.pars.length ≤ 65536) && f.pars.all fun p => decide (p.1.size ≤ 65536)
def fineT (ns : List Nd) (fs : List Fd) : Bool := decide (ns.length ≤ 65536) && decide (fs.length ≤ 65536) && ns.all fineNd && fs.all fineFd
noncomputable def takenB (l : List UInt8) : Bool :=
  match runOf l with
  | some (.ok fs st) => fineT st.nodes fs && rightT (st.nodes.map ndNr) (fs.map fdFr)
  | _ => false
noncomputable def stopsB (l : List UInt8) (c p : Nat) : Bool :=
  match runOf l with
  | some (.err c' p') => decide (c' = c) && decide (p' = p)
  | _ => false
noncomputable def nestOk (k n : Nat) : Bool := if n < 32 then takenB (nestSrc k n) else stopsB (nestSrc k n) 132 (22 + 31 * (nestA k).length + (nestA k).length - 1)
noncomputable def ifOk (n : Nat) : Bool := if n < 32 then takenB (ifSrc n) else stopsB (ifSrc n) 132 301
end Go.Proofs.YtbejgachdhfakaaGreatDoor
