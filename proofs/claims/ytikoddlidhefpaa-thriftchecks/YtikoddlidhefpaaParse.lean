/-
  What is told of bytes: the whole parse. The room counts down; what holds others asks its values at the room that is left.
-/
import Derived.Test.YtikoddlidhefpaaRdI
namespace Go.Proofs.Ytikoddlidhefpaa
open Go.ChangeShapes Go.WideShapes Go.ChangeAt Go.RowKit Go.Deep

/-- one value by each of the ways, behind those that were taken -/
def rEach : List (List Nat → RV) → Fo → List Nat → Except Bool (Fo × List Nat)
  | [], f, bs => .ok (f, bs)
  | q :: qs, f, bs => match q bs with
    | .error s => .error s
    | .ok ((p, c), r) => rEach qs (fsnoc f p c) r
def rRounds (qs : List (List Nat → RV)) : Nat → Fo → List Nat → Except Bool (Fo × List Nat)
  | 0, f, bs => .ok (f, bs)
  | n + 1, f, bs => match rEach qs f bs with
    | .error s => .error s
    | .ok (g, r) => rRounds qs n g r
def noText : ByteArray := { data := #[] }
def rLeaf (k : Int) (bs : List Nat) : RV :=
  if k = 1 then rTruth bs else if k = 3 then rSmall bs else if k = 4 then rSigned 4 65535 bs else if k = 5 then rSigned 5 4294967295 bs else if k = 6 then rSigned 6 18446744073709551615 bs else if k = 7 then rDouble bs else rTextV bs
def rListOf (q : List Nat → RV) (k : Nat) (n : Nat) (bs : List Nat) : RV := match rRounds [q] n .nil bs with
  | .error s => .error s
  | .ok (f, r) => .ok ((⟨9, 0, k, 0, noText, []⟩, f), r)
def rList (room : Int) (P : Int → List Nat → RV) (bs : List Nat) : RV := match rHalves bs with
  | .error s => .error s
  | .ok ((n, k), r) =>
    if n = 0 ∧ knownB k = true then .ok ((⟨9, 0, k, 0, noText, []⟩, .nil), r)
    else if wayOk k room = false then .error false
    else if n = 15 then match rNum 15 65536 r with
      | .error s => .error s
      | .ok (m, q) => rListOf (P k) k m q
    else rListOf (P k) k n r
def rDict (room : Int) (P : Int → List Nat → RV) (bs : List Nat) : RV := match rNum 0 65536 bs with
  | .error s => .error s
  | .ok (n, r) => if n = 0 then .ok ((⟨11, 0, 0, 0, noText, []⟩, .nil), r) else match rHalves r with
    | .error s => .error s
    | .ok ((y, k), q) => if wayOk y room = false ∨ wayOk k room = false then .error false else match rRounds [P y, P k] n .nil q with
      | .error s => .error s
      | .ok (f, t) => .ok ((⟨11, y, k, 0, noText, []⟩, f), t)
def rStructF (room : Int) (P : Int → List Nat → RV) : Nat → List Int → Fo → Nat → List Nat → RV
  | 0, _, _, _, _ => .error true
  | n + 1, ids, f, id, bs => match rHalves bs with
    | .error s => .error s
    | .ok ((step, k), r) =>
      if step = 0 ∧ k = 0 then .ok ((⟨12, 0, 0, 0, noText, ids⟩, f), r)
      else if ¬ (k = 1 ∨ k = 2) ∧ wayOk k room = false then .error false
      else match rID id step r with
        | .error s => .error s
        | .ok (i, q) =>
          if k = 1 ∨ k = 2 then rStructF room P n (ids ++ [(i : Int)]) (fsnoc f (scal 1 (if k = 1 then 1 else 0)) .nil) i q
          else match P k q with
            | .error s => .error s
            | .ok ((p, c), t) => rStructF room P n (ids ++ [(i : Int)]) (fsnoc f p c) i t
def rStruct (room : Int) (P : Int → List Nat → RV) (bs : List Nat) : RV := rStructF room P (bs.length + 1) [] .nil 0 bs
/-- a value of a Kind that may stand there, where so many may still hold one another -/
def rVal : Nat → Int → List Nat → RV
  | 0, k, bs => rLeaf k bs
  | r + 1, k, bs => if k = 9 then rList r (rVal r) bs else if k = 11 then rDict r (rVal r) bs else if k = 12 then rStruct r (rVal r) bs else rLeaf k bs
def rRead (bs : List Nat) : RV := rVal 32 12 bs
end Go.Proofs.Ytikoddlidhefpaa
