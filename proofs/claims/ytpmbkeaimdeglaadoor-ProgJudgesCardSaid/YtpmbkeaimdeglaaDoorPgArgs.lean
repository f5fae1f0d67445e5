/-
  An argument that is a transaction.
-/
import Derived.Test.YtpmbkeaimdeglaaDoorPgMem
namespace Go.Proofs.YtpmbkeaimdeglaaDoor
open Go.RowKit Go.Extern.Stop Go.Stop Go.Extern

/-- A slice of statements that came in. -/
def Stmts9 (w : World) (a : Option Addr) (len cap : Nat) : Prop := ∃ F, SlOf w (.slice a len cap) F
theorem open_stmts {H : Type} {enc : TypeId × Value → H} {w : World} {base : Nat} {spare : Nat → Bool} {held : Bool} {fuel : Nat} {a : Option Addr} {len cap : Nat} {x : DataW H × List MemPlace} (h : DataW.trod enc Tryd.prog w base spare held fuel 22 (Value.slice a len cap).cells.toList = some x) : Stmts9 w a len cap := by
  obtain ⟨v, F, e, hF⟩ := stmts_of fuel h
  have e' : [Value.slice a len cap] = [v] := e
  injection e' with e'
  subst e'
  exact ⟨F, hF⟩
end Go.Proofs.YtpmbkeaimdeglaaDoor
