/- The draw that bends a text: spec.l01Bent. -/
import Derived.Test.YtnmlhjigiemfgaaCur
import Derived.Test.YtnmlhjigiemfgaaDecText
import Derived.Deep.RegionWith
namespace Go.Proofs.Ytnmlhjigiemfgaa
open Go.RowKit

theorem strOf_back (s : ByteArray) : s = strOf s.data.toList := by
  cases s; simp [strOf]
theorem run_addB (a b : ByteArray) (h : a.size + b.size ≤ 9223372036854775807) (w : World) : (Op.stringOp .add a b).run Try.prog w = .ok (.string (a ++ b)) w := by
  have := run_add a.data.toList b.data.toList (by simpa using h) w
  rw [← strOf_append, ← strOf_back, ← strOf_back] at this
  exact this
def bentA : Array Value := #[.string ⟨#[48]⟩, .string ⟨#[32]⟩, .string ⟨#[255]⟩, .string ⟨#[47]⟩, .string ⟨#[10]⟩, .string ⟨#[97]⟩, .string ⟨#[42]⟩, .string ⟨#[34]⟩, .string ⟨#[123]⟩, .string ⟨#[37]⟩]
def bentL : List ByteArray := [⟨#[48]⟩, ⟨#[32]⟩, ⟨#[255]⟩, ⟨#[47]⟩, ⟨#[10]⟩, ⟨#[97]⟩, ⟨#[42]⟩, ⟨#[34]⟩, ⟨#[123]⟩, ⟨#[37]⟩]
def bentA2 : Array Value := #[.string ⟨#[48]⟩, .string ⟨#[65]⟩, .string ⟨#[0]⟩, .string ⟨#[57]⟩, .string ⟨#[125]⟩, .string ⟨#[46]⟩]
def bentL2 : List ByteArray := [⟨#[48]⟩, ⟨#[65]⟩, ⟨#[0]⟩, ⟨#[57]⟩, ⟨#[125]⟩, ⟨#[46]⟩]
end Go.Proofs.Ytnmlhjigiemfgaa
