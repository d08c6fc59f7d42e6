/- impl.lengthened. -/
import Derived.Test.YtlgaihofaiigcaaDoorWordsPlain
import Derived.Test.YtlgaihofaiigcaaDoorLetters
import Derived.Test.YtlgaihofaiigcaaDoorStrs
import Derived.Laws.Rows
namespace Go.Proofs.YtlgaihofaiigcaaDoor
open Go.RowKit Go.Joins

theorem someInt32 : (Tryd.prog.underlying 21).isSome = true := by kernel_rfl
/-- string(rune('a' + q)) -/
theorem letter_text (q : Nat) (h : q < 4) : ∃ b : ByteArray, b.size = 1 ∧ ⟨#[UInt8.ofNat (97 + q)]⟩ = b ∧ ∀ w, (convert 21 9 (.int .i32 (97 + (q : Int)))).run Tryd.prog w = .ok (.string b) w := by
  have he : Utf8.encode (97 + (q : Int)) = ⟨#[UInt8.ofNat (97 + q)]⟩ := by
    match q, h with
    | 0, _ => decide +kernel
    | 1, _ => decide +kernel
    | 2, _ => decide +kernel
    | 3, _ => decide +kernel
  refine ⟨⟨#[UInt8.ofNat (97 + q)]⟩, rfl, rfl, fun w => ?_⟩
  rw [← he]
  exact run_convert_int_string (P := Tryd.prog) w 21 9 .i32 (97 + (q : Int)) someInt32 Tryd.underlying9

end Go.Proofs.YtlgaihofaiigcaaDoor
