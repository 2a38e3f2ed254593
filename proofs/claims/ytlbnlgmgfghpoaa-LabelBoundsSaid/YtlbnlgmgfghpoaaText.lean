/- Facts on texts that the document's own answers lean on: a byte as a text. No walk. -/
import Derived.Test.YtlbnlgmgfghpoaaProg
import Derived.WalkKit
import Derived.Laws.BytesString
import Derived.Lib.Strings
import Derived.Lib.Walk
import Derived.Lib.Hide
import Derived.Lib.IndexBytes
namespace Go.Proofs.Ytlbnlgmgfghpoaa
open Go.RowKit

/-- 'string([]byte{c})', the slice just made. -/
theorem run_one_byte {P : Program} (W : World) (src dst e : TypeId) (n : Int) (hs : P.underlying src = some (.slice e)) (he : P.underlying e = some (.int .u8)) (hd : P.underlying dst = some .string) :
    (convert src dst (.slice (some ⟨W.heap.size, 0, none⟩) 1 1)).run P (W.alloc (.cells #[.int .u8 n] e)) = .ok (.string ⟨#[UInt8.ofNat n.toNat]⟩) (W.alloc (.cells #[.int .u8 n] e)) := by
  rw [run_convert_bytes_string _ src dst e _ _ _ hs he hd, run_bytesToString _ _ _ _ [n]]
  · rfl
  · simp [loadCells, go_sem]
end Go.Proofs.Ytlbnlgmgfghpoaa
