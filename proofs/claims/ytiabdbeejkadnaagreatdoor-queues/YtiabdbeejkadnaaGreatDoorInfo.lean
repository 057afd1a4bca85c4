/- Sizes of the plain types. Own work of the verifier. -/
import Derived.Test.YtiabdbeejkadnaaGreatDoorChecked
import Derived.Test.YtiabdbeejkadnaaGreatDoorMod
namespace Go.Proofs.YtiabdbeejkadnaaGreatDoor
open Go.RowKit
theorem info_int : (Tryz.prog.info? 3).map (fun i => (i.zero, i.size, i.bytes)) = some (some (.int .i64 0), 1, 8) := by kernel_rfl
theorem info_byte : (Tryz.prog.info? 5).map (fun i => (i.zero, i.size, i.bytes)) = some (some (.int .u8 0), 1, 1) := by kernel_rfl
end Go.Proofs.YtiabdbeejkadnaaGreatDoor
