/- The reference's one: an item's bytes. -/
import Derived.Test.YtciibeldmcakeaaDoorPut
import Derived.Test.YtciibeldmcakeaaDoorR
namespace Go.Proofs.YtciibeldmcakeaaDoor.Q
open Go.RowKit

theorem str_num (n : Int) : strOfNums (numI n) = ⟨(numL n).toArray⟩ := rfl
theorem ba_append (a b : List UInt8) : (⟨a.toArray⟩ : ByteArray) ++ ⟨b.toArray⟩ = ⟨(a ++ b).toArray⟩ := by
  apply ByteArray.ext
  rw [ByteArray.data_append]
  simp
theorem ba_eta (s : ByteArray) : s = ⟨s.data.toList.toArray⟩ := by cases s; simp
theorem ret_st {a b : ByteArray} (h : a = b) : Ending.returned (.string a) = .returned (.string b) := by rw [h]

theorem cv_two (w : World) (o : Obj) (x : Int) : (convert 80 9 (.slice (some ⟨w.heap.size + 1, 0, none⟩) 1 1)).run Tryd.prog ((w.alloc o).alloc (.cells #[.int .u8 x] 5)) = .ok (.string (strOfNums [x])) ((w.alloc o).alloc (.cells #[.int .u8 x] 5)) := by
  refine run_convert_bytes_arg _ 80 5 Tryd.underlying80 Tryd.underlying5 (w.heap.size + 1) 0 1 1 [x] rfl ?_ 9 Tryd.underlying9
  intro i hi
  have : i = 0 := by omega
  subst this
  simp
end Go.Proofs.YtciibeldmcakeaaDoor.Q
