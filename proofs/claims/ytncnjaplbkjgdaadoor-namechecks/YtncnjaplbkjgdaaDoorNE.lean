/- The law's awake: its walk. -/
import Derived.Test.YtncnjaplbkjgdaaDoorND
namespace Go.Proofs.YtncnjaplbkjgdaaDoor
open Go.RowKit

def exA : ByteArray := ⟨#[195, 137, 109, 105, 108, 101, 46, 120, 45, 49]⟩
theorem ex1 : checkL [195, 137, 109, 105, 108, 101, 46, 120, 45, 49] = 0 := by decide +kernel
theorem ex2 : foldL [195, 137, 109, 105, 108, 101, 46, 120, 45, 49] = [195, 169, 109, 105, 108, 101, 46, 120, 45, 49] := by decide +kernel
theorem ex3 : checkL [46, 97] = 3 := by decide +kernel
theorem ex4 : checkL [97, 46, 46, 98] = 3 := by decide +kernel
theorem ex5 : checkL [49, 97] = 3 := by decide +kernel
theorem ex6 : checkL [255] = 3 := by decide +kernel
theorem ex7 : hashL [] = 14695981039346656037 := rfl
theorem ex8 : keyL [65] = 12638187200555641996 := by decide +kernel

set_option maxRecDepth 100000 in
set_option maxHeartbeats 2000000 in
theorem awake_any (w : World) (hT : UT w) :
    Calls Tryd.prog 7 #[] w fun e w' => e = .returned (.bool true) ∧ Below w.heap.size w w' := by
  go_enter Tryd.func7, Tryd.ntmps7
  go_wp2_with fail
  refine (check_any _ _ (by decide)).mono ?_
  rintro e w1 ⟨rfl, hb1⟩
  rw [show checkL (⟨#[195, 137, 109, 105, 108, 101, 46, 120, 45, 49]⟩ : ByteArray).data.toList = 0 from ex1]
  have hT1 := Utf8Tabs_below hT hb1
  go_wp2_with fail
  refine (fold_any _ _ (by decide) hT1).mono ?_
  rintro e w2 ⟨rfl, hb2'⟩
  rw [show foldL (⟨#[195, 137, 109, 105, 108, 101, 46, 120, 45, 49]⟩ : ByteArray).data.toList = [195, 169, 109, 105, 108, 101, 46, 120, 45, 49] from ex2]
  have hb2 := hb1.trans (hb2'.mono hb1.size)
  clear hb1 hb2' hT1
  have hex : (str [195, 169, 109, 105, 108, 101, 46, 120, 45, 49]).toList = [195, 169, 109, 105, 108, 101, 46, 120, 45, 49] := by rw [ByteArray.toList_eq, str_data]
  go_wp2_with fail
  refine (check_any _ _ (by decide)).mono ?_
  rintro e w3 ⟨rfl, hb3'⟩
  rw [show checkL (⟨#[46, 97]⟩ : ByteArray).data.toList = 3 from ex3]
  have hb3 := hb2.trans (hb3'.mono hb2.size)
  clear hb2 hb3' hex
  go_wp2_with fail
  refine (check_any _ _ (by decide)).mono ?_
  rintro e w4 ⟨rfl, hb4'⟩
  rw [show checkL (⟨#[97, 46, 46, 98]⟩ : ByteArray).data.toList = 3 from ex4]
  have hb4 := hb3.trans (hb4'.mono hb3.size)
  clear hb3 hb4'
  go_wp2_with fail
  refine (check_any _ _ (by decide)).mono ?_
  rintro e w5 ⟨rfl, hb5'⟩
  rw [show checkL (⟨#[49, 97]⟩ : ByteArray).data.toList = 3 from ex5]
  have hb5 := hb4.trans (hb5'.mono hb4.size)
  clear hb4 hb5'
  go_wp2_with fail
  refine (check_any _ _ (by decide)).mono ?_
  rintro e w6 ⟨rfl, hb6'⟩
  rw [show checkL (⟨#[255]⟩ : ByteArray).data.toList = 3 from ex6]
  have hb6 := hb5.trans (hb6'.mono hb5.size)
  have hT6 := Utf8Tabs_below hT hb6
  clear hb5 hb6'
  go_wp2_with fail
  refine (hash_any _ _ (by decide)).mono ?_
  rintro e w7 ⟨rfl, rfl⟩
  rw [show hashL (⟨#[]⟩ : ByteArray).data.toList = 14695981039346656037 from ex7]
  go_wp2_with fail
  refine (key_any _ _ (by decide) hT6).mono ?_
  rintro e w8 ⟨rfl, hb8'⟩
  rw [show keyL (⟨#[65]⟩ : ByteArray).data.toList = 12638187200555641996 from ex8]
  have hb8 : Hid (Below w.heap.size w w8) := hb6.trans (hb8'.mono hb6.size)
  clear hb6 hb8' hT6
  go_wp2
  go_ret
  exact ⟨rfl, hb8.out⟩
end Go.Proofs.YtncnjaplbkjgdaaDoor
