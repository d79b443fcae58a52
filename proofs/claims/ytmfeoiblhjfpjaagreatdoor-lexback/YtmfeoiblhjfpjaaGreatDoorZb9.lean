/- value.scanInt at the examples: walks. -/
import Derived.Test.YtmfeoiblhjfpjaaGreatDoorZb2
import Derived.Laws.ResultCell
import Derived.Laws.MakeOwn
import Derived.Deep.RegionHeld3
import Derived.Test.YtmfeoiblhjfpjaaGreatDoorZb4
import Derived.Test.YtmfeoiblhjfpjaaGreatDoorZb7
namespace Go.Proofs.YtmfeoiblhjfpjaaGreatDoor
open Go.RowKit

theorem results_cell3 {fn : Func} {p u v : Tmp} {ty : TypeId} (h : fn.results = #[.cell p ty, .tmp u, .tmp v]) (tmps : Array Value) (P : Program) (w : World) :
    (results fn tmps).run P w =
      ((asAddr (tmps.getD p undef)).run P w).andThen fun a w₁ => ((loadVar ty a).run P w₁).andThen fun x w₂ => .ok (.tuple #[x, tmps.getD u undef, tmps.getD v undef]) w₂ := by
  simp only [results, h]
  simp [Sem.run_bind, Result.andThen]
abbrev v0 : Value := vv 0 0 ⟨#[]⟩
theorem ascii10 : ∀ (j : Nat) b, (⟨#[48, 49, 50, 51, 52, 53, 54, 55, 56, 57]⟩ : ByteArray).data.toList[j]? = some b → b.toNat < 128 := by
  intro j b h
  have hm : b ∈ [48, 49, 50, 51, 52, 53, 54, 55, 56, 57] := List.mem_of_getElem? h
  simp at hm
  rcases hm with rfl | rfl | rfl | rfl | rfl | rfl | rfl | rfl | rfl | rfl <;> decide
set_option maxRecDepth 100000 in
set_option maxHeartbeats 1000000 in
theorem scanInt_1 (w : World) :
    Calls Tryz.prog 34 #[.string ⟨#[45, 48]⟩] w fun e w' => e = .returned (.tuple #[v0, .string ⟨#[]⟩, .int .i64 3]) ∧ Below w.heap.size w w' := by
  have hb0 : Below w.heap.size w (w.alloc (.cells #[.int .i64 0, .int .i64 0, .string ⟨#[]⟩] 28)) := (Below.refl _ _).alloc (Nat.le_refl _) _
  go_enter Tryz.func34, Tryz.ntmps34
  go_wp2_with fail
  refine (Tryz.strings_CutPrefix _ _ _).mono ?_
  rintro e w1 ⟨rfl, rfl⟩
  rw [show (Lib.trimPrefix (⟨#[45, 48]⟩ : ByteArray).data.toList (⟨#[45]⟩ : ByteArray).data.toList) = [48] from rfl, show Lib.hasPrefix (⟨#[45, 48]⟩ : ByteArray).data.toList (⟨#[45]⟩ : ByteArray).data.toList = true from rfl]
  go_wp2_with fail
  refine (Tryz.strings_TrimLeft _ _ _ (by decide) ascii10).mono ?_
  rintro e w2 ⟨rfl, hb2⟩
  rw [show (Lib.trimLeftS (⟨[48].toArray⟩ : ByteArray).data.toList (⟨#[48, 49, 50, 51, 52, 53, 54, 55, 56, 57]⟩ : ByteArray).data.toList) = [] from by decide +kernel]
  obtain ⟨cc, ff, hb3, hlt⟩ := part_cells0 hb2
  have c0 := cc 0
  have c1 := cc 1
  have c2 := cc 2
  have f0 := ff 0
  have f1 := ff 1
  have f2 := ff 2
  simp at c0 c1 c2
  have hx : (⟨#[48]⟩ : ByteArray).extract 0 1 = ⟨#[48]⟩ := by decide
  clear hb2 cc ff
  go_wp2
  try simp only [Exit.inBlock, Exit.then]
  refine bodyPost_ret (v := .tuple #[v0, .string ⟨#[]⟩, .int .i64 3]) ?_ rfl ⟨rfl, ?_⟩
  · rw [results_cell3 rfl]; go_simp
  · exact ((hb3.setCell (p := ⟨w.heap.size, 0, none⟩) (Nat.le_refl _) _).setCell (p := ⟨w.heap.size, 1, none⟩) (Nat.le_refl _) _).setCell (p := ⟨w.heap.size, 2, none⟩) (Nat.le_refl _) _
set_option maxRecDepth 100000 in
set_option maxHeartbeats 1000000 in
theorem scanInt_2 (w : World) :
    Calls Tryz.prog 34 #[.string ⟨#[48, 48, 55]⟩] w fun e w' => e = .returned (.tuple #[v0, .string ⟨#[]⟩, .int .i64 3]) ∧ Below w.heap.size w w' := by
  have hb0 : Below w.heap.size w (w.alloc (.cells #[.int .i64 0, .int .i64 0, .string ⟨#[]⟩] 28)) := (Below.refl _ _).alloc (Nat.le_refl _) _
  go_enter Tryz.func34, Tryz.ntmps34
  go_wp2_with fail
  refine (Tryz.strings_CutPrefix _ _ _).mono ?_
  rintro e w1 ⟨rfl, rfl⟩
  rw [show (Lib.trimPrefix (⟨#[48, 48, 55]⟩ : ByteArray).data.toList (⟨#[45]⟩ : ByteArray).data.toList) = [48, 48, 55] from rfl, show Lib.hasPrefix (⟨#[48, 48, 55]⟩ : ByteArray).data.toList (⟨#[45]⟩ : ByteArray).data.toList = false from rfl]
  go_wp2_with fail
  refine (Tryz.strings_TrimLeft _ _ _ (by decide) ascii10).mono ?_
  rintro e w2 ⟨rfl, hb2⟩
  rw [show (Lib.trimLeftS (⟨[48, 48, 55].toArray⟩ : ByteArray).data.toList (⟨#[48, 49, 50, 51, 52, 53, 54, 55, 56, 57]⟩ : ByteArray).data.toList) = [] from by decide +kernel]
  obtain ⟨cc, ff, hb3, hlt⟩ := part_cells0 hb2
  have c0 := cc 0
  have c1 := cc 1
  have c2 := cc 2
  have f0 := ff 0
  have f1 := ff 1
  have f2 := ff 2
  simp at c0 c1 c2
  have hx : (⟨#[48, 48, 55]⟩ : ByteArray).extract 0 3 = ⟨#[48, 48, 55]⟩ := by decide
  clear hb2 cc ff
  go_wp2
  try simp only [Exit.inBlock, Exit.then]
  refine bodyPost_ret (v := .tuple #[v0, .string ⟨#[]⟩, .int .i64 3]) ?_ rfl ⟨rfl, ?_⟩
  · rw [results_cell3 rfl]; go_simp
  · exact ((hb3.setCell (p := ⟨w.heap.size, 0, none⟩) (Nat.le_refl _) _).setCell (p := ⟨w.heap.size, 1, none⟩) (Nat.le_refl _) _).setCell (p := ⟨w.heap.size, 2, none⟩) (Nat.le_refl _) _

theorem ix0 : Lib.indexByte (⟨#[48, 49, 50, 51, 52, 53, 54, 55, 56, 57, 97, 98, 99, 100, 101, 102]⟩ : ByteArray).data.toList (Int.toNat 48).toUInt8 = 0 := by decide +kernel
theorem ix15 : Lib.indexByte (⟨#[48, 49, 50, 51, 52, 53, 54, 55, 56, 57, 97, 98, 99, 100, 101, 102]⟩ : ByteArray).data.toList (Int.toNat 102).toUInt8 = 15 := by decide +kernel
abbrev HX : ByteArray := ⟨#[48, 49, 50, 51, 52, 53, 54, 55, 56, 57, 97, 98, 99, 100, 101, 102]⟩
theorem idx0 (c : Int) (w : World) (hc : c = 48) : Calls Tryz.prog 37 #[.string HX, .int .u8 c] w fun e w' => e = .returned (.int .i64 0) ∧ w' = w := by
  subst hc
  have := Tryz.strings_IndexByte HX 48 w
  rw [ix0] at this
  exact this
theorem idx15 (c : Int) (w : World) (hc : c = 102) : Calls Tryz.prog 37 #[.string HX, .int .u8 c] w fun e w' => e = .returned (.int .i64 15) ∧ w' = w := by
  subst hc
  have := Tryz.strings_IndexByte HX 102 w
  rw [ix15] at this
  exact this
theorem cut1 : Lib.cut (⟨#[48, 48, 102, 102, 39]⟩ : ByteArray).data.toList (⟨#[39]⟩ : ByteArray).data.toList = ([48, 48, 102, 102], [], true) := by decide +kernel
def ML (w : World) : Prop := ∃ m, w.cell? ⟨2, 0, none⟩ = some (.int .i64 m)
theorem ML_below {w w' : World} (h : ML w) (hb : Below w.heap.size w w') : ML w' := by
  obtain ⟨m, hm⟩ := h
  exact ⟨m, (hb.cell (p := ⟨2, 0, none⟩) (World.block_lt_of_cell? _ _ hm)).trans hm⟩
def sbB (k : Nat) : Int := if k < 2 then 0 else 255
/-- What holds of scanBytes' loop at every round, at the example. -/
def SbRel (b g : Nat) (w0 : World) (i : Value) (wr : World) : Prop :=
  ∃ k : Nat, k ≤ 2 ∧ i = .int .i64 k ∧ wr.cell? ⟨g, 0, none⟩ = some (.int .u8 0) ∧ wr.cell? ⟨g, 1, none⟩ = some (.int .u8 (sbB k)) ∧ wr.frozen? ⟨g, 0, none⟩ = false ∧ wr.frozen? ⟨g, 1, none⟩ = false ∧ (wr.cell? ⟨b, 0, none⟩ = some (.int .i64 0) ∧ wr.cell? ⟨b, 1, none⟩ = some (.int .i64 0) ∧ wr.cell? ⟨b, 2, none⟩ = some (.string ⟨#[]⟩)) ∧ (wr.frozen? ⟨b, 0, none⟩ = false ∧ wr.frozen? ⟨b, 1, none⟩ = false ∧ wr.frozen? ⟨b, 2, none⟩ = false) ∧ Below b w0 wr
theorem mk2 (W : World) : (Instr.makeSlice 63 (.int .i64 2) (.int .i64 2)).run Tryz.prog W = .ok (.slice (some ⟨W.heap.size, 0, none⟩) 2 2) (W.alloc (.cells #[.int .u8 0, .int .u8 0] 5)) := by
  obtain ⟨i0, hi, hz0, hz1, hz2⟩ := info_parts info_u8
  have := run_makeSlice (P := Tryz.prog) W 63 5 i0 _ Tryz.underlying63 hi hz0 .i64 .i64 2 2 (by decide) (by decide) (by rw [hz1]; decide) (by rw [hz2]; decide) (by decide)
  rw [hz1] at this
  have e : madeCells (Value.int .u8 0).cells (Int.toNat 2 * 1) = #[.int .u8 0, .int .u8 0] := by
    simp [madeCells, Value.cells, Array.range]
    rfl
  rw [e] at this
  exact this
theorem Sb_step {b g : Nat} {w0 wr : World} {k : Nat} (h : SbRel b g w0 (.int .i64 (k : Int)) wr) (hbg : b < g) (hk : k < 2) (x : Int) (hx : x = if k = 0 then 0 else 255) :
    SbRel b g w0 (.int .i64 ((k + 1 : Nat) : Int)) (wr.setCell ⟨g, k, none⟩ (.int .u8 x)).drew := by
  obtain ⟨k', hk', he, d0, d1, e0, e1, ⟨c0, c1, c2⟩, ⟨f0, f1, f2⟩, hb⟩ := h
  obtain rfl : k' = k := by simp at he; omega
  have o : ∀ j i, (⟨g, i, none⟩ : Addr) ≠ ⟨b, j, none⟩ := fun j i e => by have h1 : g = b := congrArg Addr.block e; omega
  refine ⟨k' + 1, by omega, rfl, ?_, ?_, ?_, ?_, ⟨?_, ?_, ?_⟩, ⟨?_, ?_, ?_⟩, (hb.setCell (p := ⟨g, k', none⟩) (Nat.le_of_lt hbg) _).drew⟩
  · rw [World.cell?_drew]
    by_cases h0 : k' = 0
    · subst h0
      rw [World.cell?_setCell_same _ _ _ d0, hx]
      rfl
    · rw [World.cell?_setCell_other _ _ _ _ (fun e => h0 (by have h1 : k' = 0 := congrArg Addr.off e; omega))]
      exact d0
  · rw [World.cell?_drew]
    by_cases h0 : k' = 0
    · subst h0
      rw [World.cell?_setCell_other _ _ _ _ (by simp)]
      exact d1
    · obtain rfl : k' = 1 := by omega
      rw [World.cell?_setCell_same _ _ _ d1, hx]
      rfl
  · simpa using e0
  · simpa using e1
  · rw [World.cell?_drew, World.cell?_setCell_other _ _ _ _ (o 0 k')]; exact c0
  · rw [World.cell?_drew, World.cell?_setCell_other _ _ _ _ (o 1 k')]; exact c1
  · rw [World.cell?_drew, World.cell?_setCell_other _ _ _ _ (o 2 k')]; exact c2
  · simpa using f0
  · simpa using f1
  · simpa using f2
theorem conv2 (w : World) (g : Nat) (h0 : w.cell? ⟨g, 0, none⟩ = some (.int .u8 0)) (h1 : w.cell? ⟨g, 1, none⟩ = some (.int .u8 255)) : (convert 63 9 (.slice (some ⟨g, 0, none⟩) 2 2)).run Tryz.prog w = .ok (.string (strOfNums [0, 255])) w :=
  run_convert_bytes_arg (P := Tryz.prog) w 63 5 Tryz.underlying63 Tryz.underlying5 g 0 2 2 [0, 255] rfl (fun i hi => by
    match i, hi with
    | 0, _ => simpa using h0
    | 1, _ => simpa using h1) 9 Tryz.underlying9
set_option maxRecDepth 100000 in
set_option maxHeartbeats 2000000 in
theorem scanBytes_1 (w : World) (hM : ML w) :
    Calls Tryz.prog 32 #[.string ⟨#[48, 48, 102, 102, 39]⟩] w fun e w' => e = .returned (.tuple #[vv 4 0 ⟨#[0, 255]⟩, .string ⟨#[]⟩, .int .i64 0]) ∧ Below w.heap.size w w' := by
  have hb0 : Below w.heap.size w (w.alloc (.cells #[.int .i64 0, .int .i64 0, .string ⟨#[]⟩] 28)) := (Below.refl _ _).alloc (Nat.le_refl _) _
  obtain ⟨m, hm⟩ := ML_below hM hb0
  go_enter Tryz.func32, Tryz.ntmps32
  go_wp2_with fail
  refine (Tryz.strings_Cut _ _ m _ (by decide) hm).mono ?_
  rintro e w1 ⟨rfl, n, hw1⟩
  rw [cut1]
  obtain ⟨cc, ff, hb1, hlt⟩ := part_cells0 (w := w) (C := #[.int .i64 0, .int .i64 0, .string ⟨#[]⟩]) (t := 28) (w1 := w1) (by rw [hw1]; exact ⟨rfl, rfl, rfl, Nat.le_refl _, fun _ _ => rfl⟩)
  clear hw1 hm hb0
  go_wp2
  rw [mk2]
  have hA := (Below.refl w1.heap.size w1).alloc (Nat.le_refl _) (.cells #[.int .u8 0, .int .u8 0] 5)
  have hne : w.heap.size ≠ w1.heap.size := by omega
  go_wp2
  go_loopw [3, 32] (fun r i wr => r = .string ⟨#[]⟩ ∧ SbRel w.heap.size w1.heap.size w i wr) (fun _ i _ => 2 - (RowKit.intOf i).toNat)
  case atStart =>
    refine ⟨rfl, 0, by decide, rfl, by simp, by simp [sbB], by simp, by simp, ⟨?_, ?_, ?_⟩, ⟨?_, ?_, ?_⟩, hb1.alloc (by omega) _⟩
    · exact (hA.cell (p := ⟨w.heap.size, 0, none⟩) hlt).trans (cc 0)
    · exact (hA.cell (p := ⟨w.heap.size, 1, none⟩) hlt).trans (cc 1)
    · exact (hA.cell (p := ⟨w.heap.size, 2, none⟩) hlt).trans (cc 2)
    · exact (hA.frozen (p := ⟨w.heap.size, 0, none⟩) hlt).trans (ff 0)
    · exact (hA.frozen (p := ⟨w.heap.size, 1, none⟩) hlt).trans (ff 1)
    · exact (hA.frozen (p := ⟨w.heap.size, 2, none⟩) hlt).trans (ff 2)
  case round =>
    have HREL : Hid (SbRel w.heap.size w1.heap.size w u32 wr) := hrel.2
    obtain ⟨rfl, k, hk, rfl, d0, d1, e0, e1, ⟨c0, c1, c2⟩, ⟨f0, f1, f2⟩, hb⟩ := hrel
    have hk3 : k = 0 ∨ k = 1 ∨ k = 2 := by omega
    rcases hk3 with rfl | rfl | rfl
    · go_wp2
      go_region_held3 (fun w' => True) (trivial) (first | (go_at_call 37; refine (idx0 _ _ ?_).mono ?_; rfl; rintro e w' ⟨rfl, rfl⟩) | (go_at_call 37; refine (idx15 _ _ ?_).mono ?_; rfl; rintro e w' ⟨rfl, rfl⟩))
      all_goals go_wp2
      all_goals exact ⟨⟨rfl, Sb_step (k := 0) HREL.out hlt (by decide) _ (by decide +kernel)⟩, by decide⟩
    · go_wp2
      go_region_held3 (fun w' => True) (trivial) (first | (go_at_call 37; refine (idx0 _ _ ?_).mono ?_; rfl; rintro e w' ⟨rfl, rfl⟩) | (go_at_call 37; refine (idx15 _ _ ?_).mono ?_; rfl; rintro e w' ⟨rfl, rfl⟩))
      all_goals go_wp2
      all_goals exact ⟨⟨rfl, Sb_step (k := 1) HREL.out hlt (by decide) _ (by decide +kernel)⟩, by decide⟩
    · have d1' : wr.cell? ⟨w1.heap.size, 1, none⟩ = some (.int .u8 255) := d1
      have hcv := conv2 wr w1.heap.size d0 d1'
      have hst : strOfNums [0, 255] = ⟨#[0, 255]⟩ := rfl
      rw [hst] at hcv
      go_wp2
      try simp only [Exit.inBlock, Exit.then]
      refine bodyPost_ret (v := .tuple #[vv 4 0 ⟨#[0, 255]⟩, .string ⟨#[]⟩, .int .i64 0]) ?_ rfl ⟨rfl, ?_⟩
      · rw [results_cell3 rfl]; go_simp
      · exact ((hb.setCell (p := ⟨w.heap.size, 0, none⟩) (Nat.le_refl _) _).setCell (p := ⟨w.heap.size, 1, none⟩) (Nat.le_refl _) _).setCell (p := ⟨w.heap.size, 2, none⟩) (Nat.le_refl _) _
end Go.Proofs.YtmfeoiblhjfpjaaGreatDoor
/- value.scanRune and scanText at the examples, Scan, Parse; the law's awake: walks. -/
namespace Go.Proofs.YtmfeoiblhjfpjaaGreatDoor
open Go.RowKit

theorem T16_drew {w : World} (h : T16 w) : T16 w.drew := h
theorem sr97 : str (showR 97) = ⟨#[97]⟩ := by decide +kernel
theorem srFF : str (showR 65533) = ⟨#[239, 191, 189]⟩ := by decide +kernel
theorem dec97 : Lib.decodeGo ⟨#[97]⟩ = (97, 1) := by decide +kernel
theorem dec0 : Lib.decodeGo ⟨#[]⟩ = (65533, 0) := by decide +kernel
theorem showRune_97 (w : World) (hT : T16 w) : Calls Tryz.prog 62 #[.int .i32 97] w fun e w' => e = .returned (.string ⟨#[97]⟩) ∧ Below w.heap.size w w' := by
  have := showRune_any 97 w (by unfold scal; omega) (by omega) hT
  rw [sr97] at this
  exact this
theorem showRune_FF (w : World) (hT : T16 w) : Calls Tryz.prog 62 #[.int .i32 65533] w fun e w' => e = .returned (.string ⟨#[239, 191, 189]⟩) ∧ Below w.heap.size w w' := by
  have := showRune_any 65533 w (by unfold scal; omega) (by omega) hT
  rw [srFF] at this
  exact this
set_option maxRecDepth 100000 in
set_option maxHeartbeats 2000000 in
theorem scanRune_a (w : World) (hT : T16 w) (hU : UT w) :
    Calls Tryz.prog 49 #[.string ⟨#[97]⟩] w fun e w' => e = .returned (.tuple #[.int .i32 97, .int .i64 1]) ∧ Below w.heap.size w w' := by
  have hx : (⟨#[97]⟩ : ByteArray).extract 0 1 = ⟨#[97]⟩ := by decide
  go_enter Tryz.func49, Tryz.ntmps49
  go_wp2_with fail
  refine (Tryz.strings_HasPrefix _ _ _).mono ?_
  rintro e w1 ⟨rfl, rfl⟩
  rw [show Lib.hasPrefix (⟨#[97]⟩ : ByteArray).data.toList (⟨#[92]⟩ : ByteArray).data.toList = false from by decide]
  go_wp2_with fail
  refine (Tryz.utf8_DecodeRuneInString _ _ hU).mono ?_
  rintro e w2 ⟨rfl, hb2⟩
  rw [dec97]
  have hT2 := T16_below hT hb2
  go_wp2
  go_region_held3 (fun w' => True) (trivial) (first | (go_at_call 62; refine (showRune_97 _ ?_).mono ?_; exact T16_drew hT2; rintro e w' ⟨rfl, hb3⟩))
  all_goals go_wp2
  all_goals go_ret2
  all_goals exact ⟨rfl, hb2.trans ((Below.drew (Below.refl _ _)).trans (hb3.mono (by have := hb2.size; simpa using this)))⟩
set_option maxRecDepth 100000 in
set_option maxHeartbeats 2000000 in
theorem scanRune_e (w : World) (hT : T16 w) (hU : UT w) :
    Calls Tryz.prog 49 #[.string ⟨#[]⟩] w fun e w' => e = .returned (.tuple #[.int .i32 0, .int .i64 0]) ∧ Below w.heap.size w w' := by
  have hx : (⟨#[]⟩ : ByteArray).extract 0 0 = ⟨#[]⟩ := by decide
  go_enter Tryz.func49, Tryz.ntmps49
  go_wp2_with fail
  refine (Tryz.strings_HasPrefix _ _ _).mono ?_
  rintro e w1 ⟨rfl, rfl⟩
  rw [show Lib.hasPrefix (⟨#[]⟩ : ByteArray).data.toList (⟨#[92]⟩ : ByteArray).data.toList = false from by decide]
  go_wp2_with fail
  refine (Tryz.utf8_DecodeRuneInString _ _ hU).mono ?_
  rintro e w2 ⟨rfl, hb2⟩
  rw [dec0]
  have hT2 := T16_below hT hb2
  go_wp2
  go_region_held3 (fun w' => True) (trivial) (first | (go_at_call 62; refine (showRune_FF _ ?_).mono ?_; exact T16_drew hT2; rintro e w' ⟨rfl, hb3⟩))
  all_goals go_wp2
  all_goals go_ret2
  all_goals exact ⟨rfl, hb2.trans ((Below.drew (Below.refl _ _)).trans (hb3.mono (by have := hb2.size; simpa using this)))⟩
end Go.Proofs.YtmfeoiblhjfpjaaGreatDoor
/- value.scanText at the example, Scan and Parse at the four examples; the law's awake: walks. -/
namespace Go.Proofs.YtmfeoiblhjfpjaaGreatDoor
open Go.RowKit

/-- The result's cells, not yet set. -/
structure Zero (b : Nat) (w : World) : Prop where
  c0 : w.cell? ⟨b, 0, none⟩ = some (.int .i64 0)
  c1 : w.cell? ⟨b, 1, none⟩ = some (.int .i64 0)
  c2 : w.cell? ⟨b, 2, none⟩ = some (.string ⟨#[]⟩)
  f0 : w.frozen? ⟨b, 0, none⟩ = false
  f1 : w.frozen? ⟨b, 1, none⟩ = false
  f2 : w.frozen? ⟨b, 2, none⟩ = false
theorem Zero.below {b B : Nat} {w w' : World} (h : Zero b w) (hb : Below B w w') (hlt : b < B) : Zero b w' :=
  ⟨(hb.cell (p := ⟨b, 0, none⟩) hlt).trans h.c0, (hb.cell (p := ⟨b, 1, none⟩) hlt).trans h.c1, (hb.cell (p := ⟨b, 2, none⟩) hlt).trans h.c2, (hb.frozen (p := ⟨b, 0, none⟩) hlt).trans h.f0, (hb.frozen (p := ⟨b, 1, none⟩) hlt).trans h.f1, (hb.frozen (p := ⟨b, 2, none⟩) hlt).trans h.f2⟩
theorem Zero.new (w : World) : Zero w.heap.size (w.alloc (.cells #[.int .i64 0, .int .i64 0, .string ⟨#[]⟩] 28)) :=
  ⟨by simp, by simp, by simp, by simp, by simp, by simp⟩
abbrev wv (w : World) : World := w.alloc (.cells #[.int .i64 0, .int .i64 0, .string ⟨#[]⟩] 28)
theorem wv_below (w : World) : Below w.heap.size w (wv w) := (Below.refl _ _).alloc (Nat.le_refl _) _
theorem wv_size (w : World) : (wv w).heap.size = w.heap.size + 1 := by simp
theorem load_vv (W : World) (b : Nat) (k n : Int) (s : ByteArray) (c0 : W.cell? ⟨b, 0, none⟩ = some (.int .i64 k)) (c1 : W.cell? ⟨b, 1, none⟩ = some (.int .i64 n)) (c2 : W.cell? ⟨b, 2, none⟩ = some (.string s)) : (loadVar 28 ⟨b, 0, none⟩).run Tryz.prog W = .ok (vv k n s) W := by
  go_simp
abbrev set3 (W : World) (b : Nat) (x y z : Value) : World := ((W.setCell ⟨b, 0, none⟩ x).setCell ⟨b, 1, none⟩ y).setCell ⟨b, 2, none⟩ z
structure Three (b : Nat) (W : World) (x y z : Value) : Prop where
  c0 : W.cell? ⟨b, 0, none⟩ = some x
  c1 : W.cell? ⟨b, 1, none⟩ = some y
  c2 : W.cell? ⟨b, 2, none⟩ = some z
theorem Three.set {b : Nat} {W : World} {x y z : Value} (h : Three b W x y z) (x' y' z' : Value) : Three b (set3 W b x' y' z') x' y' z' := by
  have a1 : (W.setCell ⟨b, 0, none⟩ x').cell? ⟨b, 1, none⟩ = some y := (World.cell?_setCell_other _ _ _ _ (by simp)).trans h.c1
  have a2 : ((W.setCell ⟨b, 0, none⟩ x').setCell ⟨b, 1, none⟩ y').cell? ⟨b, 2, none⟩ = some z := (World.cell?_setCell_other _ _ _ _ (by simp)).trans ((World.cell?_setCell_other _ _ _ _ (by simp)).trans h.c2)
  refine ⟨?_, ?_, ?_⟩
  · rw [World.cell?_setCell_other _ _ _ _ (by simp), World.cell?_setCell_other _ _ _ _ (by simp), World.cell?_setCell_same _ _ _ h.c0]
  · rw [World.cell?_setCell_other _ _ _ _ (by simp), World.cell?_setCell_same _ _ _ a1]
  · rw [World.cell?_setCell_same _ _ _ a2]
theorem Three.alloc {b : Nat} {W : World} {x y z : Value} (h : Three b W x y z) (o : Obj) : Three b (W.alloc o) x y z := by
  have hA := (Below.refl W.heap.size W).alloc (Nat.le_refl _) o
  have hlt : b < W.heap.size := World.block_lt_of_cell? _ _ h.c0
  exact ⟨(hA.cell (p := ⟨b, 0, none⟩) hlt).trans h.c0, (hA.cell (p := ⟨b, 1, none⟩) hlt).trans h.c1, (hA.cell (p := ⟨b, 2, none⟩) hlt).trans h.c2⟩
theorem Zero.three {b : Nat} {w : World} (h : Zero b w) : Three b w (.int .i64 0) (.int .i64 0) (.string ⟨#[]⟩) := ⟨h.c0, h.c1, h.c2⟩
theorem results_v3 {fn : Func} {p u v : Tmp} (h : fn.results = #[.cell p 28, .tmp u, .tmp v]) (tmps : Array Value) (W : World) (b : Nat) (hp : tmps.getD p undef = .pointer (some ⟨b, 0, none⟩)) {k n : Int} {s : ByteArray} (h3 : Three b W (.int .i64 k) (.int .i64 n) (.string s)) :
    (results fn tmps).run Tryz.prog W = .ok (.tuple #[vv k n s, tmps.getD u undef, tmps.getD v undef]) W := by
  rw [results_cell3 h, hp]
  have e : (asAddr (.pointer (some ⟨b, 0, none⟩))).run Tryz.prog W = .ok ⟨b, 0, none⟩ W := rfl
  rw [e]
  simp only [Result.andThen]
  rw [load_vv W b k n s h3.c0 h3.c1 h3.c2]
theorem results_v2 {fn : Func} {p u : Tmp} (h : fn.results = #[.cell p 28, .tmp u]) (tmps : Array Value) (W : World) (b : Nat) (hp : tmps.getD p undef = .pointer (some ⟨b, 0, none⟩)) {k n : Int} {s : ByteArray} (h3 : Three b W (.int .i64 k) (.int .i64 n) (.string s)) :
    (results fn tmps).run Tryz.prog W = .ok (.tuple #[vv k n s, tmps.getD u undef]) W := by
  rw [results_cell_tmp h, hp]
  have e : (asAddr (.pointer (some ⟨b, 0, none⟩))).run Tryz.prog W = .ok ⟨b, 0, none⟩ W := rfl
  rw [e]
  simp only [Result.andThen]
  rw [load_vv W b k n s h3.c0 h3.c1 h3.c2]
/-- The result's three cells set. -/
theorem set3_below {w0 w : World} {b : Nat} (h : Below b w0 w) (x y z : Value) : Below b w0 (((w.setCell ⟨b, 0, none⟩ x).setCell ⟨b, 1, none⟩ y).setCell ⟨b, 2, none⟩ z) :=
  ((h.setCell (p := ⟨b, 0, none⟩) (Nat.le_refl _) _).setCell (p := ⟨b, 1, none⟩) (Nat.le_refl _) _).setCell (p := ⟨b, 2, none⟩) (Nat.le_refl _) _

def lenOf : Value → Nat
  | .string s => s.size
  | _ => 0
/-- What holds of scanText's loop at every round, at the example. -/
def TxRel (w : World) (t : Value) (wr : World) : Prop :=
  (t = .string ⟨#[97]⟩ ∧ IsB (w.heap.size + 1) (w.heap.size + 1) [] wr ∨ t = .string ⟨#[]⟩) ∧ Zero w.heap.size wr ∧ Below w.heap.size w wr ∧ w.heap.size + 1 < wr.heap.size
set_option maxRecDepth 100000 in
set_option maxHeartbeats 2000000 in
theorem scanText_1 (w : World) (hT : T16 w) (hU : UT w) :
    Calls Tryz.prog 31 #[.string ⟨#[97]⟩] w fun e w' => e = .returned (.tuple #[v0, .string ⟨#[]⟩, .int .i64 3]) ∧ Below w.heap.size w w' := by
  have hI := Lib.IsBuilderF.of (Lib.fresh_isBuilder 65 5 (wv w))
  rw [wv_size] at hI
  have hp97 : Lib.hasPrefix (⟨#[97]⟩ : ByteArray).data.toList (⟨#[34]⟩ : ByteArray).data.toList = false := by decide
  have hp0 : Lib.hasPrefix (⟨#[]⟩ : ByteArray).data.toList (⟨#[34]⟩ : ByteArray).data.toList = false := by decide
  have hx : (⟨#[97]⟩ : ByteArray).extract 1 1 = ⟨#[]⟩ := by decide
  go_enter Tryz.func31, Tryz.ntmps31
  go_wp2_with fail
  go_loopw [0] (fun t wr => TxRel w t wr) (fun t _ => lenOf t)
  case atStart => exact ⟨.inl ⟨rfl, hI⟩, (Zero.new w).below ((Below.refl _ (wv w)).alloc (Nat.le_refl _) _) (by simp), (wv_below w).alloc (by simp) _, by simp⟩
  case round =>
    obtain ⟨hs, hz, hb, hsz⟩ := hrel
    rcases hs with ⟨rfl, hI⟩ | rfl
    · go_wp2_with fail
      refine (Tryz.strings_HasPrefix _ _ _).mono ?_
      rintro e w1 ⟨rfl, rfl⟩
      rw [hp97]
      go_wp2_with fail
      refine (scanRune_a _ (T16_below hT hb) (Utf8Tabs_below hU hb)).mono ?_
      rintro e w2 ⟨rfl, hb2⟩
      have hI2 := IsB_below hI hb2
      have hz2 := hz.below hb2 (by omega)
      have hB2 := hb.trans (hb2.mono (by omega))
      have hs2 := hb2.size
      clear hb2 hI hz hb
      go_wp2_with fail
      refine (writeRune_ascii (w.heap.size + 1) (w.heap.size + 1) [] 97 _ (by decide) hI2 (by decide) (by omega)).mono ?_
      rintro e w3 ⟨rfl, hI3, hb3, ok3⟩
      have hz3 := hz2.below hb3 (by omega)
      have hB3 := hB2.trans (hb3.mono (by omega))
      have hs3 := hb3.size
      clear hb3 hI2 hz2 hB2 hI3 ok3
      go_wp2
      go_roundw
      case rel => exact ⟨.inr rfl, hz3, hB3, by omega⟩
      case measure => decide
    · go_wp2_with fail
      refine (Tryz.strings_HasPrefix _ _ _).mono ?_
      rintro e w1 ⟨rfl, rfl⟩
      rw [hp0]
      go_wp2_with fail
      refine (scanRune_e _ (T16_below hT hb) (Utf8Tabs_below hU hb)).mono ?_
      rintro e w2 ⟨rfl, hb2⟩
      obtain ⟨c0, c1, c2, f0, f1, f2⟩ := hz.below hb2 (by omega)
      have hB2 := hb.trans (hb2.mono (by omega))
      clear hb2 hz hb
      go_wp2
      try simp only [Exit.inBlock, Exit.then]
      refine bodyPost_ret (v := .tuple #[v0, .string ⟨#[]⟩, .int .i64 3]) ?_ rfl ⟨rfl, set3_below hB2 _ _ _⟩
      rw [results_cell3 rfl]; go_simp

theorem scan_x (w : World) (hM : ML w) :
    Calls Tryz.prog 20 #[.string ⟨#[120, 39, 48, 48, 102, 102, 39]⟩] w fun e w' => e = .returned (.tuple #[vv 4 0 ⟨#[0, 255]⟩, .string ⟨#[]⟩, .int .i64 0]) ∧ Below w.heap.size w w' := by
  have hp1 : Lib.hasPrefix (⟨#[120, 39, 48, 48, 102, 102, 39]⟩ : ByteArray).data.toList (⟨#[34]⟩ : ByteArray).data.toList = false := by decide
  have hp2 : Lib.hasPrefix (⟨#[120, 39, 48, 48, 102, 102, 39]⟩ : ByteArray).data.toList (⟨#[120, 39]⟩ : ByteArray).data.toList = true := by decide
  have hx : (⟨#[120, 39, 48, 48, 102, 102, 39]⟩ : ByteArray).extract 2 7 = ⟨#[48, 48, 102, 102, 39]⟩ := by decide
  go_enter Tryz.func20, Tryz.ntmps20
  go_wp2_with fail
  refine (Tryz.strings_HasPrefix _ _ _).mono ?_
  rintro e w1 ⟨rfl, rfl⟩
  rw [hp1]
  go_wp2_with fail
  refine (Tryz.strings_HasPrefix _ _ _).mono ?_
  rintro e w1 ⟨rfl, rfl⟩
  rw [hp2]
  go_wp2_with fail
  refine (scanBytes_1 _ (ML_below hM (wv_below w))).mono ?_
  rintro e w2 ⟨rfl, hb2⟩
  have HZ : Hid (Three w.heap.size w2 (.int .i64 0) (.int .i64 0) (.string ⟨#[]⟩)) := ((Zero.new w).below hb2 (by simp)).three
  obtain ⟨c0, c1, c2, f0, f1, f2⟩ := (Zero.new w).below hb2 (by simp)
  have hB2 := (wv_below w).trans (hb2.mono (by simp))
  clear hb2
  go_wp2
  try simp only [Exit.inBlock, Exit.then]
  exact bodyPost_ret (results_v3 rfl _ _ w.heap.size rfl ((HZ.out.set _ _ _).set _ _ _)) rfl ⟨rfl, set3_below (set3_below hB2 _ _ _) _ _ _⟩
set_option maxHeartbeats 1000000 in
theorem scan_q (w : World) (hT : T16 w) (hU : UT w) :
    Calls Tryz.prog 20 #[.string ⟨#[34, 97]⟩] w fun e w' => e = .returned (.tuple #[v0, .string ⟨#[]⟩, .int .i64 3]) ∧ Below w.heap.size w w' := by
  have hp1 : Lib.hasPrefix (⟨#[34, 97]⟩ : ByteArray).data.toList (⟨#[34]⟩ : ByteArray).data.toList = true := by decide
  have hx : (⟨#[34, 97]⟩ : ByteArray).extract 1 2 = ⟨#[97]⟩ := by decide
  go_enter Tryz.func20, Tryz.ntmps20
  go_wp2_with fail
  refine (Tryz.strings_HasPrefix _ _ _).mono ?_
  rintro e w1 ⟨rfl, rfl⟩
  rw [hp1]
  go_wp2_with fail
  refine (scanText_1 _ (T16_below hT (wv_below w)) (Utf8Tabs_below hU (wv_below w))).mono ?_
  rintro e w2 ⟨rfl, hb2⟩
  have HZ : Hid (Three w.heap.size w2 (.int .i64 0) (.int .i64 0) (.string ⟨#[]⟩)) := ((Zero.new w).below hb2 (by simp)).three
  obtain ⟨c0, c1, c2, f0, f1, f2⟩ := (Zero.new w).below hb2 (by simp)
  have hB2 := (wv_below w).trans (hb2.mono (by simp))
  clear hb2
  go_wp2
  try simp only [Exit.inBlock, Exit.then]
  exact bodyPost_ret (results_v3 rfl _ _ w.heap.size rfl ((HZ.out.set _ _ _).set _ _ _)) rfl ⟨rfl, set3_below (set3_below hB2 _ _ _) _ _ _⟩
set_option maxHeartbeats 1000000 in
theorem scan_d (s : ByteArray) (w : World) (h1 : Lib.hasPrefix s.data.toList (⟨#[34]⟩ : ByteArray).data.toList = false) (h2 : Lib.hasPrefix s.data.toList (⟨#[120, 39]⟩ : ByteArray).data.toList = false) (h3 : Lib.hasPrefix s.data.toList (⟨#[116, 114, 117, 101]⟩ : ByteArray).data.toList = false) (h4 : Lib.hasPrefix s.data.toList (⟨#[102, 97, 108, 115, 101]⟩ : ByteArray).data.toList = false)
    (hc : ∀ w, Calls Tryz.prog 34 #[.string s] w fun e w' => e = .returned (.tuple #[v0, .string ⟨#[]⟩, .int .i64 3]) ∧ Below w.heap.size w w') :
    Calls Tryz.prog 20 #[.string s] w fun e w' => e = .returned (.tuple #[v0, .string ⟨#[]⟩, .int .i64 3]) ∧ Below w.heap.size w w' := by
  have HC : Hid (∀ w, Calls Tryz.prog 34 #[.string s] w fun e w' => e = .returned (.tuple #[v0, .string ⟨#[]⟩, .int .i64 3]) ∧ Below w.heap.size w w') := hc
  clear hc
  go_enter Tryz.func20, Tryz.ntmps20
  go_wp2_with fail
  refine (Tryz.strings_HasPrefix _ _ _).mono ?_
  rintro e w1 ⟨rfl, rfl⟩
  rw [h1]
  go_wp2_with fail
  refine (Tryz.strings_HasPrefix _ _ _).mono ?_
  rintro e w1 ⟨rfl, rfl⟩
  rw [h2]
  go_wp2_with fail
  refine (Tryz.strings_HasPrefix _ _ _).mono ?_
  rintro e w1 ⟨rfl, rfl⟩
  rw [h3]
  go_wp2_with fail
  refine (Tryz.strings_HasPrefix _ _ _).mono ?_
  rintro e w1 ⟨rfl, rfl⟩
  rw [h4]
  go_wp2_with fail
  refine (HC.out _).mono ?_
  rintro e w2 ⟨rfl, hb2⟩
  have HZ : Hid (Three w.heap.size w2 (.int .i64 0) (.int .i64 0) (.string ⟨#[]⟩)) := ((Zero.new w).below hb2 (by simp)).three
  obtain ⟨c0, c1, c2, f0, f1, f2⟩ := (Zero.new w).below hb2 (by simp)
  have hB2 := (wv_below w).trans (hb2.mono (by simp))
  clear hb2
  go_wp2
  try simp only [Exit.inBlock, Exit.then]
  exact bodyPost_ret (results_v3 rfl _ _ w.heap.size rfl ((HZ.out.set _ _ _).set _ _ _)) rfl ⟨rfl, set3_below (set3_below hB2 _ _ _) _ _ _⟩

/-- What the walks ask of the world. -/
structure VT (w : World) : Prop where
  u : UT w
  t : T16 w
  m : ML w
theorem VT.below {w w' : World} (h : VT w) (hb : Below w.heap.size w w') : VT w' := ⟨Utf8Tabs_below h.u hb, T16_below h.t hb, ML_below h.m hb⟩
abbrev exT : ByteArray := ⟨#[97, 34, 195, 169, 10, 1]⟩
theorem exT_chk : chkV 2 0 exT = true := by decide +kernel
theorem exT_rns : rns exT.data.toList = [97, 34, 233, 10, 1] := by decide +kernel
theorem exT_show : str (34 :: shows (rns exT.data.toList) ++ [34]) = ⟨#[34, 97, 92, 34, 195, 169, 92, 110, 92, 117, 123, 49, 125, 34]⟩ := by rw [exT_rns]; decide +kernel
theorem exT_ok : ∀ c ∈ rns exT.data.toList, okR c := by
  rw [exT_rns]
  intro c hc
  simp at hc
  unfold okR
  omega
theorem show_ex (w : World) (h : VT w) : Calls Tryz.prog 24 #[vv 2 0 exT] w fun e w' => e = .returned (.string ⟨#[34, 97, 92, 34, 195, 169, 92, 110, 92, 117, 123, 49, 125, 34]⟩) ∧ Below w.heap.size w w' := by
  have := show_text exT w exT_chk h.t h.u exT_ok
  rw [exT_show] at this
  exact this

end Go.Proofs.YtmfeoiblhjfpjaaGreatDoor
/- value.scanInt at any text: its walk. -/
namespace Go.Proofs.YtmfeoiblhjfpjaaGreatDoor
open Go.RowKit

/-- What scanning a literal hands back. -/
def scV (x : Sc) : Value := .tuple #[vv x.k x.n (str x.s), .string (str x.r), .int .i64 x.e]
theorem scV_bad (e : Int) : scV (.bad e) = .tuple #[v0, .string ⟨#[]⟩, .int .i64 e] := rfl
theorem trim_digs (l : List UInt8) : Lib.trimLeftS l (⟨#[48, 49, 50, 51, 52, 53, 54, 55, 56, 57]⟩ : ByteArray).data.toList = l.dropWhile isD := by
  unfold Lib.trimLeftS
  congr 1
  funext b
  exact (isD_mem b).symm
theorem ext_str (s : ByteArray) (m : Nat) : s.extract 0 m = str (s.data.toList.take m) := ba_eq (by rw [str_data, Lib.extract_data]; simp)
theorem ext_from (s : ByteArray) (m : Nat) : s.extract m s.size = str (s.data.toList.drop m) := ba_eq (by
  rw [str_data, Lib.extract_data]
  apply List.take_of_length_le
  rw [List.length_drop, Array.length_toList]
  exact Nat.le_refl _)
theorem digs_len (l : List UInt8) : l.length = (digs l).length + (l.dropWhile isD).length := by
  conv => lhs; rw [← digs_app l]
  rw [List.length_append]
theorem digs_take (l : List UInt8) : l.take (digs l).length = digs l := by
  conv => lhs; rw [← digs_app l]
  rw [List.take_left' (by rw [digs_app])]
theorem gN_str (l : List UInt8) (i : Nat) (h : i < l.length) : gN (str l) i = (l.getD i 0).toNat := by
  have hs : i < (str l).size := by rw [str_size]; exact h
  rw [← gN_of (str l) i hs]
  show ((l.toArray)[i]'_).toNat = _
  rw [List.getD_eq_getElem?_getD, List.getElem?_eq_getElem h]
  rfl
theorem head_getD {l : List UInt8} (h : l ≠ []) : l.head? = some (l.getD 0 0) := by
  cases l with
  | nil => exact absurd rfl h
  | cons b t => rfl
/-- The frame of a scanner behind its calls: the result's cells, and what was there before. -/
structure Fr (w w2 : World) : Prop where
  z : Zero w.heap.size w2
  b : Below w.heap.size w w2
theorem Fr.of {w w2 : World} (hb : Below (wv w).heap.size (wv w) w2) : Fr w w2 := ⟨(Zero.new w).below hb (by simp), (wv_below w).trans (hb.mono (by simp))⟩
set_option maxRecDepth 100000 in
set_option maxHeartbeats 4000000 in
theorem scanInt_any (s : ByteArray) (w : World) (hs : s.size ≤ 1000000) :
    Calls Tryz.prog 34 #[.string s] w fun e w' => e = .returned (scV (scI (Lib.hasPrefix s.data.toList [45]) (Lib.trimPrefix s.data.toList [45]))) ∧ Below w.heap.size w w' := by
  have hTl : (Lib.trimPrefix s.data.toList [45]).length ≤ 1000000 := by
    unfold Lib.trimPrefix
    split
    · rw [List.length_drop, ← Lib.size_eq]; omega
    · rw [← Lib.size_eq]; exact hs
  have HCP : Hid (∀ w : World, Calls Tryz.prog 54 #[.string s, .string ⟨#[45]⟩] w fun e w' => e = .returned (.tuple #[.string ⟨(Lib.trimPrefix s.data.toList [45]).toArray⟩, .bool (Lib.hasPrefix s.data.toList [45])]) ∧ w' = w) := fun w => Tryz.strings_CutPrefix s ⟨#[45]⟩ w
  generalize Lib.hasPrefix s.data.toList [45] = neg at *
  generalize Lib.trimPrefix s.data.toList [45] = l at *
  have HTL : Hid (∀ w : World, Calls Tryz.prog 55 #[.string ⟨l.toArray⟩, .string ⟨#[48, 49, 50, 51, 52, 53, 54, 55, 56, 57]⟩] w fun e w' => e = .returned (.string (str (l.dropWhile isD))) ∧ Below w.heap.size w w') := fun w => by
    have := Tryz.strings_TrimLeft ⟨l.toArray⟩ ⟨#[48, 49, 50, 51, 52, 53, 54, 55, 56, 57]⟩ w (by decide) ascii10
    rw [trim_digs] at this
    exact this
  have hdl := digs_len l
  have hDz : (str (digs l)).size = (digs l).length := str_size _
  have hx : (⟨l.toArray⟩ : ByteArray).extract 0 (str (digs l)).size = str (digs l) := by
    rw [ext_str, str_size]
    exact congrArg str (digs_take l)
  have hR : (str (l.dropWhile isD)).size = (l.dropWhile isD).length := str_size _
  have h1 : wrap64 ((l.length : Int) - ((str (l.dropWhile isD)).size : Int)) = ((str (digs l)).size : Int) := by
    rw [hR, hDz, hdl]; unfold wrap64; omega
  have h2 : ((str (digs l)).size : Int) ≤ l.length := by rw [hDz]; omega
  have HRS : Hid (str (l.dropWhile isD) = str (l.drop (digs l).length)) := by show _ = _; rw [digs_drop]
  have hall := digs_all l
  have HX : Hid (scI neg l = if digs l = [] ∨ ((digs l).head? = some 48 ∧ (neg = true ∨ 1 < (digs l).length)) then .bad 3 else if 16 < (digs l).length ∨ 9007199254740991 < numOf (digs l) then .bad 2
      else ⟨1, if neg = true then -(numOf (digs l) : Int) else numOf (digs l), [], l.drop (digs l).length, 0⟩) := rfl
  generalize hDD : str (digs l) = D at *
  have hD0 : D.size ≠ 0 → gN D 0 = ((digs l).getD 0 0).toNat := fun h => by
    rw [← hDD, gN_str _ _ (by rw [← hDz]; omega)]
  have HDD : Hid (str (digs l) = D) := hDD
  have HDz : Hid (D.size = (digs l).length) := hDz
  clear hDD hDz hdl
  generalize str (l.dropWhile isD) = R at *
  clear hR
  by_cases c0 : D.size = 0
  · have he := empty_is D c0
    have HE : Hid (scI neg l = .bad 3) := by
      show _ = _
      rw [HX.out, if_pos (.inl (List.eq_nil_of_length_eq_zero (by have := HDz.out; omega)))]
    clear HX hall hD0 HDD HRS HDz c0
    go_enter Tryz.func34, Tryz.ntmps34
    go_wp2_with fail
    refine (HCP.out _).mono ?_
    rintro e w1 ⟨rfl, rfl⟩
    go_wp2_with fail
    refine (HTL.out _).mono ?_
    rintro e w2 ⟨rfl, hb2⟩
    have HF : Hid (Fr w w2) := Fr.of hb2
    obtain ⟨⟨d0, d1, d2, f0, f1, f2⟩, -⟩ := HF.out
    clear hb2
    go_wp2
    try simp only [Exit.inBlock, Exit.then]
    exact bodyPost_ret (results_v3 rfl _ _ w.heap.size rfl (HF.out.z.three.set _ _ _)) rfl ⟨by rw [HE.out]; rfl, set3_below HF.out.b _ _ _⟩
  have he := empty_not D c0
  have hpos : 0 < D.size := by omega
  have hpos' : (0 : Int) < D.size := by omega
  have hg := gN_of D 0 hpos
  have hg0 := hD0 c0
  have hne : digs l ≠ [] := fun e => c0 (by rw [HDz.out, e]; rfl)
  have hhd := head_getD hne
  have hb0 := hall ((digs l).getD 0 0) (by
    cases e : digs l with
    | nil => exact absurd e hne
    | cons b t => simp)
  have hg48 : (digs l).head? = some 48 ↔ gN D 0 = 48 := by
    rw [hhd, hg0]
    constructor
    · intro h; rw [Option.some.inj h]; rfl
    · intro h; exact congrArg some (UInt8.toNat_inj.1 h)
  have hlt0 := gN_lt D 0
  generalize gN D 0 = g at *
  have HG : Hid ((digs l).head? = some 48 ↔ g = 48) := hg48
  clear hg48 hg0 hD0 hhd hb0
  by_cases cz : g = 48 ∧ (neg = true ∨ 1 < D.size)
  · have HE : Hid (scI neg l = .bad 3) := by
      show _ = _
      rw [HX.out, if_pos (.inr ⟨HG.out.2 cz.1, by rw [← HDz.out]; exact cz.2⟩)]
    obtain ⟨rfl, cz⟩ := cz
    have cc : neg = true ∨ (neg = false ∧ decide ((1 : Int) < D.size) = true) := by
      cases neg
      · exact .inr ⟨rfl, by simp at cz ⊢; omega⟩
      · exact .inl rfl
    clear HX hall HDD HRS HDz c0 HG cz hne
    rcases cc with rfl | ⟨rfl, cc⟩
    all_goals
      go_enter Tryz.func34, Tryz.ntmps34
      go_wp2_with fail
      refine (HCP.out _).mono ?_
      rintro e w1 ⟨rfl, rfl⟩
      go_wp2_with fail
      refine (HTL.out _).mono ?_
      rintro e w2 ⟨rfl, hb2⟩
      have HF : Hid (Fr w w2) := Fr.of hb2
      obtain ⟨⟨d0, d1, d2, f0, f1, f2⟩, -⟩ := HF.out
      clear hb2
      go_wp2
      try simp only [Exit.inBlock, Exit.then]
      exact bodyPost_ret (results_v3 rfl _ _ w.heap.size rfl (HF.out.z.three.set _ _ _)) rfl ⟨by rw [HE.out]; rfl, set3_below HF.out.b _ _ _⟩
  have HNF : Hid (¬ (digs l = [] ∨ ((digs l).head? = some 48 ∧ (neg = true ∨ 1 < (digs l).length)))) := by
    rintro (e | ⟨e, f⟩)
    · exact hne e
    · exact cz ⟨HG.out.1 e, by rw [HDz.out]; exact f⟩
  have cc : ((g : Int) == 48) = false ∨ (g = 48 ∧ neg = false ∧ decide ((1 : Int) < D.size) = false) := by
    by_cases e : g = 48
    · refine .inr ⟨e, ?_, ?_⟩
      · cases hn : neg
        · rfl
        · exact absurd ⟨e, .inl hn⟩ cz
      · simp only [decide_eq_false_iff_not]
        intro h
        exact cz ⟨e, .inr (by omega)⟩
    · exact .inl (by rw [beq_eq_false_iff_ne]; omega)
  have Hcc : Hid (digs l ≠ []) := hne
  clear cz HG hne
  by_cases c16 : 16 < D.size
  · have d16 : decide ((16 : Int) < D.size) = true := by simp; omega
    have HE : Hid (scI neg l = .bad 2) := by
      show _ = _
      rw [HX.out, if_neg HNF.out, if_pos (.inl (by rw [← HDz.out]; exact c16))]
    clear HX hall HDD HRS HDz c0 HNF Hcc
    rcases cc with cc | ⟨rfl, rfl, cc⟩
    all_goals
      go_enter Tryz.func34, Tryz.ntmps34
      go_wp2_with fail
      refine (HCP.out _).mono ?_
      rintro e w1 ⟨rfl, rfl⟩
      go_wp2_with fail
      refine (HTL.out _).mono ?_
      rintro e w2 ⟨rfl, hb2⟩
      have HF : Hid (Fr w w2) := Fr.of hb2
      obtain ⟨⟨d0, d1, d2, f0, f1, f2⟩, -⟩ := HF.out
      clear hb2
      go_wp2
      try simp only [Exit.inBlock, Exit.then]
      exact bodyPost_ret (results_v3 rfl _ _ w.heap.size rfl (HF.out.z.three.set _ _ _)) rfl ⟨by rw [HE.out]; rfl, set3_below HF.out.b _ _ _⟩
  have d16 : decide ((16 : Int) < D.size) = false := by simp; omega
  have HAT : Hid (∀ k, k < D.size → gN D k = ((digs l).getD k 0).toNat ∧ isD ((digs l).getD k 0) = true ∧ numOf ((digs l).take (k + 1)) = 10 * numOf ((digs l).take k) + (((digs l).getD k 0).toNat - 48)) := fun k hk => by
    have hk' : k < (digs l).length := by rw [← HDz.out]; exact hk
    have hgd : (digs l).getD k 0 = (digs l)[k]'hk' := by rw [List.getD_eq_getElem?_getD, List.getElem?_eq_getElem hk']; rfl
    refine ⟨by rw [← HDD.out, gN_str _ _ hk'], ?_, ?_⟩
    · rw [hgd]; exact hall _ (List.getElem_mem hk')
    · rw [← List.take_append_getElem hk', numOf_snoc, hgd]
  have HNT : Hid (∀ k, k ≤ D.size → numOf ((digs l).take k) < 10 ^ 16) := fun k hk => by
    have h3 := numOf_lt ((digs l).take k).length ((digs l).take k) rfl (fun b hb => hall b (List.mem_of_mem_take hb))
    refine Nat.lt_of_lt_of_le h3 (Nat.pow_le_pow_right (by decide) ?_)
    rw [List.length_take]
    omega
  have HLast : Hid (numOf ((digs l).take D.size) = numOf (digs l)) := by
    show _ = _
    rw [HDz.out, List.take_length]
  have HE : Hid (scI neg l = if 9007199254740991 < numOf (digs l) then .bad 2 else ⟨1, if neg = true then -(numOf (digs l) : Int) else numOf (digs l), [], l.drop (digs l).length, 0⟩) := by
    show _ = _
    rw [HX.out, if_neg HNF.out]
    by_cases hM : 9007199254740991 < numOf (digs l)
    · rw [if_pos (.inr hM), if_pos hM]
    · rw [if_neg (fun h => h.elim (fun h => c16 (by rw [HDz.out]; exact h)) hM), if_neg hM]
  clear HX hall HNF Hcc c16 c0
  rcases cc with cc | ⟨rfl, rfl, cc⟩
  all_goals
    go_enter Tryz.func34, Tryz.ntmps34
    go_wp2_with fail
    refine (HCP.out _).mono ?_
    rintro e w1 ⟨rfl, rfl⟩
    go_wp2_with fail
    refine (HTL.out _).mono ?_
    rintro e w2 ⟨rfl, hb2⟩
    have HF : Hid (Fr w w2) := Fr.of hb2
    obtain ⟨⟨d0, d1, d2, f0, f1, f2⟩, -⟩ := HF.out
    clear hb2
    go_wp2_with fail
    go_loop [7, 45] (fun n i => ∃ (k : Nat) (a : Int), k ≤ D.size ∧ i = .int .i64 k ∧ n = .int .i64 a ∧ Hid (a = (numOf ((digs l).take k) : Nat))) (fun _ i => D.size - (intOf i).toNat)
    case atStart => exact ⟨0, 0, Nat.zero_le _, rfl, rfl, rfl⟩
    case round =>
      obtain ⟨k, a, hk, rfl, rfl, HA⟩ := hrel
      have hA := HA.out
      have hN := HNT.out k hk
      have a0 : 0 ≤ a := by omega
      have a1 : a < 10000000000000000 := by omega
      clear hA hN
      by_cases hkn : k < D.size
      · obtain ⟨e1, e2, e3⟩ := HAT.out k hkn
        simp only [isD, decide_eq_true_eq] at e2
        have hi : (k : Int) < D.size := by omega
        have hgk := gN_of D k hkn
        have hg48 : 48 ≤ gN D k := by omega
        have hg57 : gN D k ≤ 57 := by omega
        have HS : Hid (10 * a + ((gN D k : Int) - 48) = (numOf ((digs l).take (k + 1)) : Nat)) := by
          show _ = _
          rw [e3, HA.out, e1]
          omega
        clear e1 e2 e3
        generalize gN D k = y at *
        go_wp2
        refine ⟨⟨k + 1, 10 * a + ((y : Int) - 48), by omega, (by first | rfl | (congr 1; omega)), (by first | rfl | (congr 1; omega)), HS⟩, by simp [intOf]; omega⟩
      · obtain rfl : k = D.size := by omega
        have hAL : a = (numOf (digs l) : Nat) := by rw [HA.out, HLast.out]
        by_cases hM : 9007199254740991 < numOf (digs l)
        · have dM : decide ((9007199254740991 : Int) < a) = true := by simp; omega
          have HE2 : Hid (scI _ l = .bad 2) := HE.out.trans (if_pos hM)
          clear hAL hM HA HE
          go_wp2
          try simp only [Exit.inBlock, Exit.then]
          exact bodyPost_ret (results_v3 rfl _ _ w.heap.size rfl (HF.out.z.three.set _ _ _)) rfl ⟨by rw [HE2.out]; rfl, set3_below HF.out.b _ _ _⟩
        · have dM : decide ((9007199254740991 : Int) < a) = false := by simp; omega
          have hE2 := HE.out.trans (if_neg hM)
          rw [← hAL] at hE2
          have HE2 : Hid (scI _ l = ⟨1, if _ = true then -a else a, [], l.drop (digs l).length, 0⟩) := hE2
          have HV : Hid (R = str (l.drop (digs l).length)) := HRS.out
          have a2 : a ≤ 9007199254740991 := by omega
          clear hAL hM HA HE hE2
          first
            | (cases neg
               all_goals
                 go_wp2
                 try simp only [Exit.inBlock, Exit.then]
                 exact bodyPost_ret (results_v3 rfl _ _ w.heap.size rfl (HF.out.z.three.set _ _ _)) rfl ⟨by rw [HE2.out, HV.out]; rfl, set3_below HF.out.b _ _ _⟩)
            | (go_wp2
               try simp only [Exit.inBlock, Exit.then]
               exact bodyPost_ret (results_v3 rfl _ _ w.heap.size rfl (HF.out.z.three.set _ _ _)) rfl ⟨by rw [HE2.out, HV.out]; rfl, set3_below HF.out.b _ _ _⟩)
end Go.Proofs.YtmfeoiblhjfpjaaGreatDoor
