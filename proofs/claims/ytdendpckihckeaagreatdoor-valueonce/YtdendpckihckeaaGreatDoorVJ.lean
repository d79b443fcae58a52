/- value.scanInt at the examples: walks. -/
import Derived.Test.YtdendpckihckeaaGreatDoorVI
import Derived.Laws.ResultCell
import Derived.Laws.MakeOwn
import Derived.Deep.RegionHeld3
namespace Go.Proofs.YtdendpckihckeaaGreatDoor
open Go.RowKit

theorem results_cell3 {fn : Func} {p u v : Tmp} {ty : TypeId} (h : fn.results = #[.cell p ty, .tmp u, .tmp v]) (tmps : Array Value) (P : Program) (w : World) :
    (results fn tmps).run P w =
      ((asAddr (tmps.getD p undef)).run P w).andThen fun a w₁ => ((loadVar ty a).run P w₁).andThen fun x w₂ => .ok (.tuple #[x, tmps.getD u undef, tmps.getD v undef]) w₂ := by
  simp only [results, h]
  simp [Sem.run_bind, Result.andThen]
abbrev v0 : Value := vv 0 0 ⟨#[]⟩
theorem ascii10 : ∀ (j : Nat) b, (⟨#[48, 49, 50, 51, 52, 53, 54, 55, 56, 57]⟩ : ByteArray).data.toList[j]? = some b → b.toNat < 128 := by
  intro j b h
  have hm : b ∈ [48, 49, 50, 51, 52, 53, 54, 55, 56, 57] := List.mem_of_getElem? h
  simp at hm
  rcases hm with rfl | rfl | rfl | rfl | rfl | rfl | rfl | rfl | rfl | rfl <;> decide
set_option maxRecDepth 100000 in
set_option maxHeartbeats 1000000 in
theorem scanInt_1 (w : World) :
    Calls Tryz.prog 31 #[.string ⟨#[45, 48]⟩] w fun e w' => e = .returned (.tuple #[v0, .string ⟨#[]⟩, .int .i64 3]) ∧ Below w.heap.size w w' := by
  have hb0 : Below w.heap.size w (w.alloc (.cells #[.int .i64 0, .int .i64 0, .string ⟨#[]⟩] 25)) := (Below.refl _ _).alloc (Nat.le_refl _) _
  go_enter Tryz.func31, Tryz.ntmps31
  go_wp2_with fail
  refine (Tryz.strings_CutPrefix _ _ _).mono ?_
  rintro e w1 ⟨rfl, rfl⟩
  rw [show (Lib.trimPrefix (⟨#[45, 48]⟩ : ByteArray).data.toList (⟨#[45]⟩ : ByteArray).data.toList) = [48] from rfl, show Lib.hasPrefix (⟨#[45, 48]⟩ : ByteArray).data.toList (⟨#[45]⟩ : ByteArray).data.toList = true from rfl]
  go_wp2_with fail
  refine (Tryz.strings_TrimLeft _ _ _ (by decide) ascii10).mono ?_
  rintro e w2 ⟨rfl, hb2⟩
  rw [show (Lib.trimLeftS (⟨[48].toArray⟩ : ByteArray).data.toList (⟨#[48, 49, 50, 51, 52, 53, 54, 55, 56, 57]⟩ : ByteArray).data.toList) = [] from by decide +kernel]
  obtain ⟨cc, ff, hb3, hlt⟩ := part_cells0 hb2
  have c0 := cc 0
  have c1 := cc 1
  have c2 := cc 2
  have f0 := ff 0
  have f1 := ff 1
  have f2 := ff 2
  simp at c0 c1 c2
  have hx : (⟨#[48]⟩ : ByteArray).extract 0 1 = ⟨#[48]⟩ := by decide
  clear hb2 cc ff
  go_wp2
  try simp only [Exit.inBlock, Exit.then]
  refine bodyPost_ret (v := .tuple #[v0, .string ⟨#[]⟩, .int .i64 3]) ?_ rfl ⟨rfl, ?_⟩
  · rw [results_cell3 rfl]; go_simp
  · exact ((hb3.setCell (p := ⟨w.heap.size, 0, none⟩) (Nat.le_refl _) _).setCell (p := ⟨w.heap.size, 1, none⟩) (Nat.le_refl _) _).setCell (p := ⟨w.heap.size, 2, none⟩) (Nat.le_refl _) _
set_option maxRecDepth 100000 in
set_option maxHeartbeats 1000000 in
theorem scanInt_2 (w : World) :
    Calls Tryz.prog 31 #[.string ⟨#[48, 48, 55]⟩] w fun e w' => e = .returned (.tuple #[v0, .string ⟨#[]⟩, .int .i64 3]) ∧ Below w.heap.size w w' := by
  have hb0 : Below w.heap.size w (w.alloc (.cells #[.int .i64 0, .int .i64 0, .string ⟨#[]⟩] 25)) := (Below.refl _ _).alloc (Nat.le_refl _) _
  go_enter Tryz.func31, Tryz.ntmps31
  go_wp2_with fail
  refine (Tryz.strings_CutPrefix _ _ _).mono ?_
  rintro e w1 ⟨rfl, rfl⟩
  rw [show (Lib.trimPrefix (⟨#[48, 48, 55]⟩ : ByteArray).data.toList (⟨#[45]⟩ : ByteArray).data.toList) = [48, 48, 55] from rfl, show Lib.hasPrefix (⟨#[48, 48, 55]⟩ : ByteArray).data.toList (⟨#[45]⟩ : ByteArray).data.toList = false from rfl]
  go_wp2_with fail
  refine (Tryz.strings_TrimLeft _ _ _ (by decide) ascii10).mono ?_
  rintro e w2 ⟨rfl, hb2⟩
  rw [show (Lib.trimLeftS (⟨[48, 48, 55].toArray⟩ : ByteArray).data.toList (⟨#[48, 49, 50, 51, 52, 53, 54, 55, 56, 57]⟩ : ByteArray).data.toList) = [] from by decide +kernel]
  obtain ⟨cc, ff, hb3, hlt⟩ := part_cells0 hb2
  have c0 := cc 0
  have c1 := cc 1
  have c2 := cc 2
  have f0 := ff 0
  have f1 := ff 1
  have f2 := ff 2
  simp at c0 c1 c2
  have hx : (⟨#[48, 48, 55]⟩ : ByteArray).extract 0 3 = ⟨#[48, 48, 55]⟩ := by decide
  clear hb2 cc ff
  go_wp2
  try simp only [Exit.inBlock, Exit.then]
  refine bodyPost_ret (v := .tuple #[v0, .string ⟨#[]⟩, .int .i64 3]) ?_ rfl ⟨rfl, ?_⟩
  · rw [results_cell3 rfl]; go_simp
  · exact ((hb3.setCell (p := ⟨w.heap.size, 0, none⟩) (Nat.le_refl _) _).setCell (p := ⟨w.heap.size, 1, none⟩) (Nat.le_refl _) _).setCell (p := ⟨w.heap.size, 2, none⟩) (Nat.le_refl _) _

theorem ix0 : Lib.indexByte (⟨#[48, 49, 50, 51, 52, 53, 54, 55, 56, 57, 97, 98, 99, 100, 101, 102]⟩ : ByteArray).data.toList (Int.toNat 48).toUInt8 = 0 := by decide +kernel
theorem ix15 : Lib.indexByte (⟨#[48, 49, 50, 51, 52, 53, 54, 55, 56, 57, 97, 98, 99, 100, 101, 102]⟩ : ByteArray).data.toList (Int.toNat 102).toUInt8 = 15 := by decide +kernel
abbrev HX : ByteArray := ⟨#[48, 49, 50, 51, 52, 53, 54, 55, 56, 57, 97, 98, 99, 100, 101, 102]⟩
theorem idx0 (c : Int) (w : World) (hc : c = 48) : Calls Tryz.prog 60 #[.string HX, .int .u8 c] w fun e w' => e = .returned (.int .i64 0) ∧ w' = w := by
  subst hc
  have := Tryz.strings_IndexByte HX 48 w
  rw [ix0] at this
  exact this
theorem idx15 (c : Int) (w : World) (hc : c = 102) : Calls Tryz.prog 60 #[.string HX, .int .u8 c] w fun e w' => e = .returned (.int .i64 15) ∧ w' = w := by
  subst hc
  have := Tryz.strings_IndexByte HX 102 w
  rw [ix15] at this
  exact this
theorem cut1 : Lib.cut (⟨#[48, 48, 102, 102, 39]⟩ : ByteArray).data.toList (⟨#[39]⟩ : ByteArray).data.toList = ([48, 48, 102, 102], [], true) := by decide +kernel
def ML (w : World) : Prop := ∃ m, w.cell? ⟨2, 0, none⟩ = some (.int .i64 m)
theorem ML_below {w w' : World} (h : ML w) (hb : Below w.heap.size w w') : ML w' := by
  obtain ⟨m, hm⟩ := h
  exact ⟨m, (hb.cell (p := ⟨2, 0, none⟩) (World.block_lt_of_cell? _ _ hm)).trans hm⟩
def sbB (k : Nat) : Int := if k < 2 then 0 else 255
/-- What holds of scanBytes' loop at every round, at the example. -/
def SbRel (b g : Nat) (w0 : World) (i : Value) (wr : World) : Prop :=
  ∃ k : Nat, k ≤ 2 ∧ i = .int .i64 k ∧ wr.cell? ⟨g, 0, none⟩ = some (.int .u8 0) ∧ wr.cell? ⟨g, 1, none⟩ = some (.int .u8 (sbB k)) ∧ wr.frozen? ⟨g, 0, none⟩ = false ∧ wr.frozen? ⟨g, 1, none⟩ = false ∧ (wr.cell? ⟨b, 0, none⟩ = some (.int .i64 0) ∧ wr.cell? ⟨b, 1, none⟩ = some (.int .i64 0) ∧ wr.cell? ⟨b, 2, none⟩ = some (.string ⟨#[]⟩)) ∧ (wr.frozen? ⟨b, 0, none⟩ = false ∧ wr.frozen? ⟨b, 1, none⟩ = false ∧ wr.frozen? ⟨b, 2, none⟩ = false) ∧ Below b w0 wr
theorem mk2 (W : World) : (Instr.makeSlice 85 (.int .i64 2) (.int .i64 2)).run Tryz.prog W = .ok (.slice (some ⟨W.heap.size, 0, none⟩) 2 2) (W.alloc (.cells #[.int .u8 0, .int .u8 0] 5)) := by
  obtain ⟨i0, hi, hz0, hz1, hz2⟩ := info_parts info_u8
  have := run_makeSlice (P := Tryz.prog) W 85 5 i0 _ Tryz.underlying85 hi hz0 .i64 .i64 2 2 (by decide) (by decide) (by rw [hz1]; decide) (by rw [hz2]; decide) (by decide)
  rw [hz1] at this
  have e : madeCells (Value.int .u8 0).cells (Int.toNat 2 * 1) = #[.int .u8 0, .int .u8 0] := by
    simp [madeCells, Value.cells, Array.range]
    rfl
  rw [e] at this
  exact this
theorem Sb_step {b g : Nat} {w0 wr : World} {k : Nat} (h : SbRel b g w0 (.int .i64 (k : Int)) wr) (hbg : b < g) (hk : k < 2) (x : Int) (hx : x = if k = 0 then 0 else 255) :
    SbRel b g w0 (.int .i64 ((k + 1 : Nat) : Int)) (wr.setCell ⟨g, k, none⟩ (.int .u8 x)).drew := by
  obtain ⟨k', hk', he, d0, d1, e0, e1, ⟨c0, c1, c2⟩, ⟨f0, f1, f2⟩, hb⟩ := h
  obtain rfl : k' = k := by simp at he; omega
  have o : ∀ j i, (⟨g, i, none⟩ : Addr) ≠ ⟨b, j, none⟩ := fun j i e => by have h1 : g = b := congrArg Addr.block e; omega
  refine ⟨k' + 1, by omega, rfl, ?_, ?_, ?_, ?_, ⟨?_, ?_, ?_⟩, ⟨?_, ?_, ?_⟩, (hb.setCell (p := ⟨g, k', none⟩) (Nat.le_of_lt hbg) _).drew⟩
  · rw [World.cell?_drew]
    by_cases h0 : k' = 0
    · subst h0
      rw [World.cell?_setCell_same _ _ _ d0, hx]
      rfl
    · rw [World.cell?_setCell_other _ _ _ _ (fun e => h0 (by have h1 : k' = 0 := congrArg Addr.off e; omega))]
      exact d0
  · rw [World.cell?_drew]
    by_cases h0 : k' = 0
    · subst h0
      rw [World.cell?_setCell_other _ _ _ _ (by simp)]
      exact d1
    · obtain rfl : k' = 1 := by omega
      rw [World.cell?_setCell_same _ _ _ d1, hx]
      rfl
  · simpa using e0
  · simpa using e1
  · rw [World.cell?_drew, World.cell?_setCell_other _ _ _ _ (o 0 k')]; exact c0
  · rw [World.cell?_drew, World.cell?_setCell_other _ _ _ _ (o 1 k')]; exact c1
  · rw [World.cell?_drew, World.cell?_setCell_other _ _ _ _ (o 2 k')]; exact c2
  · simpa using f0
  · simpa using f1
  · simpa using f2
theorem conv2 (w : World) (g : Nat) (h0 : w.cell? ⟨g, 0, none⟩ = some (.int .u8 0)) (h1 : w.cell? ⟨g, 1, none⟩ = some (.int .u8 255)) : (convert 85 9 (.slice (some ⟨g, 0, none⟩) 2 2)).run Tryz.prog w = .ok (.string (strOfNums [0, 255])) w :=
  run_convert_bytes_arg (P := Tryz.prog) w 85 5 Tryz.underlying85 Tryz.underlying5 g 0 2 2 [0, 255] rfl (fun i hi => by
    match i, hi with
    | 0, _ => simpa using h0
    | 1, _ => simpa using h1) 9 Tryz.underlying9
set_option maxRecDepth 100000 in
set_option maxHeartbeats 2000000 in
theorem scanBytes_1 (w : World) (hM : ML w) :
    Calls Tryz.prog 29 #[.string ⟨#[48, 48, 102, 102, 39]⟩] w fun e w' => e = .returned (.tuple #[vv 4 0 ⟨#[0, 255]⟩, .string ⟨#[]⟩, .int .i64 0]) ∧ Below w.heap.size w w' := by
  have hb0 : Below w.heap.size w (w.alloc (.cells #[.int .i64 0, .int .i64 0, .string ⟨#[]⟩] 25)) := (Below.refl _ _).alloc (Nat.le_refl _) _
  obtain ⟨m, hm⟩ := ML_below hM hb0
  go_enter Tryz.func29, Tryz.ntmps29
  go_wp2_with fail
  refine (Tryz.strings_Cut _ _ m _ (by decide) hm).mono ?_
  rintro e w1 ⟨rfl, n, hw1⟩
  rw [cut1]
  obtain ⟨cc, ff, hb1, hlt⟩ := part_cells0 (w := w) (C := #[.int .i64 0, .int .i64 0, .string ⟨#[]⟩]) (t := 25) (w1 := w1) (by rw [hw1]; exact ⟨rfl, rfl, rfl, Nat.le_refl _, fun _ _ => rfl⟩)
  clear hw1 hm hb0
  go_wp2
  rw [mk2]
  have hA := (Below.refl w1.heap.size w1).alloc (Nat.le_refl _) (.cells #[.int .u8 0, .int .u8 0] 5)
  have hne : w.heap.size ≠ w1.heap.size := by omega
  go_wp2
  go_loopw [3, 32] (fun r i wr => r = .string ⟨#[]⟩ ∧ SbRel w.heap.size w1.heap.size w i wr) (fun _ i _ => 2 - (RowKit.intOf i).toNat)
  case atStart =>
    refine ⟨rfl, 0, by decide, rfl, by simp, by simp [sbB], by simp, by simp, ⟨?_, ?_, ?_⟩, ⟨?_, ?_, ?_⟩, hb1.alloc (by omega) _⟩
    · exact (hA.cell (p := ⟨w.heap.size, 0, none⟩) hlt).trans (cc 0)
    · exact (hA.cell (p := ⟨w.heap.size, 1, none⟩) hlt).trans (cc 1)
    · exact (hA.cell (p := ⟨w.heap.size, 2, none⟩) hlt).trans (cc 2)
    · exact (hA.frozen (p := ⟨w.heap.size, 0, none⟩) hlt).trans (ff 0)
    · exact (hA.frozen (p := ⟨w.heap.size, 1, none⟩) hlt).trans (ff 1)
    · exact (hA.frozen (p := ⟨w.heap.size, 2, none⟩) hlt).trans (ff 2)
  case round =>
    have HREL : Hid (SbRel w.heap.size w1.heap.size w u32 wr) := hrel.2
    obtain ⟨rfl, k, hk, rfl, d0, d1, e0, e1, ⟨c0, c1, c2⟩, ⟨f0, f1, f2⟩, hb⟩ := hrel
    have hk3 : k = 0 ∨ k = 1 ∨ k = 2 := by omega
    rcases hk3 with rfl | rfl | rfl
    · go_wp2
      go_region_held3 (fun w' => True) (trivial) (first | (go_at_call 60; refine (idx0 _ _ ?_).mono ?_; rfl; rintro e w' ⟨rfl, rfl⟩) | (go_at_call 60; refine (idx15 _ _ ?_).mono ?_; rfl; rintro e w' ⟨rfl, rfl⟩))
      all_goals go_wp2
      all_goals exact ⟨⟨rfl, Sb_step (k := 0) HREL.out hlt (by decide) _ (by decide +kernel)⟩, by decide⟩
    · go_wp2
      go_region_held3 (fun w' => True) (trivial) (first | (go_at_call 60; refine (idx0 _ _ ?_).mono ?_; rfl; rintro e w' ⟨rfl, rfl⟩) | (go_at_call 60; refine (idx15 _ _ ?_).mono ?_; rfl; rintro e w' ⟨rfl, rfl⟩))
      all_goals go_wp2
      all_goals exact ⟨⟨rfl, Sb_step (k := 1) HREL.out hlt (by decide) _ (by decide +kernel)⟩, by decide⟩
    · have d1' : wr.cell? ⟨w1.heap.size, 1, none⟩ = some (.int .u8 255) := d1
      have hcv := conv2 wr w1.heap.size d0 d1'
      have hst : strOfNums [0, 255] = ⟨#[0, 255]⟩ := rfl
      rw [hst] at hcv
      go_wp2
      try simp only [Exit.inBlock, Exit.then]
      refine bodyPost_ret (v := .tuple #[vv 4 0 ⟨#[0, 255]⟩, .string ⟨#[]⟩, .int .i64 0]) ?_ rfl ⟨rfl, ?_⟩
      · rw [results_cell3 rfl]; go_simp
      · exact ((hb.setCell (p := ⟨w.heap.size, 0, none⟩) (Nat.le_refl _) _).setCell (p := ⟨w.heap.size, 1, none⟩) (Nat.le_refl _) _).setCell (p := ⟨w.heap.size, 2, none⟩) (Nat.le_refl _) _
end Go.Proofs.YtdendpckihckeaaGreatDoor
