/- strings.Builder's WriteRune of any rune: its walk. -/
import Derived.Test.YtdendpckihckeaaGreatDoorZb2
import Derived.Test.YtdendpckihckeaaGreatDoorZb3
import Derived.Test.YtdendpckihckeaaGreatDoorZb4
import Derived.Laws.ResultCell
import Derived.Laws.MakeOwn
import Derived.Deep.RegionHeld3
namespace Go.Proofs.YtdendpckihckeaaGreatDoor
open Go.RowKit

theorem encRune_is {c : Nat} (hs : scal c) : Lib.encodeRune (c : Int) = enc c := by
  by_cases h1 : c < 128
  · rw [enc1 h1, Lib.encodeRune, Lib.encodeRuneZ_one (by omega) (by omega)]; simp
  by_cases h2 : c < 2048
  · rw [enc2 (by omega) h2, Lib.encodeRune, Lib.encodeRuneZ_two (by omega) (by omega)]
    simp only [List.map_cons, List.map_nil]
    congr 1
  by_cases h3 : c < 65536
  · rw [enc3 (by omega) h3 hs, Lib.encodeRune, Lib.encodeRuneZ_three (by unfold scal at hs; omega)]
    simp only [List.map_cons, List.map_nil]
    congr 1
  · rw [enc4 (by omega) hs, Lib.encodeRune, Lib.encodeRuneZ_four (by omega) (by unfold scal at hs; omega)]
    simp only [List.map_cons, List.map_nil]
    congr 1
theorem cells_rune {c : Nat} (hs : scal c) : Lib.runeCells (c : Int) = Lib.byteCells (enc c) := by rw [← Lib.byteCells_encodeRune, encRune_is hs]
theorem appendRune_any (B : Nat) (v : Value) (n : Nat) (xs : List Value) (c : Nat) (w : World) (hs : scal c) (hown : w.ownsRowF B 5 1 v n xs) (hlen : n + 4 ≤ 140737488355328) (hBw : B ≤ w.heap.size) :
    Calls Tryz.prog 89 #[v, .int .i32 (c : Int)] w fun e w' => ArPost B (xs ++ Lib.byteCells (enc c)) w e w' := by
  have hc : c ≤ 1114111 := by unfold scal at hs; omega
  have hxl : xs.length = n := by have := hown.1; omega
  refine (Tryz.utf8_AppendRune_row B v n xs c (by omega) (by omega) w hown hlen hBw).mono ?_
  rintro e w' ⟨v', rfl, ho, o, hg⟩
  rw [cells_rune hs] at ho
  refine ⟨v', rfl, ?_, ((Below.refl _ _).alloc hBw _).grown hg (by simp; omega) (fun k hk => (hown.lt k hk).1), ((Lib.OthersKept.refl _ _ _).alloc _).grown hg (fun g hg' => by obtain ⟨c, fz, h⟩ := rowF_cells hown g hg'; exact ⟨c, fz, by rw [Lib.alloc_old w _ g (Array.getElem?_eq_some_iff.1 h).1]; exact h⟩)⟩
  rw [List.length_append, hxl]
  exact ho
set_option maxRecDepth 100000 in
set_option maxHeartbeats 2000000 in
theorem writeRune_any (B b : Nat) (bs : List Value) (c : Nat) (w : World) (hsc : scal c) (h : IsB B b bs w) (hlen : bs.length + 4 ≤ 140737488355328) (hBw : B ≤ w.heap.size) :
    Calls Tryz.prog 56 #[.pointer (some ⟨b, 0, none⟩), .int .i32 (c : Int)] w fun e w' => e = .returned (.tuple #[.int .i64 (enc c).length, .nilIface]) ∧ IsB B b (bs ++ Lib.byteCells (enc c)) w' ∧ Below B w w' ∧ Lib.OthersKept 5 (some b) w w' := by
  have HA : Hid (∀ v W, W.ownsRowF B 5 1 v bs.length bs → B ≤ W.heap.size → Calls Tryz.prog 89 #[v, .int .i32 (c : Int)] W fun e w' => ArPost B (bs ++ Lib.byteCells (enc c)) W e w') := fun v W ho hB => appendRune_any B v bs.length bs c W hsc ho hlen hB
  have hel := enc_len4 c
  have hel1 := enc_len c
  have hll : (bs ++ Lib.byteCells (enc c)).length = bs.length + (enc c).length := by rw [List.length_append, Lib.byteCells_length]
  generalize hX : Lib.byteCells (enc c) = X at *
  generalize hm : (enc c).length = m at *
  clear hX hm
  go_enter Tryz.func56, Tryz.ntmps56
  go_wp2_with (go_at_call 88; refine (copyCheck_any B b bs _ h).mono ?_)
  rintro e w1 ⟨rfl, h1, hb1, ok1⟩
  obtain ⟨hB, v, hbk, hown, hne⟩ := h1
  have c0 : w1.cell? ⟨b, 0, none⟩ = some (.pointer (some ⟨b, 0, none⟩)) := by rw [Lib.cell_of_heap hbk]; rfl
  have c1 : w1.cell? ⟨b, 1, none⟩ = some v := by rw [Lib.cell_of_heap hbk]; rfl
  obtain ⟨ao, cap, rfl⟩ : ∃ ao cap, v = .slice ao bs.length cap := by
    rcases hown.2 with ⟨hv, h0⟩ | ⟨g, cap, cur, fz, hv, _⟩
    · exact ⟨none, 0, by rw [h0]; exact hv⟩
    · exact ⟨_, _, hv⟩
  have hs1 := hb1.size
  go_wp2_with fail
  refine (HA.out _ _ hown (by omega)).mono ?_
  rintro e w2 ⟨v', rfl, hown', hb2, ok2⟩
  rw [hll] at hown'
  have hb2k : w2.heap[b]? = some (.cells #[.pointer (some ⟨b, 0, none⟩), .slice ao bs.length cap] 87 (0, 0)) := ok2 b _ hbk (by simp) (fun c fz e => by cases e)
  have d0 : w2.cell? ⟨b, 0, none⟩ = some (.pointer (some ⟨b, 0, none⟩)) := by rw [Lib.cell_of_heap hb2k]; rfl
  have d1 : w2.cell? ⟨b, 1, none⟩ = some (.slice ao bs.length cap) := by rw [Lib.cell_of_heap hb2k]; rfl
  have f1 : w2.frozen? ⟨b, 1, none⟩ = false := Lib.frozen_of_heap hb2k 1
  obtain ⟨g, cap', rfl⟩ : ∃ g cap', v' = .slice (some ⟨g, 0, none⟩) (bs.length + m) cap' := by
    rcases hown'.2 with ⟨_, h0⟩ | ⟨g, cap, cur, fz, hv, _⟩
    · omega
    · exact ⟨g, cap, hv⟩
  have HR : Hid (IsB B b (bs ++ X) (w2.setCell ⟨b, 1, none⟩ (.slice (some ⟨g, 0, none⟩) (bs.length + m) cap')) ∧ Below B w (w2.setCell ⟨b, 1, none⟩ (.slice (some ⟨g, 0, none⟩) (bs.length + m) cap')) ∧ Lib.OthersKept 5 (some b) w (w2.setCell ⟨b, 1, none⟩ (.slice (some ⟨g, 0, none⟩) (bs.length + m) cap'))) := by
    refine ⟨.inr (Lib.BuilderAtF.put (T := 87) (e := 5) hB hb2k (by rw [hll]; exact hown') (by decide)), (hb1.trans hb2).setCell (p := ⟨b, 1, none⟩) hB _, Lib.OthersKept.setCell (b := b) (ok1.trans (fun k o hk _ ho => ok2 k o hk (by simp) ho)) ⟨b, 1, none⟩ rfl _⟩
  clear hown' hown hb2 ok2 hbk hne HA hll
  go_wp2
  go_ret2
  refine ⟨by simp; omega, HR.out.1, HR.out.2.1, HR.out.2.2⟩
end Go.Proofs.YtdendpckihckeaaGreatDoor
/- value.scanInt at the examples: walks. -/
namespace Go.Proofs.YtdendpckihckeaaGreatDoor
open Go.RowKit

theorem results_cell3 {fn : Func} {p u v : Tmp} {ty : TypeId} (h : fn.results = #[.cell p ty, .tmp u, .tmp v]) (tmps : Array Value) (P : Program) (w : World) :
    (results fn tmps).run P w =
      ((asAddr (tmps.getD p undef)).run P w).andThen fun a w₁ => ((loadVar ty a).run P w₁).andThen fun x w₂ => .ok (.tuple #[x, tmps.getD u undef, tmps.getD v undef]) w₂ := by
  simp only [results, h]
  simp [Sem.run_bind, Result.andThen]
abbrev v0 : Value := vv 0 0 ⟨#[]⟩
theorem ascii10 : ∀ (j : Nat) b, (⟨#[48, 49, 50, 51, 52, 53, 54, 55, 56, 57]⟩ : ByteArray).data.toList[j]? = some b → b.toNat < 128 := by
  intro j b h
  have hm : b ∈ [48, 49, 50, 51, 52, 53, 54, 55, 56, 57] := List.mem_of_getElem? h
  simp at hm
  rcases hm with rfl | rfl | rfl | rfl | rfl | rfl | rfl | rfl | rfl | rfl <;> decide
set_option maxRecDepth 100000 in
set_option maxHeartbeats 1000000 in
theorem scanInt_1 (w : World) :
    Calls Tryz.prog 31 #[.string ⟨#[45, 48]⟩] w fun e w' => e = .returned (.tuple #[v0, .string ⟨#[]⟩, .int .i64 3]) ∧ Below w.heap.size w w' := by
  have hb0 : Below w.heap.size w (w.alloc (.cells #[.int .i64 0, .int .i64 0, .string ⟨#[]⟩] 25)) := (Below.refl _ _).alloc (Nat.le_refl _) _
  go_enter Tryz.func31, Tryz.ntmps31
  go_wp2_with fail
  refine (Tryz.strings_CutPrefix _ _ _).mono ?_
  rintro e w1 ⟨rfl, rfl⟩
  rw [show (Lib.trimPrefix (⟨#[45, 48]⟩ : ByteArray).data.toList (⟨#[45]⟩ : ByteArray).data.toList) = [48] from rfl, show Lib.hasPrefix (⟨#[45, 48]⟩ : ByteArray).data.toList (⟨#[45]⟩ : ByteArray).data.toList = true from rfl]
  go_wp2_with fail
  refine (Tryz.strings_TrimLeft _ _ _ (by decide) ascii10).mono ?_
  rintro e w2 ⟨rfl, hb2⟩
  rw [show (Lib.trimLeftS (⟨[48].toArray⟩ : ByteArray).data.toList (⟨#[48, 49, 50, 51, 52, 53, 54, 55, 56, 57]⟩ : ByteArray).data.toList) = [] from by decide +kernel]
  obtain ⟨cc, ff, hb3, hlt⟩ := part_cells0 hb2
  have c0 := cc 0
  have c1 := cc 1
  have c2 := cc 2
  have f0 := ff 0
  have f1 := ff 1
  have f2 := ff 2
  simp at c0 c1 c2
  have hx : (⟨#[48]⟩ : ByteArray).extract 0 1 = ⟨#[48]⟩ := by decide
  clear hb2 cc ff
  go_wp2
  try simp only [Exit.inBlock, Exit.then]
  refine bodyPost_ret (v := .tuple #[v0, .string ⟨#[]⟩, .int .i64 3]) ?_ rfl ⟨rfl, ?_⟩
  · rw [results_cell3 rfl]; go_simp
  · exact ((hb3.setCell (p := ⟨w.heap.size, 0, none⟩) (Nat.le_refl _) _).setCell (p := ⟨w.heap.size, 1, none⟩) (Nat.le_refl _) _).setCell (p := ⟨w.heap.size, 2, none⟩) (Nat.le_refl _) _
set_option maxRecDepth 100000 in
set_option maxHeartbeats 1000000 in
theorem scanInt_2 (w : World) :
    Calls Tryz.prog 31 #[.string ⟨#[48, 48, 55]⟩] w fun e w' => e = .returned (.tuple #[v0, .string ⟨#[]⟩, .int .i64 3]) ∧ Below w.heap.size w w' := by
  have hb0 : Below w.heap.size w (w.alloc (.cells #[.int .i64 0, .int .i64 0, .string ⟨#[]⟩] 25)) := (Below.refl _ _).alloc (Nat.le_refl _) _
  go_enter Tryz.func31, Tryz.ntmps31
  go_wp2_with fail
  refine (Tryz.strings_CutPrefix _ _ _).mono ?_
  rintro e w1 ⟨rfl, rfl⟩
  rw [show (Lib.trimPrefix (⟨#[48, 48, 55]⟩ : ByteArray).data.toList (⟨#[45]⟩ : ByteArray).data.toList) = [48, 48, 55] from rfl, show Lib.hasPrefix (⟨#[48, 48, 55]⟩ : ByteArray).data.toList (⟨#[45]⟩ : ByteArray).data.toList = false from rfl]
  go_wp2_with fail
  refine (Tryz.strings_TrimLeft _ _ _ (by decide) ascii10).mono ?_
  rintro e w2 ⟨rfl, hb2⟩
  rw [show (Lib.trimLeftS (⟨[48, 48, 55].toArray⟩ : ByteArray).data.toList (⟨#[48, 49, 50, 51, 52, 53, 54, 55, 56, 57]⟩ : ByteArray).data.toList) = [] from by decide +kernel]
  obtain ⟨cc, ff, hb3, hlt⟩ := part_cells0 hb2
  have c0 := cc 0
  have c1 := cc 1
  have c2 := cc 2
  have f0 := ff 0
  have f1 := ff 1
  have f2 := ff 2
  simp at c0 c1 c2
  have hx : (⟨#[48, 48, 55]⟩ : ByteArray).extract 0 3 = ⟨#[48, 48, 55]⟩ := by decide
  clear hb2 cc ff
  go_wp2
  try simp only [Exit.inBlock, Exit.then]
  refine bodyPost_ret (v := .tuple #[v0, .string ⟨#[]⟩, .int .i64 3]) ?_ rfl ⟨rfl, ?_⟩
  · rw [results_cell3 rfl]; go_simp
  · exact ((hb3.setCell (p := ⟨w.heap.size, 0, none⟩) (Nat.le_refl _) _).setCell (p := ⟨w.heap.size, 1, none⟩) (Nat.le_refl _) _).setCell (p := ⟨w.heap.size, 2, none⟩) (Nat.le_refl _) _

theorem ix0 : Lib.indexByte (⟨#[48, 49, 50, 51, 52, 53, 54, 55, 56, 57, 97, 98, 99, 100, 101, 102]⟩ : ByteArray).data.toList (Int.toNat 48).toUInt8 = 0 := by decide +kernel
theorem ix15 : Lib.indexByte (⟨#[48, 49, 50, 51, 52, 53, 54, 55, 56, 57, 97, 98, 99, 100, 101, 102]⟩ : ByteArray).data.toList (Int.toNat 102).toUInt8 = 15 := by decide +kernel
abbrev HX : ByteArray := ⟨#[48, 49, 50, 51, 52, 53, 54, 55, 56, 57, 97, 98, 99, 100, 101, 102]⟩
theorem idx0 (c : Int) (w : World) (hc : c = 48) : Calls Tryz.prog 60 #[.string HX, .int .u8 c] w fun e w' => e = .returned (.int .i64 0) ∧ w' = w := by
  subst hc
  have := Tryz.strings_IndexByte HX 48 w
  rw [ix0] at this
  exact this
theorem idx15 (c : Int) (w : World) (hc : c = 102) : Calls Tryz.prog 60 #[.string HX, .int .u8 c] w fun e w' => e = .returned (.int .i64 15) ∧ w' = w := by
  subst hc
  have := Tryz.strings_IndexByte HX 102 w
  rw [ix15] at this
  exact this
theorem cut1 : Lib.cut (⟨#[48, 48, 102, 102, 39]⟩ : ByteArray).data.toList (⟨#[39]⟩ : ByteArray).data.toList = ([48, 48, 102, 102], [], true) := by decide +kernel
def ML (w : World) : Prop := ∃ m, w.cell? ⟨2, 0, none⟩ = some (.int .i64 m)
theorem ML_below {w w' : World} (h : ML w) (hb : Below w.heap.size w w') : ML w' := by
  obtain ⟨m, hm⟩ := h
  exact ⟨m, (hb.cell (p := ⟨2, 0, none⟩) (World.block_lt_of_cell? _ _ hm)).trans hm⟩
def sbB (k : Nat) : Int := if k < 2 then 0 else 255
/-- What holds of scanBytes' loop at every round, at the example. -/
def SbRel (b g : Nat) (w0 : World) (i : Value) (wr : World) : Prop :=
  ∃ k : Nat, k ≤ 2 ∧ i = .int .i64 k ∧ wr.cell? ⟨g, 0, none⟩ = some (.int .u8 0) ∧ wr.cell? ⟨g, 1, none⟩ = some (.int .u8 (sbB k)) ∧ wr.frozen? ⟨g, 0, none⟩ = false ∧ wr.frozen? ⟨g, 1, none⟩ = false ∧ (wr.cell? ⟨b, 0, none⟩ = some (.int .i64 0) ∧ wr.cell? ⟨b, 1, none⟩ = some (.int .i64 0) ∧ wr.cell? ⟨b, 2, none⟩ = some (.string ⟨#[]⟩)) ∧ (wr.frozen? ⟨b, 0, none⟩ = false ∧ wr.frozen? ⟨b, 1, none⟩ = false ∧ wr.frozen? ⟨b, 2, none⟩ = false) ∧ Below b w0 wr
theorem mk2 (W : World) : (Instr.makeSlice 85 (.int .i64 2) (.int .i64 2)).run Tryz.prog W = .ok (.slice (some ⟨W.heap.size, 0, none⟩) 2 2) (W.alloc (.cells #[.int .u8 0, .int .u8 0] 5)) := by
  obtain ⟨i0, hi, hz0, hz1, hz2⟩ := info_parts info_u8
  have := run_makeSlice (P := Tryz.prog) W 85 5 i0 _ Tryz.underlying85 hi hz0 .i64 .i64 2 2 (by decide) (by decide) (by rw [hz1]; decide) (by rw [hz2]; decide) (by decide)
  rw [hz1] at this
  have e : madeCells (Value.int .u8 0).cells (Int.toNat 2 * 1) = #[.int .u8 0, .int .u8 0] := by
    simp [madeCells, Value.cells, Array.range]
    rfl
  rw [e] at this
  exact this
theorem Sb_step {b g : Nat} {w0 wr : World} {k : Nat} (h : SbRel b g w0 (.int .i64 (k : Int)) wr) (hbg : b < g) (hk : k < 2) (x : Int) (hx : x = if k = 0 then 0 else 255) :
    SbRel b g w0 (.int .i64 ((k + 1 : Nat) : Int)) (wr.setCell ⟨g, k, none⟩ (.int .u8 x)).drew := by
  obtain ⟨k', hk', he, d0, d1, e0, e1, ⟨c0, c1, c2⟩, ⟨f0, f1, f2⟩, hb⟩ := h
  obtain rfl : k' = k := by simp at he; omega
  have o : ∀ j i, (⟨g, i, none⟩ : Addr) ≠ ⟨b, j, none⟩ := fun j i e => by have h1 : g = b := congrArg Addr.block e; omega
  refine ⟨k' + 1, by omega, rfl, ?_, ?_, ?_, ?_, ⟨?_, ?_, ?_⟩, ⟨?_, ?_, ?_⟩, (hb.setCell (p := ⟨g, k', none⟩) (Nat.le_of_lt hbg) _).drew⟩
  · rw [World.cell?_drew]
    by_cases h0 : k' = 0
    · subst h0
      rw [World.cell?_setCell_same _ _ _ d0, hx]
      rfl
    · rw [World.cell?_setCell_other _ _ _ _ (fun e => h0 (by have h1 : k' = 0 := congrArg Addr.off e; omega))]
      exact d0
  · rw [World.cell?_drew]
    by_cases h0 : k' = 0
    · subst h0
      rw [World.cell?_setCell_other _ _ _ _ (by simp)]
      exact d1
    · obtain rfl : k' = 1 := by omega
      rw [World.cell?_setCell_same _ _ _ d1, hx]
      rfl
  · simpa using e0
  · simpa using e1
  · rw [World.cell?_drew, World.cell?_setCell_other _ _ _ _ (o 0 k')]; exact c0
  · rw [World.cell?_drew, World.cell?_setCell_other _ _ _ _ (o 1 k')]; exact c1
  · rw [World.cell?_drew, World.cell?_setCell_other _ _ _ _ (o 2 k')]; exact c2
  · simpa using f0
  · simpa using f1
  · simpa using f2
theorem conv2 (w : World) (g : Nat) (h0 : w.cell? ⟨g, 0, none⟩ = some (.int .u8 0)) (h1 : w.cell? ⟨g, 1, none⟩ = some (.int .u8 255)) : (convert 85 9 (.slice (some ⟨g, 0, none⟩) 2 2)).run Tryz.prog w = .ok (.string (strOfNums [0, 255])) w :=
  run_convert_bytes_arg (P := Tryz.prog) w 85 5 Tryz.underlying85 Tryz.underlying5 g 0 2 2 [0, 255] rfl (fun i hi => by
    match i, hi with
    | 0, _ => simpa using h0
    | 1, _ => simpa using h1) 9 Tryz.underlying9
set_option maxRecDepth 100000 in
set_option maxHeartbeats 2000000 in
theorem scanBytes_1 (w : World) (hM : ML w) :
    Calls Tryz.prog 29 #[.string ⟨#[48, 48, 102, 102, 39]⟩] w fun e w' => e = .returned (.tuple #[vv 4 0 ⟨#[0, 255]⟩, .string ⟨#[]⟩, .int .i64 0]) ∧ Below w.heap.size w w' := by
  have hb0 : Below w.heap.size w (w.alloc (.cells #[.int .i64 0, .int .i64 0, .string ⟨#[]⟩] 25)) := (Below.refl _ _).alloc (Nat.le_refl _) _
  obtain ⟨m, hm⟩ := ML_below hM hb0
  go_enter Tryz.func29, Tryz.ntmps29
  go_wp2_with fail
  refine (Tryz.strings_Cut _ _ m _ (by decide) hm).mono ?_
  rintro e w1 ⟨rfl, n, hw1⟩
  rw [cut1]
  obtain ⟨cc, ff, hb1, hlt⟩ := part_cells0 (w := w) (C := #[.int .i64 0, .int .i64 0, .string ⟨#[]⟩]) (t := 25) (w1 := w1) (by rw [hw1]; exact ⟨rfl, rfl, rfl, Nat.le_refl _, fun _ _ => rfl⟩)
  clear hw1 hm hb0
  go_wp2
  rw [mk2]
  have hA := (Below.refl w1.heap.size w1).alloc (Nat.le_refl _) (.cells #[.int .u8 0, .int .u8 0] 5)
  have hne : w.heap.size ≠ w1.heap.size := by omega
  go_wp2
  go_loopw [3, 32] (fun r i wr => r = .string ⟨#[]⟩ ∧ SbRel w.heap.size w1.heap.size w i wr) (fun _ i _ => 2 - (RowKit.intOf i).toNat)
  case atStart =>
    refine ⟨rfl, 0, by decide, rfl, by simp, by simp [sbB], by simp, by simp, ⟨?_, ?_, ?_⟩, ⟨?_, ?_, ?_⟩, hb1.alloc (by omega) _⟩
    · exact (hA.cell (p := ⟨w.heap.size, 0, none⟩) hlt).trans (cc 0)
    · exact (hA.cell (p := ⟨w.heap.size, 1, none⟩) hlt).trans (cc 1)
    · exact (hA.cell (p := ⟨w.heap.size, 2, none⟩) hlt).trans (cc 2)
    · exact (hA.frozen (p := ⟨w.heap.size, 0, none⟩) hlt).trans (ff 0)
    · exact (hA.frozen (p := ⟨w.heap.size, 1, none⟩) hlt).trans (ff 1)
    · exact (hA.frozen (p := ⟨w.heap.size, 2, none⟩) hlt).trans (ff 2)
  case round =>
    have HREL : Hid (SbRel w.heap.size w1.heap.size w u32 wr) := hrel.2
    obtain ⟨rfl, k, hk, rfl, d0, d1, e0, e1, ⟨c0, c1, c2⟩, ⟨f0, f1, f2⟩, hb⟩ := hrel
    have hk3 : k = 0 ∨ k = 1 ∨ k = 2 := by omega
    rcases hk3 with rfl | rfl | rfl
    · go_wp2
      go_region_held3 (fun w' => True) (trivial) (first | (go_at_call 60; refine (idx0 _ _ ?_).mono ?_; rfl; rintro e w' ⟨rfl, rfl⟩) | (go_at_call 60; refine (idx15 _ _ ?_).mono ?_; rfl; rintro e w' ⟨rfl, rfl⟩))
      all_goals go_wp2
      all_goals exact ⟨⟨rfl, Sb_step (k := 0) HREL.out hlt (by decide) _ (by decide +kernel)⟩, by decide⟩
    · go_wp2
      go_region_held3 (fun w' => True) (trivial) (first | (go_at_call 60; refine (idx0 _ _ ?_).mono ?_; rfl; rintro e w' ⟨rfl, rfl⟩) | (go_at_call 60; refine (idx15 _ _ ?_).mono ?_; rfl; rintro e w' ⟨rfl, rfl⟩))
      all_goals go_wp2
      all_goals exact ⟨⟨rfl, Sb_step (k := 1) HREL.out hlt (by decide) _ (by decide +kernel)⟩, by decide⟩
    · have d1' : wr.cell? ⟨w1.heap.size, 1, none⟩ = some (.int .u8 255) := d1
      have hcv := conv2 wr w1.heap.size d0 d1'
      have hst : strOfNums [0, 255] = ⟨#[0, 255]⟩ := rfl
      rw [hst] at hcv
      go_wp2
      try simp only [Exit.inBlock, Exit.then]
      refine bodyPost_ret (v := .tuple #[vv 4 0 ⟨#[0, 255]⟩, .string ⟨#[]⟩, .int .i64 0]) ?_ rfl ⟨rfl, ?_⟩
      · rw [results_cell3 rfl]; go_simp
      · exact ((hb.setCell (p := ⟨w.heap.size, 0, none⟩) (Nat.le_refl _) _).setCell (p := ⟨w.heap.size, 1, none⟩) (Nat.le_refl _) _).setCell (p := ⟨w.heap.size, 2, none⟩) (Nat.le_refl _) _
end Go.Proofs.YtdendpckihckeaaGreatDoor
/- value.scanRune and scanText at the examples, Scan, Parse; the law's awake: walks. -/
namespace Go.Proofs.YtdendpckihckeaaGreatDoor
open Go.RowKit

theorem T16_drew {w : World} (h : T16 w) : T16 w.drew := h
theorem sr97 : str (showR 97) = ⟨#[97]⟩ := by decide +kernel
theorem srFF : str (showR 65533) = ⟨#[239, 191, 189]⟩ := by decide +kernel
theorem dec97 : Lib.decodeGo ⟨#[97]⟩ = (97, 1) := by decide +kernel
theorem dec0 : Lib.decodeGo ⟨#[]⟩ = (65533, 0) := by decide +kernel
theorem showRune_97 (w : World) (hT : T16 w) : Calls Tryz.prog 74 #[.int .i32 97] w fun e w' => e = .returned (.string ⟨#[97]⟩) ∧ Below w.heap.size w w' := by
  have := showRune_any 97 w (by unfold scal; omega) (by omega) hT
  rw [sr97] at this
  exact this
theorem showRune_FF (w : World) (hT : T16 w) : Calls Tryz.prog 74 #[.int .i32 65533] w fun e w' => e = .returned (.string ⟨#[239, 191, 189]⟩) ∧ Below w.heap.size w w' := by
  have := showRune_any 65533 w (by unfold scal; omega) (by omega) hT
  rw [srFF] at this
  exact this
set_option maxRecDepth 100000 in
set_option maxHeartbeats 2000000 in
theorem scanRune_a (w : World) (hT : T16 w) (hU : UT w) :
    Calls Tryz.prog 55 #[.string ⟨#[97]⟩] w fun e w' => e = .returned (.tuple #[.int .i32 97, .int .i64 1]) ∧ Below w.heap.size w w' := by
  have hx : (⟨#[97]⟩ : ByteArray).extract 0 1 = ⟨#[97]⟩ := by decide
  go_enter Tryz.func55, Tryz.ntmps55
  go_wp2_with fail
  refine (Tryz.strings_HasPrefix _ _ _).mono ?_
  rintro e w1 ⟨rfl, rfl⟩
  rw [show Lib.hasPrefix (⟨#[97]⟩ : ByteArray).data.toList (⟨#[92]⟩ : ByteArray).data.toList = false from by decide]
  go_wp2_with fail
  refine (Tryz.utf8_DecodeRuneInString _ _ hU).mono ?_
  rintro e w2 ⟨rfl, hb2⟩
  rw [dec97]
  have hT2 := T16_below hT hb2
  go_wp2
  go_region_held3 (fun w' => True) (trivial) (first | (go_at_call 74; refine (showRune_97 _ ?_).mono ?_; exact T16_drew hT2; rintro e w' ⟨rfl, hb3⟩))
  all_goals go_wp2
  all_goals go_ret2
  all_goals exact ⟨rfl, hb2.trans ((Below.drew (Below.refl _ _)).trans (hb3.mono (by have := hb2.size; simpa using this)))⟩
set_option maxRecDepth 100000 in
set_option maxHeartbeats 2000000 in
theorem scanRune_e (w : World) (hT : T16 w) (hU : UT w) :
    Calls Tryz.prog 55 #[.string ⟨#[]⟩] w fun e w' => e = .returned (.tuple #[.int .i32 0, .int .i64 0]) ∧ Below w.heap.size w w' := by
  have hx : (⟨#[]⟩ : ByteArray).extract 0 0 = ⟨#[]⟩ := by decide
  go_enter Tryz.func55, Tryz.ntmps55
  go_wp2_with fail
  refine (Tryz.strings_HasPrefix _ _ _).mono ?_
  rintro e w1 ⟨rfl, rfl⟩
  rw [show Lib.hasPrefix (⟨#[]⟩ : ByteArray).data.toList (⟨#[92]⟩ : ByteArray).data.toList = false from by decide]
  go_wp2_with fail
  refine (Tryz.utf8_DecodeRuneInString _ _ hU).mono ?_
  rintro e w2 ⟨rfl, hb2⟩
  rw [dec0]
  have hT2 := T16_below hT hb2
  go_wp2
  go_region_held3 (fun w' => True) (trivial) (first | (go_at_call 74; refine (showRune_FF _ ?_).mono ?_; exact T16_drew hT2; rintro e w' ⟨rfl, hb3⟩))
  all_goals go_wp2
  all_goals go_ret2
  all_goals exact ⟨rfl, hb2.trans ((Below.drew (Below.refl _ _)).trans (hb3.mono (by have := hb2.size; simpa using this)))⟩
end Go.Proofs.YtdendpckihckeaaGreatDoor
/- value.scanText at the example, Scan and Parse at the four examples; the law's awake: walks. -/
namespace Go.Proofs.YtdendpckihckeaaGreatDoor
open Go.RowKit

/-- The result's cells, not yet set. -/
structure Zero (b : Nat) (w : World) : Prop where
  c0 : w.cell? ⟨b, 0, none⟩ = some (.int .i64 0)
  c1 : w.cell? ⟨b, 1, none⟩ = some (.int .i64 0)
  c2 : w.cell? ⟨b, 2, none⟩ = some (.string ⟨#[]⟩)
  f0 : w.frozen? ⟨b, 0, none⟩ = false
  f1 : w.frozen? ⟨b, 1, none⟩ = false
  f2 : w.frozen? ⟨b, 2, none⟩ = false
theorem Zero.below {b B : Nat} {w w' : World} (h : Zero b w) (hb : Below B w w') (hlt : b < B) : Zero b w' :=
  ⟨(hb.cell (p := ⟨b, 0, none⟩) hlt).trans h.c0, (hb.cell (p := ⟨b, 1, none⟩) hlt).trans h.c1, (hb.cell (p := ⟨b, 2, none⟩) hlt).trans h.c2, (hb.frozen (p := ⟨b, 0, none⟩) hlt).trans h.f0, (hb.frozen (p := ⟨b, 1, none⟩) hlt).trans h.f1, (hb.frozen (p := ⟨b, 2, none⟩) hlt).trans h.f2⟩
theorem Zero.new (w : World) : Zero w.heap.size (w.alloc (.cells #[.int .i64 0, .int .i64 0, .string ⟨#[]⟩] 25)) :=
  ⟨by simp, by simp, by simp, by simp, by simp, by simp⟩
abbrev wv (w : World) : World := w.alloc (.cells #[.int .i64 0, .int .i64 0, .string ⟨#[]⟩] 25)
theorem wv_below (w : World) : Below w.heap.size w (wv w) := (Below.refl _ _).alloc (Nat.le_refl _) _
theorem wv_size (w : World) : (wv w).heap.size = w.heap.size + 1 := by simp
theorem load_vv (W : World) (b : Nat) (k n : Int) (s : ByteArray) (c0 : W.cell? ⟨b, 0, none⟩ = some (.int .i64 k)) (c1 : W.cell? ⟨b, 1, none⟩ = some (.int .i64 n)) (c2 : W.cell? ⟨b, 2, none⟩ = some (.string s)) : (loadVar 25 ⟨b, 0, none⟩).run Tryz.prog W = .ok (vv k n s) W := by
  go_simp
abbrev set3 (W : World) (b : Nat) (x y z : Value) : World := ((W.setCell ⟨b, 0, none⟩ x).setCell ⟨b, 1, none⟩ y).setCell ⟨b, 2, none⟩ z
structure Three (b : Nat) (W : World) (x y z : Value) : Prop where
  c0 : W.cell? ⟨b, 0, none⟩ = some x
  c1 : W.cell? ⟨b, 1, none⟩ = some y
  c2 : W.cell? ⟨b, 2, none⟩ = some z
theorem Three.set {b : Nat} {W : World} {x y z : Value} (h : Three b W x y z) (x' y' z' : Value) : Three b (set3 W b x' y' z') x' y' z' := by
  have a1 : (W.setCell ⟨b, 0, none⟩ x').cell? ⟨b, 1, none⟩ = some y := (World.cell?_setCell_other _ _ _ _ (by simp)).trans h.c1
  have a2 : ((W.setCell ⟨b, 0, none⟩ x').setCell ⟨b, 1, none⟩ y').cell? ⟨b, 2, none⟩ = some z := (World.cell?_setCell_other _ _ _ _ (by simp)).trans ((World.cell?_setCell_other _ _ _ _ (by simp)).trans h.c2)
  refine ⟨?_, ?_, ?_⟩
  · rw [World.cell?_setCell_other _ _ _ _ (by simp), World.cell?_setCell_other _ _ _ _ (by simp), World.cell?_setCell_same _ _ _ h.c0]
  · rw [World.cell?_setCell_other _ _ _ _ (by simp), World.cell?_setCell_same _ _ _ a1]
  · rw [World.cell?_setCell_same _ _ _ a2]
theorem Three.alloc {b : Nat} {W : World} {x y z : Value} (h : Three b W x y z) (o : Obj) : Three b (W.alloc o) x y z := by
  have hA := (Below.refl W.heap.size W).alloc (Nat.le_refl _) o
  have hlt : b < W.heap.size := World.block_lt_of_cell? _ _ h.c0
  exact ⟨(hA.cell (p := ⟨b, 0, none⟩) hlt).trans h.c0, (hA.cell (p := ⟨b, 1, none⟩) hlt).trans h.c1, (hA.cell (p := ⟨b, 2, none⟩) hlt).trans h.c2⟩
theorem Zero.three {b : Nat} {w : World} (h : Zero b w) : Three b w (.int .i64 0) (.int .i64 0) (.string ⟨#[]⟩) := ⟨h.c0, h.c1, h.c2⟩
theorem results_v3 {fn : Func} {p u v : Tmp} (h : fn.results = #[.cell p 25, .tmp u, .tmp v]) (tmps : Array Value) (W : World) (b : Nat) (hp : tmps.getD p undef = .pointer (some ⟨b, 0, none⟩)) {k n : Int} {s : ByteArray} (h3 : Three b W (.int .i64 k) (.int .i64 n) (.string s)) :
    (results fn tmps).run Tryz.prog W = .ok (.tuple #[vv k n s, tmps.getD u undef, tmps.getD v undef]) W := by
  rw [results_cell3 h, hp]
  have e : (asAddr (.pointer (some ⟨b, 0, none⟩))).run Tryz.prog W = .ok ⟨b, 0, none⟩ W := rfl
  rw [e]
  simp only [Result.andThen]
  rw [load_vv W b k n s h3.c0 h3.c1 h3.c2]
theorem results_v2 {fn : Func} {p u : Tmp} (h : fn.results = #[.cell p 25, .tmp u]) (tmps : Array Value) (W : World) (b : Nat) (hp : tmps.getD p undef = .pointer (some ⟨b, 0, none⟩)) {k n : Int} {s : ByteArray} (h3 : Three b W (.int .i64 k) (.int .i64 n) (.string s)) :
    (results fn tmps).run Tryz.prog W = .ok (.tuple #[vv k n s, tmps.getD u undef]) W := by
  rw [results_cell_tmp h, hp]
  have e : (asAddr (.pointer (some ⟨b, 0, none⟩))).run Tryz.prog W = .ok ⟨b, 0, none⟩ W := rfl
  rw [e]
  simp only [Result.andThen]
  rw [load_vv W b k n s h3.c0 h3.c1 h3.c2]
/-- The result's three cells set. -/
theorem set3_below {w0 w : World} {b : Nat} (h : Below b w0 w) (x y z : Value) : Below b w0 (((w.setCell ⟨b, 0, none⟩ x).setCell ⟨b, 1, none⟩ y).setCell ⟨b, 2, none⟩ z) :=
  ((h.setCell (p := ⟨b, 0, none⟩) (Nat.le_refl _) _).setCell (p := ⟨b, 1, none⟩) (Nat.le_refl _) _).setCell (p := ⟨b, 2, none⟩) (Nat.le_refl _) _

def lenOf : Value → Nat
  | .string s => s.size
  | _ => 0
/-- What holds of scanText's loop at every round, at the example. -/
def TxRel (w : World) (t : Value) (wr : World) : Prop :=
  (t = .string ⟨#[97]⟩ ∧ IsB (w.heap.size + 1) (w.heap.size + 1) [] wr ∨ t = .string ⟨#[]⟩) ∧ Zero w.heap.size wr ∧ Below w.heap.size w wr ∧ w.heap.size + 1 < wr.heap.size
set_option maxRecDepth 100000 in
set_option maxHeartbeats 2000000 in
theorem scanText_1 (w : World) (hT : T16 w) (hU : UT w) :
    Calls Tryz.prog 28 #[.string ⟨#[97]⟩] w fun e w' => e = .returned (.tuple #[v0, .string ⟨#[]⟩, .int .i64 3]) ∧ Below w.heap.size w w' := by
  have hI := Lib.IsBuilderF.of (Lib.fresh_isBuilder 87 5 (wv w))
  rw [wv_size] at hI
  have hp97 : Lib.hasPrefix (⟨#[97]⟩ : ByteArray).data.toList (⟨#[34]⟩ : ByteArray).data.toList = false := by decide
  have hp0 : Lib.hasPrefix (⟨#[]⟩ : ByteArray).data.toList (⟨#[34]⟩ : ByteArray).data.toList = false := by decide
  have hx : (⟨#[97]⟩ : ByteArray).extract 1 1 = ⟨#[]⟩ := by decide
  go_enter Tryz.func28, Tryz.ntmps28
  go_wp2_with fail
  go_loopw [0] (fun t wr => TxRel w t wr) (fun t _ => lenOf t)
  case atStart => exact ⟨.inl ⟨rfl, hI⟩, (Zero.new w).below ((Below.refl _ (wv w)).alloc (Nat.le_refl _) _) (by simp), (wv_below w).alloc (by simp) _, by simp⟩
  case round =>
    obtain ⟨hs, hz, hb, hsz⟩ := hrel
    rcases hs with ⟨rfl, hI⟩ | rfl
    · go_wp2_with fail
      refine (Tryz.strings_HasPrefix _ _ _).mono ?_
      rintro e w1 ⟨rfl, rfl⟩
      rw [hp97]
      go_wp2_with fail
      refine (scanRune_a _ (T16_below hT hb) (Utf8Tabs_below hU hb)).mono ?_
      rintro e w2 ⟨rfl, hb2⟩
      have hI2 := IsB_below hI hb2
      have hz2 := hz.below hb2 (by omega)
      have hB2 := hb.trans (hb2.mono (by omega))
      have hs2 := hb2.size
      clear hb2 hI hz hb
      go_wp2_with fail
      refine (writeRune_ascii (w.heap.size + 1) (w.heap.size + 1) [] 97 _ (by decide) hI2 (by decide) (by omega)).mono ?_
      rintro e w3 ⟨rfl, hI3, hb3, ok3⟩
      have hz3 := hz2.below hb3 (by omega)
      have hB3 := hB2.trans (hb3.mono (by omega))
      have hs3 := hb3.size
      clear hb3 hI2 hz2 hB2 hI3 ok3
      go_wp2
      go_roundw
      case rel => exact ⟨.inr rfl, hz3, hB3, by omega⟩
      case measure => decide
    · go_wp2_with fail
      refine (Tryz.strings_HasPrefix _ _ _).mono ?_
      rintro e w1 ⟨rfl, rfl⟩
      rw [hp0]
      go_wp2_with fail
      refine (scanRune_e _ (T16_below hT hb) (Utf8Tabs_below hU hb)).mono ?_
      rintro e w2 ⟨rfl, hb2⟩
      obtain ⟨c0, c1, c2, f0, f1, f2⟩ := hz.below hb2 (by omega)
      have hB2 := hb.trans (hb2.mono (by omega))
      clear hb2 hz hb
      go_wp2
      try simp only [Exit.inBlock, Exit.then]
      refine bodyPost_ret (v := .tuple #[v0, .string ⟨#[]⟩, .int .i64 3]) ?_ rfl ⟨rfl, set3_below hB2 _ _ _⟩
      rw [results_cell3 rfl]; go_simp

theorem scan_x (w : World) (hM : ML w) :
    Calls Tryz.prog 10 #[.string ⟨#[120, 39, 48, 48, 102, 102, 39]⟩] w fun e w' => e = .returned (.tuple #[vv 4 0 ⟨#[0, 255]⟩, .string ⟨#[]⟩, .int .i64 0]) ∧ Below w.heap.size w w' := by
  have hp1 : Lib.hasPrefix (⟨#[120, 39, 48, 48, 102, 102, 39]⟩ : ByteArray).data.toList (⟨#[34]⟩ : ByteArray).data.toList = false := by decide
  have hp2 : Lib.hasPrefix (⟨#[120, 39, 48, 48, 102, 102, 39]⟩ : ByteArray).data.toList (⟨#[120, 39]⟩ : ByteArray).data.toList = true := by decide
  have hx : (⟨#[120, 39, 48, 48, 102, 102, 39]⟩ : ByteArray).extract 2 7 = ⟨#[48, 48, 102, 102, 39]⟩ := by decide
  go_enter Tryz.func10, Tryz.ntmps10
  go_wp2_with fail
  refine (Tryz.strings_HasPrefix _ _ _).mono ?_
  rintro e w1 ⟨rfl, rfl⟩
  rw [hp1]
  go_wp2_with fail
  refine (Tryz.strings_HasPrefix _ _ _).mono ?_
  rintro e w1 ⟨rfl, rfl⟩
  rw [hp2]
  go_wp2_with fail
  refine (scanBytes_1 _ (ML_below hM (wv_below w))).mono ?_
  rintro e w2 ⟨rfl, hb2⟩
  have HZ : Hid (Three w.heap.size w2 (.int .i64 0) (.int .i64 0) (.string ⟨#[]⟩)) := ((Zero.new w).below hb2 (by simp)).three
  obtain ⟨c0, c1, c2, f0, f1, f2⟩ := (Zero.new w).below hb2 (by simp)
  have hB2 := (wv_below w).trans (hb2.mono (by simp))
  clear hb2
  go_wp2
  try simp only [Exit.inBlock, Exit.then]
  exact bodyPost_ret (results_v3 rfl _ _ w.heap.size rfl ((HZ.out.set _ _ _).set _ _ _)) rfl ⟨rfl, set3_below (set3_below hB2 _ _ _) _ _ _⟩
set_option maxHeartbeats 1000000 in
theorem scan_q (w : World) (hT : T16 w) (hU : UT w) :
    Calls Tryz.prog 10 #[.string ⟨#[34, 97]⟩] w fun e w' => e = .returned (.tuple #[v0, .string ⟨#[]⟩, .int .i64 3]) ∧ Below w.heap.size w w' := by
  have hp1 : Lib.hasPrefix (⟨#[34, 97]⟩ : ByteArray).data.toList (⟨#[34]⟩ : ByteArray).data.toList = true := by decide
  have hx : (⟨#[34, 97]⟩ : ByteArray).extract 1 2 = ⟨#[97]⟩ := by decide
  go_enter Tryz.func10, Tryz.ntmps10
  go_wp2_with fail
  refine (Tryz.strings_HasPrefix _ _ _).mono ?_
  rintro e w1 ⟨rfl, rfl⟩
  rw [hp1]
  go_wp2_with fail
  refine (scanText_1 _ (T16_below hT (wv_below w)) (Utf8Tabs_below hU (wv_below w))).mono ?_
  rintro e w2 ⟨rfl, hb2⟩
  have HZ : Hid (Three w.heap.size w2 (.int .i64 0) (.int .i64 0) (.string ⟨#[]⟩)) := ((Zero.new w).below hb2 (by simp)).three
  obtain ⟨c0, c1, c2, f0, f1, f2⟩ := (Zero.new w).below hb2 (by simp)
  have hB2 := (wv_below w).trans (hb2.mono (by simp))
  clear hb2
  go_wp2
  try simp only [Exit.inBlock, Exit.then]
  exact bodyPost_ret (results_v3 rfl _ _ w.heap.size rfl ((HZ.out.set _ _ _).set _ _ _)) rfl ⟨rfl, set3_below (set3_below hB2 _ _ _) _ _ _⟩
set_option maxHeartbeats 1000000 in
theorem scan_d (s : ByteArray) (w : World) (h1 : Lib.hasPrefix s.data.toList (⟨#[34]⟩ : ByteArray).data.toList = false) (h2 : Lib.hasPrefix s.data.toList (⟨#[120, 39]⟩ : ByteArray).data.toList = false) (h3 : Lib.hasPrefix s.data.toList (⟨#[116, 114, 117, 101]⟩ : ByteArray).data.toList = false) (h4 : Lib.hasPrefix s.data.toList (⟨#[102, 97, 108, 115, 101]⟩ : ByteArray).data.toList = false)
    (hc : ∀ w, Calls Tryz.prog 31 #[.string s] w fun e w' => e = .returned (.tuple #[v0, .string ⟨#[]⟩, .int .i64 3]) ∧ Below w.heap.size w w') :
    Calls Tryz.prog 10 #[.string s] w fun e w' => e = .returned (.tuple #[v0, .string ⟨#[]⟩, .int .i64 3]) ∧ Below w.heap.size w w' := by
  have HC : Hid (∀ w, Calls Tryz.prog 31 #[.string s] w fun e w' => e = .returned (.tuple #[v0, .string ⟨#[]⟩, .int .i64 3]) ∧ Below w.heap.size w w') := hc
  clear hc
  go_enter Tryz.func10, Tryz.ntmps10
  go_wp2_with fail
  refine (Tryz.strings_HasPrefix _ _ _).mono ?_
  rintro e w1 ⟨rfl, rfl⟩
  rw [h1]
  go_wp2_with fail
  refine (Tryz.strings_HasPrefix _ _ _).mono ?_
  rintro e w1 ⟨rfl, rfl⟩
  rw [h2]
  go_wp2_with fail
  refine (Tryz.strings_HasPrefix _ _ _).mono ?_
  rintro e w1 ⟨rfl, rfl⟩
  rw [h3]
  go_wp2_with fail
  refine (Tryz.strings_HasPrefix _ _ _).mono ?_
  rintro e w1 ⟨rfl, rfl⟩
  rw [h4]
  go_wp2_with fail
  refine (HC.out _).mono ?_
  rintro e w2 ⟨rfl, hb2⟩
  have HZ : Hid (Three w.heap.size w2 (.int .i64 0) (.int .i64 0) (.string ⟨#[]⟩)) := ((Zero.new w).below hb2 (by simp)).three
  obtain ⟨c0, c1, c2, f0, f1, f2⟩ := (Zero.new w).below hb2 (by simp)
  have hB2 := (wv_below w).trans (hb2.mono (by simp))
  clear hb2
  go_wp2
  try simp only [Exit.inBlock, Exit.then]
  exact bodyPost_ret (results_v3 rfl _ _ w.heap.size rfl ((HZ.out.set _ _ _).set _ _ _)) rfl ⟨rfl, set3_below (set3_below hB2 _ _ _) _ _ _⟩

/-- Parse of what Scan refuses for its form. -/
theorem parse_no (s : ByteArray) (w : World) (hc : ∀ w1, Below w.heap.size w w1 → Calls Tryz.prog 10 #[.string s] w1 fun e w' => e = .returned (.tuple #[v0, .string ⟨#[]⟩, .int .i64 3]) ∧ Below w1.heap.size w1 w') :
    Calls Tryz.prog 12 #[.string s] w fun e w' => e = .returned (.tuple #[v0, .int .i64 3]) ∧ Below w.heap.size w w' := by
  have HC : Hid (Calls Tryz.prog 10 #[.string s] (wv w) fun e w' => e = .returned (.tuple #[v0, .string ⟨#[]⟩, .int .i64 3]) ∧ Below (wv w).heap.size (wv w) w') := hc (wv w) (wv_below w)
  clear hc
  go_enter Tryz.func12, Tryz.ntmps12
  go_wp2_with fail
  refine (Calls.mono HC.out) ?_
  rintro e w2 ⟨rfl, hb2⟩
  have HZ : Hid (Three w.heap.size w2 (.int .i64 0) (.int .i64 0) (.string ⟨#[]⟩)) := ((Zero.new w).below hb2 (by simp)).three
  obtain ⟨c0, c1, c2, f0, f1, f2⟩ := (Zero.new w).below hb2 (by simp)
  have hlt : w.heap.size < w2.heap.size := by have := hb2.size; simp at this; omega
  have hne : w2.heap.size ≠ w.heap.size := by omega
  have hB2 := (wv_below w).trans (hb2.mono (by simp))
  clear hb2 HC
  go_wp2
  try simp only [Exit.inBlock, Exit.then]
  refine bodyPost_ret (results_v2 rfl _ _ w.heap.size rfl ((HZ.out.set _ _ _).alloc _)) rfl ⟨rfl, (set3_below hB2 _ _ _).alloc ?_ _⟩
  have := hB2.size
  simpa using this
set_option maxHeartbeats 1000000 in
theorem parse_x (w : World) (hM : ML w) :
    Calls Tryz.prog 12 #[.string ⟨#[120, 39, 48, 48, 102, 102, 39]⟩] w fun e w' => e = .returned (.tuple #[vv 4 0 ⟨#[0, 255]⟩, .int .i64 0]) ∧ Below w.heap.size w w' := by
  go_enter Tryz.func12, Tryz.ntmps12
  go_wp2_with fail
  refine (scan_x _ (ML_below hM (wv_below w))).mono ?_
  rintro e w2 ⟨rfl, hb2⟩
  have HZ : Hid (Three w.heap.size w2 (.int .i64 0) (.int .i64 0) (.string ⟨#[]⟩)) := ((Zero.new w).below hb2 (by simp)).three
  obtain ⟨c0, c1, c2, f0, f1, f2⟩ := (Zero.new w).below hb2 (by simp)
  have hlt : w.heap.size < w2.heap.size := by have := hb2.size; simp at this; omega
  have hne : w2.heap.size ≠ w.heap.size := by omega
  have hB2 := (wv_below w).trans (hb2.mono (by simp))
  clear hb2
  go_wp2
  try simp only [Exit.inBlock, Exit.then]
  refine bodyPost_ret (results_v2 rfl _ _ w.heap.size rfl ((HZ.out.set _ _ _).alloc _)) rfl ⟨rfl, (set3_below hB2 _ _ _).alloc ?_ _⟩
  have := hB2.size
  simpa using this

/-- What the walks ask of the world. -/
structure VT (w : World) : Prop where
  u : UT w
  t : T16 w
  m : ML w
theorem VT.below {w w' : World} (h : VT w) (hb : Below w.heap.size w w') : VT w' := ⟨Utf8Tabs_below h.u hb, T16_below h.t hb, ML_below h.m hb⟩
theorem parse_0 (w : World) : Calls Tryz.prog 12 #[.string ⟨#[45, 48]⟩] w fun e w' => e = .returned (.tuple #[v0, .int .i64 3]) ∧ Below w.heap.size w w' :=
  parse_no _ w fun w1 _ => scan_d _ w1 (by decide) (by decide) (by decide) (by decide) scanInt_1
theorem parse_7 (w : World) : Calls Tryz.prog 12 #[.string ⟨#[48, 48, 55]⟩] w fun e w' => e = .returned (.tuple #[v0, .int .i64 3]) ∧ Below w.heap.size w w' :=
  parse_no _ w fun w1 _ => scan_d _ w1 (by decide) (by decide) (by decide) (by decide) scanInt_2
theorem parse_q (w : World) (h : VT w) : Calls Tryz.prog 12 #[.string ⟨#[34, 97]⟩] w fun e w' => e = .returned (.tuple #[v0, .int .i64 3]) ∧ Below w.heap.size w w' :=
  parse_no _ w fun w1 hb => scan_q w1 (T16_below h.t hb) (Utf8Tabs_below h.u hb)
abbrev exT : ByteArray := ⟨#[97, 34, 195, 169, 10, 1]⟩
theorem exT_chk : chkV 2 0 exT = true := by decide +kernel
theorem exT_rns : rns exT.data.toList = [97, 34, 233, 10, 1] := by decide +kernel
theorem exT_show : str (34 :: shows (rns exT.data.toList) ++ [34]) = ⟨#[34, 97, 92, 34, 195, 169, 92, 110, 92, 117, 123, 49, 125, 34]⟩ := by rw [exT_rns]; decide +kernel
theorem exT_ok : ∀ c ∈ rns exT.data.toList, okR c := by
  rw [exT_rns]
  intro c hc
  simp at hc
  unfold okR
  omega
theorem show_ex (w : World) (h : VT w) : Calls Tryz.prog 16 #[vv 2 0 exT] w fun e w' => e = .returned (.string ⟨#[34, 97, 92, 34, 195, 169, 92, 110, 92, 117, 123, 49, 125, 34]⟩) ∧ Below w.heap.size w w' := by
  have := show_text exT w exT_chk h.t h.u exT_ok
  rw [exT_show] at this
  exact this

set_option maxRecDepth 100000 in
set_option maxHeartbeats 2000000 in
theorem awake_any (w : World) (h : VT w) :
    Calls Tryz.prog 9 #[] w fun e w' => e = .returned (.bool true) ∧ Below w.heap.size w w' := by
  go_enter Tryz.func9, Tryz.ntmps9
  go_wp2_with fail
  refine (parse_x _ h.m).mono ?_
  rintro e w1 ⟨rfl, hb1⟩
  have hs1 := hb1.size
  go_wp2_with fail
  refine (parse_0 _).mono ?_
  rintro e w2 ⟨rfl, hb2⟩
  obtain ⟨cc, ff, hB2', hlt2⟩ := part_cells0 hb2
  have c2 := cc 2
  simp at c2
  have hB2 := hb1.trans (hB2'.mono hs1)
  have hs2 := hB2.size
  clear hb1 hb2 cc ff hB2'
  go_wp2_with fail
  refine (parse_7 _).mono ?_
  rintro e w3 ⟨rfl, hb3⟩
  have hA3 := (Below.refl w2.heap.size w2).alloc (Nat.le_refl _) (.cells #[.int .i64 0, .int .i64 0, .string ⟨#[]⟩] 25)
  have hb3' : Below w2.heap.size w2 w3 := hA3.trans (hb3.mono hA3.size)
  have c3 := (hb3'.cell (p := ⟨w1.heap.size, 2, none⟩) hlt2).trans c2
  have hB3 := hB2.trans (hb3'.mono hs2)
  have hs3 := hb3'.size
  clear hb3 hA3 hb3' hB2 c2
  go_wp2_with fail
  have hA4 := (Below.refl w3.heap.size w3).alloc (Nat.le_refl _) (.cells #[.int .i64 0, .int .i64 0, .string ⟨#[]⟩] 25)
  refine (parse_q _ ((h.below hB3).below hA4)).mono ?_
  rintro e w4 ⟨rfl, hb4⟩
  have hb4' : Below w3.heap.size w3 w4 := hA4.trans (hb4.mono hA4.size)
  have c4 := (hb4'.cell (p := ⟨w1.heap.size, 2, none⟩) (show w1.heap.size < _ by omega)).trans c3
  have hB4 := hB3.trans (hb4'.mono (by omega))
  have hs4 := hb4'.size
  clear hb4 hA4 hb4' hB3 c3
  have hA5 := (Below.refl w4.heap.size w4).alloc (Nat.le_refl _) (.cells #[.int .i64 0, .int .i64 0, .string ⟨#[]⟩] 25)
  go_wp2_with fail
  refine (show_ex _ ((h.below hB4).below hA5)).mono ?_
  rintro e w5 ⟨rfl, hb5⟩
  have hb5' : Below w4.heap.size w4 w5 := hA5.trans (hb5.mono hA5.size)
  have c5 := (hb5'.cell (p := ⟨w1.heap.size, 2, none⟩) (show w1.heap.size < _ by omega)).trans c4
  have hB5 : Hid (Below w.heap.size w w5) := hB4.trans (hb5'.mono (by omega))
  clear hb5 hA5 hb5' hB4 c4
  go_wp2
  go_ret
  exact ⟨rfl, hB5.out⟩
end Go.Proofs.YtdendpckihckeaaGreatDoor
