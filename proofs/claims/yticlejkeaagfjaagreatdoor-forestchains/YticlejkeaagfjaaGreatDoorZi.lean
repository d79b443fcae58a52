/- schema.Find: its walk. -/
import Derived.Test.YticlejkeaagfjaaGreatDoorEC
import Derived.Laws.ResultCell
namespace Go.Proofs.YticlejkeaagfjaaGreatDoor
open Go.RowKit

def zF : Fd := ⟨⟨#[]⟩, 0, false⟩
/-- The first field of a name. -/
def getF (l : List Fd) (s : ByteArray) : Option Fd := l.find? fun x => sameL x.n.data.toList s.data.toList
theorem getF_at {l : List Fd} {s : ByteArray} {k : Nat} (h : k < l.length) (hb : ∀ (j : Nat) (hj : j < l.length), j < k → sameL l[j].n.data.toList s.data.toList = false) (hk : sameL l[k].n.data.toList s.data.toList = true) : getF l s = some l[k] := by
  unfold getF
  rw [List.find?_eq_some_iff_getElem]
  exact ⟨hk, k, h, rfl, fun j hj => by rw [hb j (by omega) hj]; rfl⟩
theorem getF_no {l : List Fd} {s : ByteArray} (hb : ∀ (j : Nat) (hj : j < l.length), sameL l[j].n.data.toList s.data.toList = false) : getF l s = none := by
  unfold getF
  rw [List.find?_eq_none]
  intro x hx
  obtain ⟨j, hj, rfl⟩ := List.getElem_of_mem hx
  rw [hb j hj]
  exact Bool.false_ne_true
theorem new_at (w : World) (o : Obj) : (w.alloc o).heap[w.heap.size]? = some o := by show (w.heap.push o)[w.heap.size]? = some o; simp
theorem z3 {w : World} {b : Nat} {x y z : Value} {t : TypeId} (h : w.heap[b]? = some (.cells #[x, y, z] t)) :
    w.cell? ⟨b, 0, none⟩ = some x ∧ w.cell? ⟨b, 1, none⟩ = some y ∧ w.cell? ⟨b, 2, none⟩ = some z ∧ w.frozen? ⟨b, 0, none⟩ = false ∧ w.frozen? ⟨b, 1, none⟩ = false ∧ w.frozen? ⟨b, 2, none⟩ = false :=
  ⟨by rw [Lib.cell_of_heap h]; rfl, by rw [Lib.cell_of_heap h]; rfl, by rw [Lib.cell_of_heap h]; rfl, by simp [World.frozen?, h], by simp [World.frozen?, h], by simp [World.frozen?, h]⟩
theorem set3_b {w0 w : World} {b : Nat} (h : Below b w0 w) (x y z : Value) : Below b w0 (((w.setCell ⟨b, 0, none⟩ x).setCell ⟨b, 1, none⟩ y).setCell ⟨b, 2, none⟩ z) :=
  ((h.setCell (p := ⟨b, 0, none⟩) (Nat.le_refl _) _).setCell (p := ⟨b, 1, none⟩) (Nat.le_refl _) _).setCell (p := ⟨b, 2, none⟩) (Nat.le_refl _) _
set_option maxRecDepth 100000 in
set_option maxHeartbeats 2000000 in
theorem find_any (v : Value) (l : List Fd) (s : ByteArray) (w : World) (hr : IsRow w 3 v l.length (fCells l)) (hl : l.length ≤ 1000000) (hn : NmF l) (hs : s.size ≤ 1000000) (hT : UT w) :
    Calls Tryz.prog 96 #[v, .string s] w fun e w' => e = .returned (.tuple #[fV ((getF l s).getD zF), .bool (getF l s).isSome]) ∧ Below w.heap.size w w' := by
  obtain ⟨a0, cap0, rfl⟩ := hr.form
  have HR : Hid (IsRow w 3 (.slice a0 l.length cap0) l.length (fCells l)) := hr
  have HS : Hid (∀ (k : Nat) (h : k < l.length) (w' : World), Below w.heap.size w w' → Calls Tryz.prog 53 #[.string l[k].n, .string s] w' fun e w'' => e = .returned (.bool (sameL l[k].n.data.toList s.data.toList)) ∧ Below w'.heap.size w' w'') := fun k h w' h' => same_any _ _ w' (hn _ (List.getElem_mem h)) hs (Utf8Tabs_below hT h')
  clear hr hn hT
  go_enter Tryz.func96, Tryz.ntmps96
  go_wp2_with fail
  go_loopw [5, 10] (fun r i wr => r = .bool false ∧ ∃ k : Nat, k ≤ l.length ∧ i = .int .i64 (k : Int) ∧ Hid (∀ (j : Nat) (h : j < l.length), j < k → sameL l[j].n.data.toList s.data.toList = false) ∧ wr.heap[w.heap.size]? = some (.cells #[.string ⟨#[]⟩, .int .i64 0, .bool false] 93) ∧ Below w.heap.size w wr) (fun _ i _ => l.length - (intOf i).toNat)
  case atStart => exact ⟨rfl, 0, Nat.zero_le _, rfl, fun j h hj => absurd hj (Nat.not_lt_zero _), new_at _ _, al_b _ _⟩
  case round =>
    obtain ⟨rfl, k, hk, rfl, HO, hZ, hB⟩ := hrel
    by_cases hlk : k < l.length
    · have dk : decide ((k : Int) < l.length) = true := by simp; omega
      obtain ⟨b, off, rfl, hlt, hcap, hc⟩ := f_at (HR.out.below hB) (by omega)
      obtain ⟨ck0, ck1, ck2⟩ := hc k hlk
      have hAl := al_b wr (.cells #[.string l[k].n, .int .i64 l[k].k, .bool l[k].m] 93)
      have hzl : w.heap.size < wr.heap.size := (Array.getElem?_eq_some_iff.1 hZ).1
      have hB1 := hB.trans (hAl.mono hB.size)
      have HSk : Hid (Calls Tryz.prog 53 #[.string l[k].n, .string s] (wr.alloc (.cells #[.string l[k].n, .int .i64 l[k].k, .bool l[k].m] 93)) fun e w'' => e = .returned (.bool (sameL l[k].n.data.toList s.data.toList)) ∧ Below (wr.alloc (.cells #[.string l[k].n, .int .i64 l[k].k, .bool l[k].m] 93)).heap.size (wr.alloc (.cells #[.string l[k].n, .int .i64 l[k].k, .bool l[k].m] 93)) w'') := HS.out k hlk _ hB1
      have HN : Hid (∀ w', Below (wr.alloc (.cells #[.string l[k].n, .int .i64 l[k].k, .bool l[k].m] 93)).heap.size (wr.alloc (.cells #[.string l[k].n, .int .i64 l[k].k, .bool l[k].m] 93)) w' → w'.heap[w.heap.size]? = some (.cells #[.string ⟨#[]⟩, .int .i64 0, .bool false] 93) ∧ w'.heap[wr.heap.size]? = some (.cells #[.string l[k].n, .int .i64 l[k].k, .bool l[k].m] 93) ∧ Below w.heap.size w w') := fun w' h =>
        ⟨(h.block _ (Nat.lt_of_lt_of_le hzl hAl.size)).trans ((hAl.block _ hzl).trans hZ), (h.block _ (by simp)).trans (new_at _ _), hB1.trans (h.mono hB1.size)⟩
      cases hsm : sameL l[k].n.data.toList s.data.toList with
      | true =>
        have HY : Hid (getF l s = some l[k]) := getF_at hlk HO.out hsm
        rw [hsm] at HSk
        generalize l[k]'hlk = x at *
        obtain ⟨n, kk, m⟩ := x
        clear hc HO hAl hB1 hsm
        go_wp2_with fail
        refine HSk.out.mono ?_
        rintro e w1 ⟨rfl, hb⟩
        obtain ⟨y0, y1, y2⟩ := HN.out w1 hb
        obtain ⟨c0, c1, c2, f0, f1, f2⟩ := z3 y0
        obtain ⟨d0, d1, d2, -, -, -⟩ := z3 y1
        have HBB : Hid (Below w.heap.size w w1) := y2
        clear hb y0 y1 y2 hB
        go_wp2
        try simp only [Exit.inBlock, Exit.then]
        refine bodyPost_ret (v := .tuple #[.agg #[.string n, .int .i64 kk, .bool m], .bool true]) ?_ rfl ⟨by rw [HY.out]; rfl, set3_b HBB.out _ _ _⟩
        rw [results_cell_tmp rfl]; go_simp
      | false =>
        have HO2 : Hid (∀ (j : Nat) (h : j < l.length), j < k + 1 → sameL l[j].n.data.toList s.data.toList = false) := fun j h hj => by
          by_cases e : j = k
          · subst e; exact hsm
          · exact HO.out j h (by omega)
        rw [hsm] at HSk
        generalize l[k]'hlk = x at *
        obtain ⟨n, kk, m⟩ := x
        clear hc HO hAl hB1 hsm
        go_wp2_with fail
        refine HSk.out.mono ?_
        rintro e w1 ⟨rfl, hb⟩
        obtain ⟨y0, y1, y2⟩ := HN.out w1 hb
        clear hb y1 hB
        go_wp2
        go_roundw
        case rel => exact ⟨rfl, k + 1, by omega, by simp, HO2, y0, y2⟩
        case measure => simp [intOf]; omega
    · have hk' : k = l.length := by omega
      subst hk'
      have dk : decide ((l.length : Int) < l.length) = false := by simp
      have HY : Hid (getF l s = none) := getF_no (fun j hj => HO.out j hj hj)
      clear HO
      have HBB : Hid (Below w.heap.size w wr) := hB
      obtain ⟨c0, c1, c2, f0, f1, f2⟩ := z3 hZ
      clear hB hZ
      go_wp2
      try simp only [Exit.inBlock, Exit.then]
      refine bodyPost_ret (v := .tuple #[.agg #[.string ⟨#[]⟩, .int .i64 0, .bool false], .bool false]) ?_ rfl ⟨by rw [HY.out]; rfl, set3_b HBB.out _ _ _⟩
      rw [results_cell_tmp rfl]; go_simp
end Go.Proofs.YticlejkeaagfjaaGreatDoor
/- schema.Get: its walk. -/
namespace Go.Proofs.YticlejkeaagfjaaGreatDoor
open Go.RowKit

/-- A value of an attribute; nothing, where there is none. -/
def vOf : Option At → Value
  | some x => vv x.k x.v x.s
  | none => vv 0 0 ⟨#[]⟩
/-- The first attribute of a name. -/
def getA (l : List At) (s : ByteArray) : Option At := l.find? fun x => sameL x.n.data.toList s.data.toList
theorem getA_at {l : List At} {s : ByteArray} {k : Nat} (h : k < l.length) (hb : ∀ (j : Nat) (hj : j < l.length), j < k → sameL l[j].n.data.toList s.data.toList = false) (hk : sameL l[k].n.data.toList s.data.toList = true) : getA l s = some l[k] := by
  unfold getA
  rw [List.find?_eq_some_iff_getElem]
  exact ⟨hk, k, h, rfl, fun j hj => by rw [hb j (by omega) hj]; rfl⟩
theorem getA_no {l : List At} {s : ByteArray} (hb : ∀ (j : Nat) (hj : j < l.length), sameL l[j].n.data.toList s.data.toList = false) : getA l s = none := by
  unfold getA
  rw [List.find?_eq_none]
  intro x hx
  obtain ⟨j, hj, rfl⟩ := List.getElem_of_mem hx
  rw [hb j hj]
  exact Bool.false_ne_true
theorem z4 {w : World} {b : Nat} {x y z u : Value} {t : TypeId} (h : w.heap[b]? = some (.cells #[x, y, z, u] t)) :
    w.cell? ⟨b, 0, none⟩ = some x ∧ w.cell? ⟨b, 1, none⟩ = some y ∧ w.cell? ⟨b, 2, none⟩ = some z ∧ w.cell? ⟨b, 3, none⟩ = some u :=
  ⟨by rw [Lib.cell_of_heap h]; rfl, by rw [Lib.cell_of_heap h]; rfl, by rw [Lib.cell_of_heap h]; rfl, by rw [Lib.cell_of_heap h]; rfl⟩
set_option maxRecDepth 100000 in
set_option maxHeartbeats 2000000 in
theorem get_any (v : Value) (l : List At) (s : ByteArray) (w : World) (hr : IsRow w 4 v l.length (aCells l)) (hl : l.length ≤ 1000000) (hn : NmA l) (hs : s.size ≤ 1000000) (hT : UT w) :
    Calls Tryz.prog 97 #[v, .string s] w fun e w' => e = .returned (.tuple #[vOf (getA l s), .bool (getA l s).isSome]) ∧ Below w.heap.size w w' := by
  obtain ⟨a0, cap0, rfl⟩ := hr.form
  have HR : Hid (IsRow w 4 (.slice a0 l.length cap0) l.length (aCells l)) := hr
  have HS : Hid (∀ (k : Nat) (h : k < l.length) (w' : World), Below w.heap.size w w' → Calls Tryz.prog 53 #[.string l[k].n, .string s] w' fun e w'' => e = .returned (.bool (sameL l[k].n.data.toList s.data.toList)) ∧ Below w'.heap.size w' w'') := fun k h w' h' => same_any _ _ w' (hn _ (List.getElem_mem h)).1 hs (Utf8Tabs_below hT h')
  clear hr hn hT
  go_enter Tryz.func97, Tryz.ntmps97
  go_wp2_with fail
  go_loopw [5, 10] (fun r i wr => r = .bool false ∧ ∃ k : Nat, k ≤ l.length ∧ i = .int .i64 (k : Int) ∧ Hid (∀ (j : Nat) (h : j < l.length), j < k → sameL l[j].n.data.toList s.data.toList = false) ∧ wr.heap[w.heap.size]? = some (.cells #[.int .i64 0, .int .i64 0, .string ⟨#[]⟩] 64) ∧ Below w.heap.size w wr) (fun _ i _ => l.length - (intOf i).toNat)
  case atStart => exact ⟨rfl, 0, Nat.zero_le _, rfl, fun j h hj => absurd hj (Nat.not_lt_zero _), new_at _ _, al_b _ _⟩
  case round =>
    obtain ⟨rfl, k, hk, rfl, HO, hZ, hB⟩ := hrel
    by_cases hlk : k < l.length
    · have dk : decide ((k : Int) < l.length) = true := by simp; omega
      obtain ⟨b, off, rfl, hlt, hcap, hc⟩ := a_at (HR.out.below hB) (by omega)
      obtain ⟨ck0, ck1, ck2, ck3⟩ := hc k hlk
      have hAl := al_b wr (.cells #[.string l[k].n, .int .i64 l[k].k, .int .i64 l[k].v, .string l[k].s] 66)
      have hzl : w.heap.size < wr.heap.size := (Array.getElem?_eq_some_iff.1 hZ).1
      have hB1 := hB.trans (hAl.mono hB.size)
      have HSk : Hid (Calls Tryz.prog 53 #[.string l[k].n, .string s] (wr.alloc (.cells #[.string l[k].n, .int .i64 l[k].k, .int .i64 l[k].v, .string l[k].s] 66)) fun e w'' => e = .returned (.bool (sameL l[k].n.data.toList s.data.toList)) ∧ Below (wr.alloc (.cells #[.string l[k].n, .int .i64 l[k].k, .int .i64 l[k].v, .string l[k].s] 66)).heap.size (wr.alloc (.cells #[.string l[k].n, .int .i64 l[k].k, .int .i64 l[k].v, .string l[k].s] 66)) w'') := HS.out k hlk _ hB1
      have HN : Hid (∀ w', Below (wr.alloc (.cells #[.string l[k].n, .int .i64 l[k].k, .int .i64 l[k].v, .string l[k].s] 66)).heap.size (wr.alloc (.cells #[.string l[k].n, .int .i64 l[k].k, .int .i64 l[k].v, .string l[k].s] 66)) w' → w'.heap[w.heap.size]? = some (.cells #[.int .i64 0, .int .i64 0, .string ⟨#[]⟩] 64) ∧ w'.heap[wr.heap.size]? = some (.cells #[.string l[k].n, .int .i64 l[k].k, .int .i64 l[k].v, .string l[k].s] 66) ∧ Below w.heap.size w w') := fun w' h =>
        ⟨(h.block _ (Nat.lt_of_lt_of_le hzl hAl.size)).trans ((hAl.block _ hzl).trans hZ), (h.block _ (by simp)).trans (new_at _ _), hB1.trans (h.mono hB1.size)⟩
      cases hsm : sameL l[k].n.data.toList s.data.toList with
      | true =>
        have HY : Hid (getA l s = some l[k]) := getA_at hlk HO.out hsm
        rw [hsm] at HSk
        generalize l[k]'hlk = x at *
        obtain ⟨n, kk, m, tt⟩ := x
        clear hc HO hAl hB1 hsm
        go_wp2_with fail
        refine HSk.out.mono ?_
        rintro e w1 ⟨rfl, hb⟩
        obtain ⟨y0, y1, y2⟩ := HN.out w1 hb
        obtain ⟨c0, c1, c2, f0, f1, f2⟩ := z3 y0
        obtain ⟨d0, d1, d2, d3⟩ := z4 y1
        have HBB : Hid (Below w.heap.size w w1) := y2
        clear hb y0 y1 y2 hB
        go_wp2
        try simp only [Exit.inBlock, Exit.then]
        refine bodyPost_ret (v := .tuple #[.agg #[.int .i64 kk, .int .i64 m, .string tt], .bool true]) ?_ rfl ⟨by rw [HY.out]; rfl, set3_b HBB.out _ _ _⟩
        rw [results_cell_tmp rfl]; go_simp
      | false =>
        have HO2 : Hid (∀ (j : Nat) (h : j < l.length), j < k + 1 → sameL l[j].n.data.toList s.data.toList = false) := fun j h hj => by
          by_cases e : j = k
          · subst e; exact hsm
          · exact HO.out j h (by omega)
        rw [hsm] at HSk
        generalize l[k]'hlk = x at *
        obtain ⟨n, kk, m, tt⟩ := x
        clear hc HO hAl hB1 hsm
        go_wp2_with fail
        refine HSk.out.mono ?_
        rintro e w1 ⟨rfl, hb⟩
        obtain ⟨y0, y1, y2⟩ := HN.out w1 hb
        clear hb y1 hB
        go_wp2
        go_roundw
        case rel => exact ⟨rfl, k + 1, by omega, by simp, HO2, y0, y2⟩
        case measure => simp [intOf]; omega
    · have hk' : k = l.length := by omega
      subst hk'
      have dk : decide ((l.length : Int) < l.length) = false := by simp
      have HY : Hid (getA l s = none) := getA_no (fun j hj => HO.out j hj hj)
      clear HO
      have HBB : Hid (Below w.heap.size w wr) := hB
      obtain ⟨c0, c1, c2, f0, f1, f2⟩ := z3 hZ
      clear hB hZ
      go_wp2
      try simp only [Exit.inBlock, Exit.then]
      refine bodyPost_ret (v := .tuple #[.agg #[.int .i64 0, .int .i64 0, .string ⟨#[]⟩], .bool false]) ?_ rfl ⟨by rw [HY.out]; rfl, set3_b HBB.out _ _ _⟩
      rw [results_cell_tmp rfl]; go_simp
end Go.Proofs.YticlejkeaagfjaaGreatDoor
