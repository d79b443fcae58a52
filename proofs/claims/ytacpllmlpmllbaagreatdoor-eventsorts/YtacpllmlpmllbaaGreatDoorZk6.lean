/- schema.Find: its walk. -/
import Derived.Test.YtacpllmlpmllbaaGreatDoorZk5
import Derived.Laws.ResultCell
namespace Go.Proofs.YtacpllmlpmllbaaGreatDoor
open Go.RowKit

def zF : Fd := ⟨⟨#[]⟩, 0, false⟩
/-- The first field of a name. -/
def getF (l : List Fd) (s : ByteArray) : Option Fd := l.find? fun x => sameL x.n.data.toList s.data.toList
theorem getF_at {l : List Fd} {s : ByteArray} {k : Nat} (h : k < l.length) (hb : ∀ (j : Nat) (hj : j < l.length), j < k → sameL l[j].n.data.toList s.data.toList = false) (hk : sameL l[k].n.data.toList s.data.toList = true) : getF l s = some l[k] := by
  unfold getF
  rw [List.find?_eq_some_iff_getElem]
  exact ⟨hk, k, h, rfl, fun j hj => by rw [hb j (by omega) hj]; rfl⟩
theorem getF_no {l : List Fd} {s : ByteArray} (hb : ∀ (j : Nat) (hj : j < l.length), sameL l[j].n.data.toList s.data.toList = false) : getF l s = none := by
  unfold getF
  rw [List.find?_eq_none]
  intro x hx
  obtain ⟨j, hj, rfl⟩ := List.getElem_of_mem hx
  rw [hb j hj]
  exact Bool.false_ne_true
theorem new_at (w : World) (o : Obj) : (w.alloc o).heap[w.heap.size]? = some o := by show (w.heap.push o)[w.heap.size]? = some o; simp
theorem z3 {w : World} {b : Nat} {x y z : Value} {t : TypeId} (h : w.heap[b]? = some (.cells #[x, y, z] t)) :
    w.cell? ⟨b, 0, none⟩ = some x ∧ w.cell? ⟨b, 1, none⟩ = some y ∧ w.cell? ⟨b, 2, none⟩ = some z ∧ w.frozen? ⟨b, 0, none⟩ = false ∧ w.frozen? ⟨b, 1, none⟩ = false ∧ w.frozen? ⟨b, 2, none⟩ = false :=
  ⟨by rw [Lib.cell_of_heap h]; rfl, by rw [Lib.cell_of_heap h]; rfl, by rw [Lib.cell_of_heap h]; rfl, by simp [World.frozen?, h], by simp [World.frozen?, h], by simp [World.frozen?, h]⟩
theorem set3_b {w0 w : World} {b : Nat} (h : Below b w0 w) (x y z : Value) : Below b w0 (((w.setCell ⟨b, 0, none⟩ x).setCell ⟨b, 1, none⟩ y).setCell ⟨b, 2, none⟩ z) :=
  ((h.setCell (p := ⟨b, 0, none⟩) (Nat.le_refl _) _).setCell (p := ⟨b, 1, none⟩) (Nat.le_refl _) _).setCell (p := ⟨b, 2, none⟩) (Nat.le_refl _) _
set_option maxRecDepth 100000 in
set_option maxHeartbeats 2000000 in
theorem find_any (v : Value) (l : List Fd) (s : ByteArray) (w : World) (hr : IsRow w 3 v l.length (fCells l)) (hl : l.length ≤ 1000000) (hn : NmF l) (hs : s.size ≤ 1000000) (hT : UT w) :
    Calls Tryz.prog 69 #[v, .string s] w fun e w' => e = .returned (.tuple #[fV ((getF l s).getD zF), .bool (getF l s).isSome]) ∧ Below w.heap.size w w' := by
  obtain ⟨a0, cap0, rfl⟩ := hr.form
  have HR : Hid (IsRow w 3 (.slice a0 l.length cap0) l.length (fCells l)) := hr
  have HS : Hid (∀ (k : Nat) (h : k < l.length) (w' : World), Below w.heap.size w w' → Calls Tryz.prog 48 #[.string l[k].n, .string s] w' fun e w'' => e = .returned (.bool (sameL l[k].n.data.toList s.data.toList)) ∧ Below w'.heap.size w' w'') := fun k h w' h' => same_any _ _ w' (hn _ (List.getElem_mem h)) hs (Utf8Tabs_below hT h')
  clear hr hn hT
  go_enter Tryz.func69, Tryz.ntmps69
  go_wp2_with fail
  go_loopw [5, 10] (fun r i wr => r = .bool false ∧ ∃ k : Nat, k ≤ l.length ∧ i = .int .i64 (k : Int) ∧ Hid (∀ (j : Nat) (h : j < l.length), j < k → sameL l[j].n.data.toList s.data.toList = false) ∧ wr.heap[w.heap.size]? = some (.cells #[.string ⟨#[]⟩, .int .i64 0, .bool false] 110) ∧ Below w.heap.size w wr) (fun _ i _ => l.length - (intOf i).toNat)
  case atStart => exact ⟨rfl, 0, Nat.zero_le _, rfl, fun j h hj => absurd hj (Nat.not_lt_zero _), new_at _ _, al_b _ _⟩
  case round =>
    obtain ⟨rfl, k, hk, rfl, HO, hZ, hB⟩ := hrel
    by_cases hlk : k < l.length
    · have dk : decide ((k : Int) < l.length) = true := by simp; omega
      obtain ⟨b, off, rfl, hlt, hcap, hc⟩ := f_at (HR.out.below hB) (by omega)
      obtain ⟨ck0, ck1, ck2⟩ := hc k hlk
      have hAl := al_b wr (.cells #[.string l[k].n, .int .i64 l[k].k, .bool l[k].m] 110)
      have hzl : w.heap.size < wr.heap.size := (Array.getElem?_eq_some_iff.1 hZ).1
      have hB1 := hB.trans (hAl.mono hB.size)
      have HSk : Hid (Calls Tryz.prog 48 #[.string l[k].n, .string s] (wr.alloc (.cells #[.string l[k].n, .int .i64 l[k].k, .bool l[k].m] 110)) fun e w'' => e = .returned (.bool (sameL l[k].n.data.toList s.data.toList)) ∧ Below (wr.alloc (.cells #[.string l[k].n, .int .i64 l[k].k, .bool l[k].m] 110)).heap.size (wr.alloc (.cells #[.string l[k].n, .int .i64 l[k].k, .bool l[k].m] 110)) w'') := HS.out k hlk _ hB1
      have HN : Hid (∀ w', Below (wr.alloc (.cells #[.string l[k].n, .int .i64 l[k].k, .bool l[k].m] 110)).heap.size (wr.alloc (.cells #[.string l[k].n, .int .i64 l[k].k, .bool l[k].m] 110)) w' → w'.heap[w.heap.size]? = some (.cells #[.string ⟨#[]⟩, .int .i64 0, .bool false] 110) ∧ w'.heap[wr.heap.size]? = some (.cells #[.string l[k].n, .int .i64 l[k].k, .bool l[k].m] 110) ∧ Below w.heap.size w w') := fun w' h =>
        ⟨(h.block _ (Nat.lt_of_lt_of_le hzl hAl.size)).trans ((hAl.block _ hzl).trans hZ), (h.block _ (by simp)).trans (new_at _ _), hB1.trans (h.mono hB1.size)⟩
      cases hsm : sameL l[k].n.data.toList s.data.toList with
      | true =>
        have HY : Hid (getF l s = some l[k]) := getF_at hlk HO.out hsm
        rw [hsm] at HSk
        generalize l[k]'hlk = x at *
        obtain ⟨n, kk, m⟩ := x
        clear hc HO hAl hB1 hsm
        go_wp2_with fail
        refine HSk.out.mono ?_
        rintro e w1 ⟨rfl, hb⟩
        obtain ⟨y0, y1, y2⟩ := HN.out w1 hb
        obtain ⟨c0, c1, c2, f0, f1, f2⟩ := z3 y0
        obtain ⟨d0, d1, d2, -, -, -⟩ := z3 y1
        have HBB : Hid (Below w.heap.size w w1) := y2
        clear hb y0 y1 y2 hB
        go_wp2
        try simp only [Exit.inBlock, Exit.then]
        refine bodyPost_ret (v := .tuple #[.agg #[.string n, .int .i64 kk, .bool m], .bool true]) ?_ rfl ⟨by rw [HY.out]; rfl, set3_b HBB.out _ _ _⟩
        rw [results_cell_tmp rfl]; go_simp
      | false =>
        have HO2 : Hid (∀ (j : Nat) (h : j < l.length), j < k + 1 → sameL l[j].n.data.toList s.data.toList = false) := fun j h hj => by
          by_cases e : j = k
          · subst e; exact hsm
          · exact HO.out j h (by omega)
        rw [hsm] at HSk
        generalize l[k]'hlk = x at *
        obtain ⟨n, kk, m⟩ := x
        clear hc HO hAl hB1 hsm
        go_wp2_with fail
        refine HSk.out.mono ?_
        rintro e w1 ⟨rfl, hb⟩
        obtain ⟨y0, y1, y2⟩ := HN.out w1 hb
        clear hb y1 hB
        go_wp2
        go_roundw
        case rel => exact ⟨rfl, k + 1, by omega, by simp, HO2, y0, y2⟩
        case measure => simp [intOf]; omega
    · have hk' : k = l.length := by omega
      subst hk'
      have dk : decide ((l.length : Int) < l.length) = false := by simp
      have HY : Hid (getF l s = none) := getF_no (fun j hj => HO.out j hj hj)
      clear HO
      have HBB : Hid (Below w.heap.size w wr) := hB
      obtain ⟨c0, c1, c2, f0, f1, f2⟩ := z3 hZ
      clear hB hZ
      go_wp2
      try simp only [Exit.inBlock, Exit.then]
      refine bodyPost_ret (v := .tuple #[.agg #[.string ⟨#[]⟩, .int .i64 0, .bool false], .bool false]) ?_ rfl ⟨by rw [HY.out]; rfl, set3_b HBB.out _ _ _⟩
      rw [results_cell_tmp rfl]; go_simp
end Go.Proofs.YtacpllmlpmllbaaGreatDoor
/- schema.Get: its walk. -/
namespace Go.Proofs.YtacpllmlpmllbaaGreatDoor
open Go.RowKit

/-- A value of an attribute; nothing, where there is none. -/
def vOf : Option At → Value
  | some x => vv x.k x.v x.s
  | none => vv 0 0 ⟨#[]⟩
/-- The first attribute of a name. -/
def getA (l : List At) (s : ByteArray) : Option At := l.find? fun x => sameL x.n.data.toList s.data.toList
theorem getA_at {l : List At} {s : ByteArray} {k : Nat} (h : k < l.length) (hb : ∀ (j : Nat) (hj : j < l.length), j < k → sameL l[j].n.data.toList s.data.toList = false) (hk : sameL l[k].n.data.toList s.data.toList = true) : getA l s = some l[k] := by
  unfold getA
  rw [List.find?_eq_some_iff_getElem]
  exact ⟨hk, k, h, rfl, fun j hj => by rw [hb j (by omega) hj]; rfl⟩
theorem getA_no {l : List At} {s : ByteArray} (hb : ∀ (j : Nat) (hj : j < l.length), sameL l[j].n.data.toList s.data.toList = false) : getA l s = none := by
  unfold getA
  rw [List.find?_eq_none]
  intro x hx
  obtain ⟨j, hj, rfl⟩ := List.getElem_of_mem hx
  rw [hb j hj]
  exact Bool.false_ne_true
theorem z4 {w : World} {b : Nat} {x y z u : Value} {t : TypeId} (h : w.heap[b]? = some (.cells #[x, y, z, u] t)) :
    w.cell? ⟨b, 0, none⟩ = some x ∧ w.cell? ⟨b, 1, none⟩ = some y ∧ w.cell? ⟨b, 2, none⟩ = some z ∧ w.cell? ⟨b, 3, none⟩ = some u :=
  ⟨by rw [Lib.cell_of_heap h]; rfl, by rw [Lib.cell_of_heap h]; rfl, by rw [Lib.cell_of_heap h]; rfl, by rw [Lib.cell_of_heap h]; rfl⟩
set_option maxRecDepth 100000 in
set_option maxHeartbeats 2000000 in
theorem get_any (v : Value) (l : List At) (s : ByteArray) (w : World) (hr : IsRow w 4 v l.length (aCells l)) (hl : l.length ≤ 1000000) (hn : NmA l) (hs : s.size ≤ 1000000) (hT : UT w) :
    Calls Tryz.prog 135 #[v, .string s] w fun e w' => e = .returned (.tuple #[vOf (getA l s), .bool (getA l s).isSome]) ∧ Below w.heap.size w w' := by
  obtain ⟨a0, cap0, rfl⟩ := hr.form
  have HR : Hid (IsRow w 4 (.slice a0 l.length cap0) l.length (aCells l)) := hr
  have HS : Hid (∀ (k : Nat) (h : k < l.length) (w' : World), Below w.heap.size w w' → Calls Tryz.prog 48 #[.string l[k].n, .string s] w' fun e w'' => e = .returned (.bool (sameL l[k].n.data.toList s.data.toList)) ∧ Below w'.heap.size w' w'') := fun k h w' h' => same_any _ _ w' (hn _ (List.getElem_mem h)).1 hs (Utf8Tabs_below hT h')
  clear hr hn hT
  go_enter Tryz.func135, Tryz.ntmps135
  go_wp2_with fail
  go_loopw [5, 10] (fun r i wr => r = .bool false ∧ ∃ k : Nat, k ≤ l.length ∧ i = .int .i64 (k : Int) ∧ Hid (∀ (j : Nat) (h : j < l.length), j < k → sameL l[j].n.data.toList s.data.toList = false) ∧ wr.heap[w.heap.size]? = some (.cells #[.int .i64 0, .int .i64 0, .string ⟨#[]⟩] 76) ∧ Below w.heap.size w wr) (fun _ i _ => l.length - (intOf i).toNat)
  case atStart => exact ⟨rfl, 0, Nat.zero_le _, rfl, fun j h hj => absurd hj (Nat.not_lt_zero _), new_at _ _, al_b _ _⟩
  case round =>
    obtain ⟨rfl, k, hk, rfl, HO, hZ, hB⟩ := hrel
    by_cases hlk : k < l.length
    · have dk : decide ((k : Int) < l.length) = true := by simp; omega
      obtain ⟨b, off, rfl, hlt, hcap, hc⟩ := a_at (HR.out.below hB) (by omega)
      obtain ⟨ck0, ck1, ck2, ck3⟩ := hc k hlk
      have hAl := al_b wr (.cells #[.string l[k].n, .int .i64 l[k].k, .int .i64 l[k].v, .string l[k].s] 78)
      have hzl : w.heap.size < wr.heap.size := (Array.getElem?_eq_some_iff.1 hZ).1
      have hB1 := hB.trans (hAl.mono hB.size)
      have HSk : Hid (Calls Tryz.prog 48 #[.string l[k].n, .string s] (wr.alloc (.cells #[.string l[k].n, .int .i64 l[k].k, .int .i64 l[k].v, .string l[k].s] 78)) fun e w'' => e = .returned (.bool (sameL l[k].n.data.toList s.data.toList)) ∧ Below (wr.alloc (.cells #[.string l[k].n, .int .i64 l[k].k, .int .i64 l[k].v, .string l[k].s] 78)).heap.size (wr.alloc (.cells #[.string l[k].n, .int .i64 l[k].k, .int .i64 l[k].v, .string l[k].s] 78)) w'') := HS.out k hlk _ hB1
      have HN : Hid (∀ w', Below (wr.alloc (.cells #[.string l[k].n, .int .i64 l[k].k, .int .i64 l[k].v, .string l[k].s] 78)).heap.size (wr.alloc (.cells #[.string l[k].n, .int .i64 l[k].k, .int .i64 l[k].v, .string l[k].s] 78)) w' → w'.heap[w.heap.size]? = some (.cells #[.int .i64 0, .int .i64 0, .string ⟨#[]⟩] 76) ∧ w'.heap[wr.heap.size]? = some (.cells #[.string l[k].n, .int .i64 l[k].k, .int .i64 l[k].v, .string l[k].s] 78) ∧ Below w.heap.size w w') := fun w' h =>
        ⟨(h.block _ (Nat.lt_of_lt_of_le hzl hAl.size)).trans ((hAl.block _ hzl).trans hZ), (h.block _ (by simp)).trans (new_at _ _), hB1.trans (h.mono hB1.size)⟩
      cases hsm : sameL l[k].n.data.toList s.data.toList with
      | true =>
        have HY : Hid (getA l s = some l[k]) := getA_at hlk HO.out hsm
        rw [hsm] at HSk
        generalize l[k]'hlk = x at *
        obtain ⟨n, kk, m, tt⟩ := x
        clear hc HO hAl hB1 hsm
        go_wp2_with fail
        refine HSk.out.mono ?_
        rintro e w1 ⟨rfl, hb⟩
        obtain ⟨y0, y1, y2⟩ := HN.out w1 hb
        obtain ⟨c0, c1, c2, f0, f1, f2⟩ := z3 y0
        obtain ⟨d0, d1, d2, d3⟩ := z4 y1
        have HBB : Hid (Below w.heap.size w w1) := y2
        clear hb y0 y1 y2 hB
        go_wp2
        try simp only [Exit.inBlock, Exit.then]
        refine bodyPost_ret (v := .tuple #[.agg #[.int .i64 kk, .int .i64 m, .string tt], .bool true]) ?_ rfl ⟨by rw [HY.out]; rfl, set3_b HBB.out _ _ _⟩
        rw [results_cell_tmp rfl]; go_simp
      | false =>
        have HO2 : Hid (∀ (j : Nat) (h : j < l.length), j < k + 1 → sameL l[j].n.data.toList s.data.toList = false) := fun j h hj => by
          by_cases e : j = k
          · subst e; exact hsm
          · exact HO.out j h (by omega)
        rw [hsm] at HSk
        generalize l[k]'hlk = x at *
        obtain ⟨n, kk, m, tt⟩ := x
        clear hc HO hAl hB1 hsm
        go_wp2_with fail
        refine HSk.out.mono ?_
        rintro e w1 ⟨rfl, hb⟩
        obtain ⟨y0, y1, y2⟩ := HN.out w1 hb
        clear hb y1 hB
        go_wp2
        go_roundw
        case rel => exact ⟨rfl, k + 1, by omega, by simp, HO2, y0, y2⟩
        case measure => simp [intOf]; omega
    · have hk' : k = l.length := by omega
      subst hk'
      have dk : decide ((l.length : Int) < l.length) = false := by simp
      have HY : Hid (getA l s = none) := getA_no (fun j hj => HO.out j hj hj)
      clear HO
      have HBB : Hid (Below w.heap.size w wr) := hB
      obtain ⟨c0, c1, c2, f0, f1, f2⟩ := z3 hZ
      clear hB hZ
      go_wp2
      try simp only [Exit.inBlock, Exit.then]
      refine bodyPost_ret (v := .tuple #[.agg #[.int .i64 0, .int .i64 0, .string ⟨#[]⟩], .bool false]) ?_ rfl ⟨by rw [HY.out]; rfl, set3_b HBB.out _ _ _⟩
      rw [results_cell_tmp rfl]; go_simp
end Go.Proofs.YtacpllmlpmllbaaGreatDoor
/- schema.isIn, schema.Within: walks. -/
namespace Go.Proofs.YtacpllmlpmllbaaGreatDoor
open Go.RowKit

/-- The same field, but for how its name is written. -/
def sameF (x y : Fd) : Bool := decide (x.k = y.k) && (decide (x.m = y.m) && sameL x.n.data.toList y.n.data.toList)
def isInL (x : Fd) (l : List Fd) : Bool := l.any (sameF x)
def withinL (a b : List Fd) : Bool := a.all fun x => isInL x b
theorem isIn_yes {x : Fd} {l : List Fd} {k : Nat} (h : k < l.length) (hk : sameF x l[k] = true) : isInL x l = true := List.any_eq_true.2 ⟨_, List.getElem_mem h, hk⟩
theorem isIn_no {x : Fd} {l : List Fd} (h : ∀ (k : Nat) (hk : k < l.length), sameF x l[k] = false) : isInL x l = false := by
  unfold isInL
  rw [List.any_eq_false]
  intro y hy
  obtain ⟨j, hj, rfl⟩ := List.getElem_of_mem hy
  rw [h j hj]
  exact Bool.false_ne_true
theorem within_no {a b : List Fd} {k : Nat} (h : k < a.length) (hk : isInL a[k] b = false) : withinL a b = false := by
  unfold withinL
  rw [List.all_eq_false]
  exact ⟨_, List.getElem_mem h, by rw [hk]; exact Bool.false_ne_true⟩
theorem within_yes {a b : List Fd} (h : ∀ (k : Nat) (hk : k < a.length), isInL a[k] b = true) : withinL a b = true := by
  unfold withinL
  rw [List.all_eq_true]
  intro y hy
  obtain ⟨j, hj, rfl⟩ := List.getElem_of_mem hy
  exact h j hj
set_option maxRecDepth 100000 in
set_option maxHeartbeats 2000000 in
theorem isIn_any (x : Fd) (v : Value) (l : List Fd) (w : World) (hr : IsRow w 3 v l.length (fCells l)) (hl : l.length ≤ 1000000) (hx : x.n.size ≤ 1000000) (hn : NmF l) (hT : UT w) :
    Calls Tryz.prog 187 #[fV x, v] w fun e w' => e = .returned (.bool (isInL x l)) ∧ Below w.heap.size w w' := by
  obtain ⟨a0, cap0, rfl⟩ := hr.form
  have HR : Hid (IsRow w 3 (.slice a0 l.length cap0) l.length (fCells l)) := hr
  have HS : Hid (∀ (k : Nat) (h : k < l.length) (w' : World), Below w.heap.size w w' → Calls Tryz.prog 48 #[.string x.n, .string l[k].n] w' fun e w'' => e = .returned (.bool (sameL x.n.data.toList l[k].n.data.toList)) ∧ Below w'.heap.size w' w'') := fun k h w' h' => same_any _ _ w' hx (hn _ (List.getElem_mem h)) (Utf8Tabs_below hT h')
  clear hr hn hT hx
  obtain ⟨n, kk, m⟩ := x
  have hA := al_b w (.cells #[.string n, .int .i64 kk, .bool m] 110)
  go_enter Tryz.func187, Tryz.ntmps187
  go_wp2_with fail
  go_loopw [4, 9] (fun r i wr => r = .bool false ∧ ∃ k : Nat, k ≤ l.length ∧ i = .int .i64 (k : Int) ∧ Hid (∀ (j : Nat) (h : j < l.length), j < k → sameF ⟨n, kk, m⟩ l[j] = false) ∧ wr.heap[w.heap.size]? = some (.cells #[.string n, .int .i64 kk, .bool m] 110) ∧ Below w.heap.size w wr) (fun _ i _ => l.length - (intOf i).toNat)
  case atStart => exact ⟨rfl, 0, Nat.zero_le _, rfl, fun j h hj => absurd hj (Nat.not_lt_zero _), new_at _ _, hA⟩
  case round =>
    obtain ⟨rfl, k, hk, rfl, HO, hZ, hB⟩ := hrel
    clear hA
    by_cases hlk : k < l.length
    · have dk : decide ((k : Int) < l.length) = true := by simp; omega
      obtain ⟨b, off, rfl, hlt, hcap, hc⟩ := f_at (HR.out.below hB) (by omega)
      obtain ⟨ck0, ck1, ck2⟩ := hc k hlk
      have hAl := al_b wr (.cells #[.string l[k].n, .int .i64 l[k].k, .bool l[k].m] 110)
      have hzl : w.heap.size < wr.heap.size := (Array.getElem?_eq_some_iff.1 hZ).1
      have hB1 := hB.trans (hAl.mono hB.size)
      have hZ1 := (hAl.block _ hzl).trans hZ
      obtain ⟨z0, z1, z2, -, -, -⟩ := z3 hZ1
      have HSk : Hid (Calls Tryz.prog 48 #[.string n, .string l[k].n] (wr.alloc (.cells #[.string l[k].n, .int .i64 l[k].k, .bool l[k].m] 110)) fun e w'' => e = .returned (.bool (sameL n.data.toList l[k].n.data.toList)) ∧ Below (wr.alloc (.cells #[.string l[k].n, .int .i64 l[k].k, .bool l[k].m] 110)).heap.size (wr.alloc (.cells #[.string l[k].n, .int .i64 l[k].k, .bool l[k].m] 110)) w'') := HS.out k hlk _ hB1
      have HN : Hid (∀ w', Below (wr.alloc (.cells #[.string l[k].n, .int .i64 l[k].k, .bool l[k].m] 110)).heap.size (wr.alloc (.cells #[.string l[k].n, .int .i64 l[k].k, .bool l[k].m] 110)) w' → w'.heap[w.heap.size]? = some (.cells #[.string n, .int .i64 kk, .bool m] 110) ∧ Below w.heap.size w w') := fun w' h =>
        ⟨(h.block _ (Nat.lt_of_lt_of_le hzl hAl.size)).trans hZ1, hB1.trans (h.mono hB1.size)⟩
      have HNz := HN.out _ (Below.refl _ _)
      have HO2 : Hid (sameF ⟨n, kk, m⟩ l[k] = false → ∀ (j : Nat) (h : j < l.length), j < k + 1 → sameF ⟨n, kk, m⟩ l[j] = false) := fun hs j h hj => by
        by_cases e : j = k
        · subst e; exact hs
        · exact HO.out j h (by omega)
      have HY : Hid (sameF ⟨n, kk, m⟩ l[k] = true → isInL ⟨n, kk, m⟩ l = true) := fun hs => isIn_yes hlk hs
      have HD : Hid (sameF ⟨n, kk, m⟩ l[k] = (decide (kk = l[k].k) && (decide (m = l[k].m) && sameL n.data.toList l[k].n.data.toList))) := rfl
      generalize sameL n.data.toList l[k].n.data.toList = r at *
      generalize sameF ⟨n, kk, m⟩ l[k] = q at *
      generalize l[k]'hlk = y at *
      obtain ⟨n', kk', m'⟩ := y
      have HDD : Hid (q = (decide (kk = kk') && (decide (m = m') && r))) := HD.out
      clear hc HO hAl hB1 HD hZ1
      by_cases hkk : kk = kk'
      · have hkd := decide_eq_true hkk
        subst hkk
        by_cases hm : m = m'
        · have hq : q = r := by rw [HDD.out, hkd, decide_eq_true hm]; rfl
          subst hm
          clear HDD HNz hkd
          cases m with
          | false =>
            cases r with
            | true =>
              go_wp2_with fail
              refine HSk.out.mono ?_
              rintro e w1 ⟨rfl, hb⟩
              have HBB : Hid (Below w.heap.size w w1) := (HN.out w1 hb).2
              clear hb hB
              go_wp2
              go_ret
              exact ⟨by rw [HY.out hq]; rfl, HBB.out⟩
            | false =>
              go_wp2_with fail
              refine HSk.out.mono ?_
              rintro e w1 ⟨rfl, hb⟩
              have HBB : Hid (w1.heap[w.heap.size]? = some (.cells #[.string n, .int .i64 kk, .bool _] 110) ∧ Below w.heap.size w w1) := HN.out w1 hb
              clear hb hB
              go_wp2
              go_roundw
              case rel => exact ⟨rfl, k + 1, by omega, by simp, HO2.out hq, HBB.out.1, HBB.out.2⟩
              case measure => simp [intOf]; omega
          | true =>
            cases r with
            | true =>
              go_wp2_with fail
              refine HSk.out.mono ?_
              rintro e w1 ⟨rfl, hb⟩
              have HBB : Hid (Below w.heap.size w w1) := (HN.out w1 hb).2
              clear hb hB
              go_wp2
              go_ret
              exact ⟨by rw [HY.out hq]; rfl, HBB.out⟩
            | false =>
              go_wp2_with fail
              refine HSk.out.mono ?_
              rintro e w1 ⟨rfl, hb⟩
              have HBB : Hid (w1.heap[w.heap.size]? = some (.cells #[.string n, .int .i64 kk, .bool _] 110) ∧ Below w.heap.size w w1) := HN.out w1 hb
              clear hb hB
              go_wp2
              go_roundw
              case rel => exact ⟨rfl, k + 1, by omega, by simp, HO2.out hq, HBB.out.1, HBB.out.2⟩
              case measure => simp [intOf]; omega
        · have hq : q = false := by rw [HDD.out, decide_eq_false hm]; simp
          clear HDD hB hkd
          cases m with
          | false =>
            cases m' with
            | false => exact absurd rfl hm
            | true =>
              clear hm
              go_wp2
              go_roundw
              case rel => exact ⟨rfl, k + 1, by omega, by simp, HO2.out hq, HNz.1, HNz.2⟩
              case measure => simp [intOf]; omega
          | true =>
            cases m' with
            | true => exact absurd rfl hm
            | false =>
              clear hm
              go_wp2
              go_roundw
              case rel => exact ⟨rfl, k + 1, by omega, by simp, HO2.out hq, HNz.1, HNz.2⟩
              case measure => simp [intOf]; omega
      · have dkk : (kk == kk') = false := by rw [beq_eq_false_iff_ne]; exact hkk
        have hq : q = false := by rw [HDD.out, decide_eq_false hkk]; simp
        clear HDD hB
        go_wp2
        go_roundw
        case rel => exact ⟨rfl, k + 1, by omega, by simp, HO2.out hq, HNz.1, HNz.2⟩
        case measure => simp [intOf]; omega
    · have hk' : k = l.length := by omega
      subst hk'
      have dk : decide ((l.length : Int) < l.length) = false := by simp
      have HY : Hid (isInL ⟨n, kk, m⟩ l = false) := isIn_no (fun j hj => HO.out j hj hj)
      clear HO
      have HBB : Hid (Below w.heap.size w wr) := hB
      clear hB hZ
      go_wp2
      go_ret
      exact ⟨by rw [HY.out]; rfl, HBB.out⟩
set_option maxRecDepth 100000 in
set_option maxHeartbeats 2000000 in
theorem withinF_any (v u : Value) (a l : List Fd) (w : World) (hq : IsRow w 3 v a.length (fCells a)) (hr : IsRow w 3 u l.length (fCells l)) (hal : a.length ≤ 1000000) (hl : l.length ≤ 1000000) (hna : NmF a) (hn : NmF l) (hT : UT w) :
    Calls Tryz.prog 128 #[v, u] w fun e w' => e = .returned (.bool (withinL a l)) ∧ Below w.heap.size w w' := by
  obtain ⟨a0, cap0, rfl⟩ := hq.form
  have HR : Hid (IsRow w 3 (.slice a0 a.length cap0) a.length (fCells a)) := hq
  have HI : Hid (∀ (k : Nat) (h : k < a.length) (w' : World), Below w.heap.size w w' → Calls Tryz.prog 187 #[fV a[k], u] w' fun e w'' => e = .returned (.bool (isInL a[k] l)) ∧ Below w'.heap.size w' w'') := fun k h w' h' => isIn_any _ u l w' (hr.below h') hl (hna _ (List.getElem_mem h)) hn (Utf8Tabs_below hT h')
  clear hq hr hn hna hT
  go_enter Tryz.func128, Tryz.ntmps128
  go_wp2_with fail
  go_loopw [4, 9] (fun r i wr => r = .bool false ∧ ∃ k : Nat, k ≤ a.length ∧ i = .int .i64 (k : Int) ∧ Hid (∀ (j : Nat) (h : j < a.length), j < k → isInL a[j] l = true) ∧ Below w.heap.size w wr) (fun _ i _ => a.length - (intOf i).toNat)
  case atStart => exact ⟨rfl, 0, Nat.zero_le _, rfl, fun j h hj => absurd hj (Nat.not_lt_zero _), Below.refl _ _⟩
  case round =>
    obtain ⟨rfl, k, hk, rfl, HO, hB⟩ := hrel
    by_cases hlk : k < a.length
    · have dk : decide ((k : Int) < a.length) = true := by simp; omega
      obtain ⟨b, off, rfl, hlt, hcap, hc⟩ := f_at (HR.out.below hB) (by omega)
      obtain ⟨ck0, ck1, ck2⟩ := hc k hlk
      have hAl := al_b wr (.cells #[.string a[k].n, .int .i64 a[k].k, .bool a[k].m] 110)
      have hB1 := hB.trans (hAl.mono hB.size)
      have HIk : Hid (Calls Tryz.prog 187 #[fV a[k], u] (wr.alloc (.cells #[.string a[k].n, .int .i64 a[k].k, .bool a[k].m] 110)) fun e w'' => e = .returned (.bool (isInL a[k] l)) ∧ Below (wr.alloc (.cells #[.string a[k].n, .int .i64 a[k].k, .bool a[k].m] 110)).heap.size (wr.alloc (.cells #[.string a[k].n, .int .i64 a[k].k, .bool a[k].m] 110)) w'') := HI.out k hlk _ hB1
      have HBw : Hid (∀ w', Below (wr.alloc (.cells #[.string a[k].n, .int .i64 a[k].k, .bool a[k].m] 110)).heap.size (wr.alloc (.cells #[.string a[k].n, .int .i64 a[k].k, .bool a[k].m] 110)) w' → Below w.heap.size w w') := fun w' h => hB1.trans (h.mono hB1.size)
      have HO2 : Hid (isInL a[k] l = true → ∀ (j : Nat) (h : j < a.length), j < k + 1 → isInL a[j] l = true) := fun hs j h hj => by
        by_cases e : j = k
        · subst e; exact hs
        · exact HO.out j h (by omega)
      have HNo : Hid (isInL a[k] l = false → withinL a l = false) := fun hs => within_no hlk hs
      generalize isInL a[k] l = q at *
      generalize a[k]'hlk = y at *
      obtain ⟨n', kk', m'⟩ := y
      clear hc HO hAl hB1 hB
      cases q with
      | false =>
        go_wp2_with fail
        refine HIk.out.mono ?_
        rintro e w1 ⟨rfl, hb⟩
        have HBB : Hid (Below w.heap.size w w1) := HBw.out w1 hb
        clear hb
        go_wp2
        go_ret
        exact ⟨by rw [HNo.out (by trivial)]; rfl, HBB.out⟩
      | true =>
        go_wp2_with fail
        refine HIk.out.mono ?_
        rintro e w1 ⟨rfl, hb⟩
        have HBB : Hid (Below w.heap.size w w1) := HBw.out w1 hb
        clear hb
        go_wp2
        go_roundw
        case rel => exact ⟨rfl, k + 1, by omega, by simp, HO2.out (by trivial), HBB.out⟩
        case measure => simp [intOf]; omega
    · have hk' : k = a.length := by omega
      subst hk'
      have dk : decide ((a.length : Int) < a.length) = false := by simp
      have HY : Hid (withinL a l = true) := within_yes (fun j hj => HO.out j hj hj)
      clear HO
      have HBB : Hid (Below w.heap.size w wr) := hB
      clear hB
      go_wp2
      go_ret
      exact ⟨by rw [HY.out]; rfl, HBB.out⟩
end Go.Proofs.YtacpllmlpmllbaaGreatDoor
/- schema.Fits: its walk. -/
namespace Go.Proofs.YtacpllmlpmllbaaGreatDoor
open Go.RowKit

/-- What of the attributes does not fit, if anything does not. -/
def fit1 (l : List Fd) : List At → Int
  | [] => 0
  | x :: r => match getF l x.n with
    | none => 4
    | some f => if f.k = x.k then fit1 l r else 8
/-- Is a field that must be there not there? -/
def fit2 (a : List At) : List Fd → Int
  | [] => 0
  | f :: r => if f.m = true ∧ (getA a f.n).isSome = false then 7 else fit2 a r
def fitsL (l : List Fd) (a : List At) : Int := if chkF l = true ∧ chkA a = true then (if fit1 l a = 0 then fit2 a l else fit1 l a) else 1
theorem fit1_at {l : List Fd} {a : List At} {k : Nat} (h : k < a.length) : fit1 l (a.drop k) = match getF l a[k].n with
    | none => 4
    | some f => if f.k = a[k].k then fit1 l (a.drop (k + 1)) else 8 := by
  rw [List.drop_eq_getElem_cons h]; rfl
theorem fit2_at {l : List Fd} {a : List At} {k : Nat} (h : k < l.length) : fit2 a (l.drop k) = if l[k].m = true ∧ (getA a l[k].n).isSome = false then 7 else fit2 a (l.drop (k + 1)) := by
  rw [List.drop_eq_getElem_cons h]; rfl
theorem z4' {w w' : World} {b : Nat} {x y z u : Value} {t : TypeId} {B : Nat} (h : w.heap[b]? = some (.cells #[x, y, z, u] t)) (hb : Below B w w') (hl : b < B) : w'.heap[b]? = some (.cells #[x, y, z, u] t) := (hb.block _ hl).trans h
set_option maxRecDepth 100000 in
set_option maxHeartbeats 4000000 in
theorem fits_any (v u : Value) (l : List Fd) (a : List At) (w : World) (hr : IsRow w 3 v l.length (fCells l)) (hq : IsRow w 4 u a.length (aCells a)) (hl : l.length ≤ 1000000) (hal : a.length ≤ 1000000) (hn : NmF l) (hna : NmA a) (hT : UT w) (hM : ML w) :
    Calls Tryz.prog 83 #[v, u] w fun e w' => e = .returned (.int .i64 (fitsL l a)) ∧ Below w.heap.size w w' := by
  obtain ⟨a0, cap0, rfl⟩ := hr.form
  obtain ⟨a1, cap1, rfl⟩ := hq.form
  have HR : Hid (∀ w', Below w.heap.size w w' → IsRow w' 3 (.slice a0 l.length cap0) l.length (fCells l)) := fun w' h => hr.below h
  have HQ : Hid (∀ w', Below w.heap.size w w' → IsRow w' 4 (.slice a1 a.length cap1) a.length (aCells a)) := fun w' h => hq.below h
  have HCF : Hid (Calls Tryz.prog 126 #[.slice a0 l.length cap0] w fun e w'' => e = .returned (.bool (chkF l)) ∧ Below w.heap.size w w'') := checkF_any _ l w hr hl hn hT hM
  have HCA : Hid (∀ w', Below w.heap.size w w' → Calls Tryz.prog 43 #[.slice a1 a.length cap1] w' fun e w'' => e = .returned (.bool (chkA a)) ∧ Below w'.heap.size w' w'') := fun w' h => attrs_any _ a w' (hq.below h) hal hna (Utf8Tabs_below hT h) (ML_below hM h)
  have HF : Hid (∀ (k : Nat) (hk : k < a.length) w', Below w.heap.size w w' → Calls Tryz.prog 69 #[.slice a0 l.length cap0, .string a[k].n] w' fun e w'' => e = .returned (.tuple #[fV ((getF l a[k].n).getD zF), .bool (getF l a[k].n).isSome]) ∧ Below w'.heap.size w' w'') := fun k hk w' h => find_any _ l _ w' (hr.below h) hl hn (hna _ (List.getElem_mem hk)).1 (Utf8Tabs_below hT h)
  have HG : Hid (∀ (k : Nat) (hk : k < l.length) w', Below w.heap.size w w' → Calls Tryz.prog 135 #[.slice a1 a.length cap1, .string l[k].n] w' fun e w'' => e = .returned (.tuple #[vOf (getA a l[k].n), .bool (getA a l[k].n).isSome]) ∧ Below w'.heap.size w' w'') := fun k hk w' h => get_any _ a _ w' (hq.below h) hal hna (hn _ (List.getElem_mem hk)) (Utf8Tabs_below hT h)
  clear hr hq hn hna hT hM
  cases hcl : chkF l with
  | false =>
    have e0 : fitsL l a = 1 := by unfold fitsL; rw [hcl]; simp
    rw [hcl] at HCF
    rw [e0]
    go_enter Tryz.func83, Tryz.ntmps83
    go_wp2_with fail
    refine HCF.out.mono ?_
    rintro e w1 ⟨rfl, hb⟩
    have HB : Hid (Below w.heap.size w w1) := hb
    clear hb
    go_wp2
    go_ret
    exact ⟨rfl, HB.out⟩
  | true =>
  rw [hcl] at HCF
  cases hca : chkA a with
  | false =>
    have e0 : fitsL l a = 1 := by unfold fitsL; rw [hca]; simp
    rw [hca] at HCA
    rw [e0]
    go_enter Tryz.func83, Tryz.ntmps83
    go_wp2_with fail
    refine HCF.out.mono ?_
    rintro e w1 ⟨rfl, hb⟩
    have HB : Hid (Below w.heap.size w w1) := hb
    clear hb
    go_wp2_with fail
    refine (HCA.out w1 HB.out).mono ?_
    rintro e w2 ⟨rfl, hb⟩
    have HB2 : Hid (Below w.heap.size w w2) := HB.out.trans (hb.mono HB.out.size)
    clear hb
    go_wp2
    go_ret
    exact ⟨rfl, HB2.out⟩
  | true =>
  rw [hca] at HCA
  have HE : Hid (fitsL l a = if fit1 l a = 0 then fit2 a l else fit1 l a) := by show _ = _; unfold fitsL; rw [hcl, hca, if_pos ⟨rfl, rfl⟩]
  clear hcl hca
  go_enter Tryz.func83, Tryz.ntmps83
  go_wp2_with fail
  refine HCF.out.mono ?_
  rintro e w1 ⟨rfl, hb⟩
  have HB : Hid (Below w.heap.size w w1) := hb
  clear hb
  go_wp2_with fail
  refine (HCA.out w1 HB.out).mono ?_
  rintro e w2 ⟨rfl, hb⟩
  have HB2 : Hid (Below w.heap.size w w2) := HB.out.trans (hb.mono HB.out.size)
  clear hb
  go_wp2_with fail
  go_loopw [4, 23] (fun r i wr => r = .int .i64 0 ∧ ∃ k : Nat, k ≤ a.length ∧ i = .int .i64 (k : Int) ∧ Hid (fit1 l a = fit1 l (a.drop k)) ∧ Below w.heap.size w wr) (fun _ i _ => a.length - (intOf i).toNat)
  case atStart => exact ⟨rfl, 0, Nat.zero_le _, rfl, rfl, HB2.out⟩
  case round =>
    obtain ⟨rfl, k, hk, rfl, HO, hB⟩ := hrel
    by_cases hlk : k < a.length
    · have dk : decide ((k : Int) < a.length) = true := by simp; omega
      obtain ⟨b, off, rfl, hlt, hcap, hc⟩ := a_at (HQ.out wr hB) (by omega)
      obtain ⟨ck0, ck1, ck2, ck3⟩ := hc k hlk
      have hAl := al_b wr (.cells #[.string a[k].n, .int .i64 a[k].k, .int .i64 a[k].v, .string a[k].s] 78)
      have hB1 := hB.trans (hAl.mono hB.size)
      have HFk : Hid (Calls Tryz.prog 69 #[.slice a0 l.length cap0, .string a[k].n] (wr.alloc (.cells #[.string a[k].n, .int .i64 a[k].k, .int .i64 a[k].v, .string a[k].s] 78)) fun e w'' => e = .returned (.tuple #[fV ((getF l a[k].n).getD zF), .bool (getF l a[k].n).isSome]) ∧ Below (wr.alloc (.cells #[.string a[k].n, .int .i64 a[k].k, .int .i64 a[k].v, .string a[k].s] 78)).heap.size (wr.alloc (.cells #[.string a[k].n, .int .i64 a[k].k, .int .i64 a[k].v, .string a[k].s] 78)) w'') := HF.out k hlk _ hB1
      have HN : Hid (∀ w', Below (wr.alloc (.cells #[.string a[k].n, .int .i64 a[k].k, .int .i64 a[k].v, .string a[k].s] 78)).heap.size (wr.alloc (.cells #[.string a[k].n, .int .i64 a[k].k, .int .i64 a[k].v, .string a[k].s] 78)) w' → w'.cell? ⟨wr.heap.size, 1, none⟩ = some (.int .i64 a[k].k) ∧ wr.heap.size < w'.heap.size ∧ Below w.heap.size w w') := fun w' h =>
        ⟨(h.cell (p := ⟨wr.heap.size, 1, none⟩) (by simp)).trans (by simp), Nat.lt_of_lt_of_le (by simp) h.size, hB1.trans (h.mono hB1.size)⟩
      have HS := fit1_at (l := l) hlk
      rw [← HO.out] at HS
      generalize hg : getF l a[k].n = g at *
      cases g with
      | none =>
        have HS2 : Hid (fit1 l a = 4) := HS
        generalize a[k]'hlk = x at *
        obtain ⟨n, kk, nn, tt⟩ := x
        clear hc HO hAl hB1 HS hg
        go_wp2_with fail
        refine HFk.out.mono ?_
        rintro e w3 ⟨rfl, hb⟩
        obtain ⟨y0, y1, y2⟩ := HN.out w3 hb
        have HBB : Hid (Below w.heap.size w w3) := y2
        clear hb y2 hB HFk
        go_wp2
        go_ret
        exact ⟨by rw [HE.out, HS2.out]; rfl, HBB.out.trans ((al_b w3 _).mono HBB.out.size)⟩
      | some f =>
        obtain ⟨fn, fk, fm⟩ := f
        by_cases hkk : fk = a[k].k
        · have HS2 : Hid (fit1 l a = fit1 l (a.drop (k + 1))) := HS.trans (if_pos hkk)
          have dn : (fk != a[k].k) = false := by rw [hkk]; simp
          generalize a[k]'hlk = x at *
          obtain ⟨n, kk, nn, tt⟩ := x
          clear hc HO hAl hB1 HS hg hkk
          go_wp2_with fail
          refine HFk.out.mono ?_
          rintro e w3 ⟨rfl, hb⟩
          obtain ⟨y0, y1, y2⟩ := HN.out w3 hb
          have HBB : Hid (Below w.heap.size w w3) := y2
          clear hb y2 hB HFk
          go_wp2
          go_roundw
          case rel => exact ⟨rfl, k + 1, by omega, by simp, HS2, HBB.out.trans ((al_b w3 _).mono HBB.out.size)⟩
          case measure => simp [intOf]; omega
        · have HS2 : Hid (fit1 l a = 8) := HS.trans (if_neg hkk)
          have dn : (fk != a[k].k) = true := by rw [bne_iff_ne]; exact hkk
          generalize a[k]'hlk = x at *
          obtain ⟨n, kk, nn, tt⟩ := x
          clear hc HO hAl hB1 HS hg hkk
          go_wp2_with fail
          refine HFk.out.mono ?_
          rintro e w3 ⟨rfl, hb⟩
          obtain ⟨y0, y1, y2⟩ := HN.out w3 hb
          have HBB : Hid (Below w.heap.size w w3) := y2
          clear hb y2 hB HFk
          go_wp2
          go_ret
          exact ⟨by rw [HE.out, HS2.out]; rfl, HBB.out.trans ((al_b w3 _).mono HBB.out.size)⟩
    · have hk' : k = a.length := by omega
      subst hk'
      have dk : decide ((a.length : Int) < a.length) = false := by simp
      have HE2 : Hid (fitsL l a = fit2 a l) := by
        have : fit1 l a = 0 := by rw [HO.out, List.drop_length]; rfl
        show _ = _
        rw [HE.out, if_pos this]
      clear HO HE
      have HBr : Hid (Below w.heap.size w wr) := hB
      clear hB
      go_wp2_with fail
      go_loopw [4, 45] (fun r i wq => r = .int .i64 0 ∧ ∃ k : Nat, k ≤ l.length ∧ i = .int .i64 (k : Int) ∧ Hid (fit2 a l = fit2 a (l.drop k)) ∧ Below w.heap.size w wq) (fun _ i _ => l.length - (intOf i).toNat)
      case atStart => exact ⟨rfl, 0, Nat.zero_le _, rfl, rfl, HBr.out⟩
      case round =>
        clear HBr
        obtain ⟨rfl, k, hk2, rfl, HO, hB⟩ := hrel
        by_cases hlk : k < l.length
        · have dk2 : decide ((k : Int) < l.length) = true := by simp; omega
          obtain ⟨b, off, rfl, hlt, hcap, hc⟩ := f_at (HR.out _ hB) (by omega)
          obtain ⟨ck0, ck1, ck2⟩ := hc k hlk
          have hAl := al_b wr (.cells #[.string l[k].n, .int .i64 l[k].k, .bool l[k].m] 110)
          have hB1 := hB.trans (hAl.mono hB.size)
          have HGk : Hid (Calls Tryz.prog 135 #[.slice a1 a.length cap1, .string l[k].n] (wr.alloc (.cells #[.string l[k].n, .int .i64 l[k].k, .bool l[k].m] 110)) fun e w'' => e = .returned (.tuple #[vOf (getA a l[k].n), .bool (getA a l[k].n).isSome]) ∧ Below (wr.alloc (.cells #[.string l[k].n, .int .i64 l[k].k, .bool l[k].m] 110)).heap.size (wr.alloc (.cells #[.string l[k].n, .int .i64 l[k].k, .bool l[k].m] 110)) w'') := HG.out k hlk _ hB1
          have HN : Hid (∀ w', Below (wr.alloc (.cells #[.string l[k].n, .int .i64 l[k].k, .bool l[k].m] 110)).heap.size (wr.alloc (.cells #[.string l[k].n, .int .i64 l[k].k, .bool l[k].m] 110)) w' → w'.cell? ⟨wr.heap.size, 2, none⟩ = some (.bool l[k].m) ∧ wr.heap.size < w'.heap.size ∧ Below w.heap.size w w') := fun w' h =>
            ⟨(h.cell (p := ⟨wr.heap.size, 2, none⟩) (by simp)).trans (by simp), Nat.lt_of_lt_of_le (by simp) h.size, hB1.trans (h.mono hB1.size)⟩
          have HS := fit2_at (a := a) hlk
          rw [← HO.out] at HS
          have hvo : ∃ p q r, vOf (getA a l[k].n) = vv p q r := by
            cases getA a l[k].n with
            | none => exact ⟨_, _, _, rfl⟩
            | some x => exact ⟨_, _, _, rfl⟩
          obtain ⟨p, q, r, hvo⟩ := hvo
          rw [hvo] at HGk
          clear hvo
          generalize (getA a l[k].n).isSome = g at *
          by_cases hmg : l[k].m = true ∧ g = false
          · have HS2 : Hid (fit2 a l = 7) := HS.trans (if_pos hmg)
            obtain ⟨hm, rfl⟩ := hmg
            rw [hm] at ck2 HGk HN
            generalize l[k]'hlk = x at *
            obtain ⟨n, kk, m⟩ := x
            simp only at hm
            subst hm
            clear hc HO hAl hB1 HS
            go_wp2_with fail
            refine HGk.out.mono ?_
            rintro e w3 ⟨rfl, hb⟩
            obtain ⟨y0, y1, y2⟩ := HN.out w3 hb
            have HBB : Hid (Below w.heap.size w w3) := y2
            clear hb y2 hB HGk
            go_wp2
            go_ret
            exact ⟨by rw [HE2.out, HS2.out]; rfl, HBB.out.trans ((al_b w3 _).mono HBB.out.size)⟩
          · have HS2 : Hid (fit2 a l = fit2 a (l.drop (k + 1))) := HS.trans (if_neg hmg)
            generalize l[k]'hlk = x at *
            obtain ⟨n, kk, m⟩ := x
            simp only at hmg
            clear hc HO hAl hB1 HS
            cases m with
            | false =>
              clear hmg
              go_wp2_with fail
              refine HGk.out.mono ?_
              rintro e w3 ⟨rfl, hb⟩
              obtain ⟨y0, y1, y2⟩ := HN.out w3 hb
              have HBB : Hid (Below w.heap.size w w3) := y2
              clear hb y2 hB HGk
              go_wp2
              go_roundw
              case rel => exact ⟨rfl, k + 1, by omega, by simp, HS2, HBB.out.trans ((al_b w3 _).mono HBB.out.size)⟩
              case measure => simp [intOf]; omega
            | true =>
              obtain rfl : g = true := by cases g with
                | true => rfl
                | false => exact absurd ⟨rfl, rfl⟩ hmg
              clear hmg
              go_wp2_with fail
              refine HGk.out.mono ?_
              rintro e w3 ⟨rfl, hb⟩
              obtain ⟨y0, y1, y2⟩ := HN.out w3 hb
              have HBB : Hid (Below w.heap.size w w3) := y2
              clear hb y2 hB HGk
              go_wp2
              go_roundw
              case rel => exact ⟨rfl, k + 1, by omega, by simp, HS2, HBB.out.trans ((al_b w3 _).mono HBB.out.size)⟩
              case measure => simp [intOf]; omega
        · have hk' : k = l.length := by omega
          subst hk'
          have dk2 : decide ((l.length : Int) < l.length) = false := by simp
          have HE3 : Hid (fitsL l a = 0) := by
            show _ = _
            rw [HE2.out, HO.out, List.drop_length]; rfl
          clear HO HE2
          have HBB : Hid (Below w.heap.size w _) := hB
          clear hB
          go_wp2
          go_ret
          exact ⟨by rw [HE3.out]; rfl, HBB.out⟩
end Go.Proofs.YtacpllmlpmllbaaGreatDoor
/- schema.kindOf, schema.parseField: walks. -/
namespace Go.Proofs.YtacpllmlpmllbaaGreatDoor
open Go.RowKit

def wordK : Nat → List UInt8
  | 1 => [105, 110, 116]
  | 2 => [116, 101, 120, 116]
  | 3 => [98, 111, 111, 108]
  | _ => [98, 121, 116, 101, 115]
/-- The kind of a word. -/
def kindW (s : List UInt8) : Int := if s = wordK 1 then 1 else if s = wordK 2 then 2 else if s = wordK 3 then 3 else if s = wordK 4 then 4 else 0
theorem kindW_at {s : List UInt8} {k : Nat} (h1 : 1 ≤ k) (h2 : k < 5) (hb : ∀ j, 1 ≤ j → j < k → s ≠ wordK j) (hk : s = wordK k) : kindW s = (k : Int) := by
  have : k = 1 ∨ k = 2 ∨ k = 3 ∨ k = 4 := by omega
  unfold kindW
  rcases this with rfl | rfl | rfl | rfl
  · rw [if_pos hk]; rfl
  · rw [if_neg (hb 1 (by omega) (by omega)), if_pos hk]; rfl
  · rw [if_neg (hb 1 (by omega) (by omega)), if_neg (hb 2 (by omega) (by omega)), if_pos hk]; rfl
  · rw [if_neg (hb 1 (by omega) (by omega)), if_neg (hb 2 (by omega) (by omega)), if_neg (hb 3 (by omega) (by omega)), if_pos hk]; rfl
theorem kindW_no {s : List UInt8} (hb : ∀ j, 1 ≤ j → j < 5 → s ≠ wordK j) : kindW s = 0 := by
  unfold kindW
  rw [if_neg (hb 1 (by omega) (by omega)), if_neg (hb 2 (by omega) (by omega)), if_neg (hb 3 (by omega) (by omega)), if_neg (hb 4 (by omega) (by omega))]
end Go.Proofs.YtacpllmlpmllbaaGreatDoor
/- schema.parseField: its walk. -/
namespace Go.Proofs.YtacpllmlpmllbaaGreatDoor
open Go.RowKit

/-- The field that a text says. -/
def parseF (s : List UInt8) : Fd := ⟨str (Lib.cut s [32]).1, kindW (Lib.trimSuffix (Lib.cut s [32]).2.1 [33]), Lib.hasSuffix (Lib.cut s [32]).2.1 [33]⟩
theorem results_cell1 {fn : Func} {p : Tmp} {ty : TypeId} (h : fn.results = #[.cell p ty]) (tmps : Array Value) (P : Program) (w : World) :
    (results fn tmps).run P w = ((asAddr (tmps.getD p undef)).run P w).andThen fun a w₁ => (loadVar ty a).run P w₁ := by
  simp only [results, h]
  simp [Sem.run_bind, Result.andThen]
theorem cut_le (s sep : List UInt8) : (Lib.cut s sep).2.1.length ≤ s.length := by
  unfold Lib.cut
  split <;> simp
end Go.Proofs.YtacpllmlpmllbaaGreatDoor
