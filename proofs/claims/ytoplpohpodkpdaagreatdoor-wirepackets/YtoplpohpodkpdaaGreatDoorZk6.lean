/- quic.takeFlag, takeText, wholeOf, takeItem: one item at the front of bytes. -/
import Derived.Test.YtoplpohpodkpdaaGreatDoorZk5
import Derived.Test.YtoplpohpodkpdaaGreatDoorZk0
import Derived.RegionTactic
import Derived.Test.YtoplpohpodkpdaaGreatDoorZk3
import Derived.Test.YtoplpohpodkpdaaGreatDoorZk2
namespace Go.Proofs.YtoplpohpodkpdaaGreatDoor.Q
open Go.RowKit

def tfE (s : ByteArray) : Int := if s.size = 0 then 7 else if 1 < bt s 0 then 3 else 0
def tfV (s : ByteArray) : Int := if tfE s = 0 then bt s 0 else 0
def tfR (s : ByteArray) : ByteArray := if tfE s = 0 then s.extract 1 s.size else ⟨#[]⟩
def ttE (s : ByteArray) : Int := if getE s ≠ 0 then getE s else if 65536 < getV s then 2 else if ((getRest s).size : Int) < getV s then 7 else 0
def ttS (s : ByteArray) : ByteArray := if ttE s = 0 then (getRest s).extract 0 (getV s).toNat else ⟨#[]⟩
def ttR (s : ByteArray) : ByteArray := if ttE s = 0 then (getRest s).extract (getV s).toNat (getRest s).size else ⟨#[]⟩
def wof (n : Int) : Int := if n % 2 = 0 then n / 2 else -(n / 2) - 1

theorem gval_nn (s : ByteArray) : 0 ≤ gval s ∧ gval s ≤ 4611686018427387903 := by
  have r0 := bt_rng s 0; have r1 := bt_rng s 1; have r2 := bt_rng s 2; have r3 := bt_rng s 3
  have r4 := bt_rng s 4; have r5 := bt_rng s 5; have r6 := bt_rng s 6; have r7 := bt_rng s 7
  unfold gval
  split
  · omega
  split
  · omega
  split
  · omega
  · omega
theorem getV_nn (s : ByteArray) : 0 ≤ getV s ∧ getV s ≤ 4611686018427387903 := by
  unfold getV; split
  · exact gval_nn s
  · omega
theorem size_extract (s : ByteArray) (a b : Nat) (h : b ≤ s.size) : (s.extract a b).size = b - a := by
  rw [ByteArray.size_extract]; omega
theorem getRest_size (s : ByteArray) : (getRest s).size ≤ s.size := by
  unfold getRest; split
  · rw [size_extract _ _ _ (Nat.le_refl _)]; omega
  · exact Nat.zero_le _

set_option maxRecDepth 100000 in
set_option maxHeartbeats 1000000 in
theorem takeFlag_any (s : ByteArray) (w : World) (hs : s.size ≤ 140737488355328) :
    Calls Tryz.prog 76 #[.string s] w fun e w' => e = .returned (.tuple #[.int .i64 (tfV s), .string (tfR s), .int .i64 (tfE s)]) ∧ Below w.heap.size w w' := by
  by_cases h0 : s.size = 0
  · have e1 : tfE s = 7 := by unfold tfE; rw [if_pos h0]
    have e2 : tfV s = 0 := by unfold tfV; rw [if_neg (by omega)]
    have e3 : tfR s = ⟨#[]⟩ := by unfold tfR; rw [if_neg (by omega)]
    rw [e1, e2, e3]
    have hne : s.toList.isEmpty = true := isEmpty_to s h0
    go_enter Tryz.func76, Tryz.ntmps76
    go_wp2
    go_ret3
    exact ⟨rfl, Below.refl _ _⟩
  have hne : s.toList.isEmpty = false := isEmpty_of s (by omega)
  have hlt : (0:Int) < s.size := by omega
  have hlt0 : 0 < s.size := by omega
  have hbt := bt_eq (s := s) (i := 0) hlt0
  by_cases h1 : 1 < bt s 0
  · have e1 : tfE s = 3 := by unfold tfE; rw [if_neg h0, if_pos h1]
    have e2 : tfV s = 0 := by unfold tfV; rw [if_neg (by omega)]
    have e3 : tfR s = ⟨#[]⟩ := by unfold tfR; rw [if_neg (by omega)]
    rw [e1, e2, e3]
    have h1' : (1 : Int) < ((s[0]'hlt0).toNat : Int) := by omega
    clear hbt
    go_enter Tryz.func76, Tryz.ntmps76
    go_wp2
    go_ret3
    exact ⟨rfl, Below.refl _ _⟩
  · have e1 : tfE s = 0 := by unfold tfE; rw [if_neg h0, if_neg h1]
    have e2 : tfV s = bt s 0 := by unfold tfV; rw [if_pos e1]
    have e3 : tfR s = s.extract 1 s.size := by unfold tfR; rw [if_pos e1]
    rw [e1, e2, e3, ← hbt]
    have h1' : ¬ (1 : Int) < ((s[0]'hlt0).toNat : Int) := by omega
    have hlt2 : (1 : Int) ≤ s.size := by omega
    clear hbt
    go_enter Tryz.func76, Tryz.ntmps76
    go_wp2
    go_region
    all_goals go_wp2
    all_goals go_ret3
    all_goals exact ⟨rfl, by repeat (first | exact Below.refl _ _ | refine Below.drew ?_)⟩

set_option maxRecDepth 100000 in
set_option maxHeartbeats 1000000 in
theorem takeText_any (s : ByteArray) (w : World) (hs : s.size ≤ 140737488355328) :
    Calls Tryz.prog 77 #[.string s] w fun e w' => e = .returned (.tuple #[.string (ttS s), .string (ttR s), .int .i64 (ttE s)]) ∧ Below w.heap.size w w' := by
  have hv := getV_nn s
  have hr := getRest_size s
  by_cases h0 : getE s = 0
  · by_cases h1 : 65536 < getV s
    · have e1 : ttE s = 2 := by unfold ttE; rw [if_neg (by omega), if_pos h1]
      have e2 : ttS s = ⟨#[]⟩ := by unfold ttS; rw [if_neg (by omega)]
      have e3 : ttR s = ⟨#[]⟩ := by unfold ttR; rw [if_neg (by omega)]
      rw [e1, e2, e3]
      clear e1 e2 e3
      have H0 : Hid (getE s = 0) := h0
      clear h0
      go_enter Tryz.func77, Tryz.ntmps77
      go_wp2_with fail
      refine (get_any _ _ hs).mono ?_
      rintro e w1 ⟨rfl, hb1⟩
      rw [H0.out]
      go_wp2
      go_ret3
      exact ⟨rfl, hb1⟩
    · by_cases h2 : ((getRest s).size : Int) < getV s
      · have e1 : ttE s = 7 := by unfold ttE; rw [if_neg (by omega), if_neg h1, if_pos h2]
        have e2 : ttS s = ⟨#[]⟩ := by unfold ttS; rw [if_neg (by omega)]
        have e3 : ttR s = ⟨#[]⟩ := by unfold ttR; rw [if_neg (by omega)]
        rw [e1, e2, e3]
        clear e1 e2 e3
        have H0 : Hid (getE s = 0) := h0
        clear h0
        go_enter Tryz.func77, Tryz.ntmps77
        go_wp2_with fail
        refine (get_any _ _ hs).mono ?_
        rintro e w1 ⟨rfl, hb1⟩
        rw [H0.out]
        go_wp2
        go_ret3
        exact ⟨rfl, hb1⟩
      · have e1 : ttE s = 0 := by unfold ttE; rw [if_neg (by omega), if_neg h1, if_neg h2]
        have e2 : ttS s = (getRest s).extract 0 (getV s).toNat := by unfold ttS; rw [if_pos e1]
        have e3 : ttR s = (getRest s).extract (getV s).toNat (getRest s).size := by unfold ttR; rw [if_pos e1]
        rw [e1, e2, e3]
        clear e1 e2 e3
        have H0 : Hid (getE s = 0) := h0
        clear h0
        have h3 : getV s ≤ ((getRest s).size : Int) := by omega
        have h4 : (getV s).toNat ≤ (getRest s).size := by omega
        go_enter Tryz.func77, Tryz.ntmps77
        go_wp2_with fail
        refine (get_any _ _ hs).mono ?_
        rintro e w1 ⟨rfl, hb1⟩
        rw [H0.out]
        go_wp2
        go_region
        all_goals go_wp2
        all_goals go_ret3
        all_goals exact ⟨rfl, by repeat (first | exact hb1 | refine Below.drew ?_)⟩
  · have e1 : ttE s = getE s := by unfold ttE; rw [if_pos h0]
    have e2 : ttS s = ⟨#[]⟩ := by unfold ttS; rw [if_neg (by omega)]
    have e3 : ttR s = ⟨#[]⟩ := by unfold ttR; rw [if_neg (by omega)]
    rw [e1, e2, e3]
    clear e1 e2 e3
    have h0' : (getE s != 0) = true := by rw [bne_iff_ne]; exact h0
    clear h0
    go_enter Tryz.func77, Tryz.ntmps77
    go_wp2_with fail
    refine (get_any _ _ hs).mono ?_
    rintro e w1 ⟨rfl, hb1⟩
    go_wp2
    go_ret3
    exact ⟨rfl, hb1⟩

set_option maxHeartbeats 400000 in
theorem wholeOf_any (n : Int) (w : World) (h0 : 0 ≤ n) (h1 : n ≤ 4611686018427387903) :
    Calls Tryz.prog 75 #[.int .i64 n] w fun e w' => e = .returned (.int .i64 (wof n)) ∧ w' = w := by
  go_enter Tryz.func75, Tryz.ntmps75
  go_wp2
  all_goals go_ret
  all_goals refine ⟨ret_int ?_, rfl⟩
  all_goals unfold wof
  · rw [if_pos (by simp_all)]
  · rw [if_neg (by simp_all)]
end Go.Proofs.YtoplpohpodkpdaaGreatDoor.Q
/- quic.takeItem: an item of a kind at the front of bytes. -/
namespace Go.Proofs.YtoplpohpodkpdaaGreatDoor.Q
open Go.RowKit

def tN (s : ByteArray) (k : Int) : Int := if k = 1 then getV s else if k = 2 then wof (getV s) else if k = 3 then tfV s else 0
def tS (s : ByteArray) (k : Int) : ByteArray := if k = 4 then ttS s else ⟨#[]⟩
def tR (s : ByteArray) (k : Int) : ByteArray := if k = 1 then getRest s else if k = 2 then getRest s else if k = 3 then tfR s else ttR s
def tE (s : ByteArray) (k : Int) : Int := if k = 1 then getE s else if k = 2 then getE s else if k = 3 then tfE s else ttE s

theorem set_cells1 {w : World} {b : Nat} {x y z u : Value} (hc : ∀ j, w.cell? ⟨b, j, none⟩ = #[x, y, z][j]?) : ∀ j, (w.setCell ⟨b, 1, none⟩ u).cell? ⟨b, j, none⟩ = #[x, u, z][j]? := by
  intro j
  by_cases h1 : j = 1
  · subst h1
    rw [World.cell?_setCell_same _ _ _ (u := y) (by simp [hc])]
    rfl
  · rw [World.cell?_setCell_other _ _ _ _ (fun e => h1 (congrArg Addr.off e).symm), hc]
    match j, h1 with
    | 0, _ => rfl
    | 2, _ => rfl
    | j + 3, _ => simp

set_option maxRecDepth 100000 in
set_option maxHeartbeats 1000000 in
theorem takeItem_1 (s : ByteArray) (w : World) (hs : s.size ≤ 140737488355328) :
    Calls Tryz.prog 40 #[.string s, .int .i64 1] w fun e w' => e = .returned (.tuple #[.agg #[.int .i64 1, .int .i64 (getV s), .string ⟨#[]⟩], .string (getRest s), .int .i64 (getE s)]) ∧ Below w.heap.size w w' := by
  go_enter Tryz.func40, Tryz.ntmps40
  go_wp2_with fail
  refine (get_any _ _ hs).mono ?_
  rintro e w1 ⟨rfl, hb1⟩
  obtain ⟨hc, hf, hbl, hz⟩ := part_cells0 hb1
  clear hb1
  go_wp2
  refine bodyPost_ret (v := .tuple #[.agg #[.int .i64 1, .int .i64 (getV s), .string ⟨#[]⟩], .string (getRest s), .int .i64 (getE s)]) (by simp [results, Tryz.results40, go_sem, hc]) rfl ⟨rfl, ?_⟩
  repeat (first | exact hbl | refine Below.setCell ?_ (by exact Nat.le_refl _) _)

set_option maxRecDepth 100000 in
set_option maxHeartbeats 1000000 in
theorem takeItem_2 (s : ByteArray) (w : World) (hs : s.size ≤ 140737488355328) :
    Calls Tryz.prog 40 #[.string s, .int .i64 2] w fun e w' => e = .returned (.tuple #[.agg #[.int .i64 2, .int .i64 (wof (getV s)), .string ⟨#[]⟩], .string (getRest s), .int .i64 (getE s)]) ∧ Below w.heap.size w w' := by
  go_enter Tryz.func40, Tryz.ntmps40
  go_wp2_with fail
  refine (get_any _ _ hs).mono ?_
  rintro e w1 ⟨rfl, hb1⟩
  obtain ⟨hc, hf, hbl, hz⟩ := part_cells0 hb1
  clear hb1
  go_wp2_with fail
  refine (wholeOf_any _ _ (getV_nn s).1 (getV_nn s).2).mono ?_
  rintro e w2 ⟨rfl, hw2⟩
  have hc2 : ∀ j, w2.cell? ⟨w.heap.size, j, none⟩ = #[Value.int .i64 2, .int .i64 (getV s), .string ⟨#[]⟩][j]? := by subst hw2; exact set_cells1 hc
  have hf2 : ∀ j, w2.frozen? ⟨w.heap.size, j, none⟩ = false := by subst hw2; intro j; simpa using hf j
  have hbl2 : Below w.heap.size w w2 := by subst hw2; exact hbl.setCell (by exact Nat.le_refl _) _
  have hz2 : w.heap.size < w2.heap.size := by subst hw2; simpa using hz
  clear hw2 hc hf hbl hz
  go_wp2
  refine bodyPost_ret (v := .tuple #[.agg #[.int .i64 2, .int .i64 (wof (getV s)), .string ⟨#[]⟩], .string (getRest s), .int .i64 (getE s)]) (by simp [results, Tryz.results40, go_sem, hc2]) rfl ⟨rfl, ?_⟩
  repeat (first | exact hbl2 | refine Below.setCell ?_ (by exact Nat.le_refl _) _)

set_option maxRecDepth 100000 in
set_option maxHeartbeats 1000000 in
theorem takeItem_3 (s : ByteArray) (w : World) (hs : s.size ≤ 140737488355328) :
    Calls Tryz.prog 40 #[.string s, .int .i64 3] w fun e w' => e = .returned (.tuple #[.agg #[.int .i64 3, .int .i64 (tfV s), .string ⟨#[]⟩], .string (tfR s), .int .i64 (tfE s)]) ∧ Below w.heap.size w w' := by
  go_enter Tryz.func40, Tryz.ntmps40
  go_wp2_with fail
  refine (takeFlag_any _ _ hs).mono ?_
  rintro e w1 ⟨rfl, hb1⟩
  obtain ⟨hc, hf, hbl, hz⟩ := part_cells0 hb1
  clear hb1
  go_wp2
  refine bodyPost_ret (v := .tuple #[.agg #[.int .i64 3, .int .i64 (tfV s), .string ⟨#[]⟩], .string (tfR s), .int .i64 (tfE s)]) (by simp [results, Tryz.results40, go_sem, hc]) rfl ⟨rfl, ?_⟩
  repeat (first | exact hbl | refine Below.setCell ?_ (by exact Nat.le_refl _) _)

set_option maxRecDepth 100000 in
set_option maxHeartbeats 1000000 in
theorem takeItem_4 (s : ByteArray) (w : World) (hs : s.size ≤ 140737488355328) :
    Calls Tryz.prog 40 #[.string s, .int .i64 4] w fun e w' => e = .returned (.tuple #[.agg #[.int .i64 4, .int .i64 0, .string (ttS s)], .string (ttR s), .int .i64 (ttE s)]) ∧ Below w.heap.size w w' := by
  go_enter Tryz.func40, Tryz.ntmps40
  go_wp2_with fail
  refine (takeText_any _ _ hs).mono ?_
  rintro e w1 ⟨rfl, hb1⟩
  obtain ⟨hc, hf, hbl, hz⟩ := part_cells0 hb1
  clear hb1
  go_wp2
  refine bodyPost_ret (v := .tuple #[.agg #[.int .i64 4, .int .i64 0, .string (ttS s)], .string (ttR s), .int .i64 (ttE s)]) (by simp [results, Tryz.results40, go_sem, hc]) rfl ⟨rfl, ?_⟩
  repeat (first | exact hbl | refine Below.setCell ?_ (by exact Nat.le_refl _) _)

/-- quic.takeItem, of each kind. -/
theorem takeItem_any (s : ByteArray) (k : Int) (w : World) (hs : s.size ≤ 140737488355328) (h1 : 1 ≤ k) (h4 : k ≤ 4) :
    Calls Tryz.prog 40 #[.string s, .int .i64 k] w fun e w' => e = .returned (.tuple #[.agg #[.int .i64 k, .int .i64 (tN s k), .string (tS s k)], .string (tR s k), .int .i64 (tE s k)]) ∧ Below w.heap.size w w' := by
  obtain rfl | rfl | rfl | rfl : k = 1 ∨ k = 2 ∨ k = 3 ∨ k = 4 := by omega
  · exact takeItem_1 s w hs
  · exact takeItem_2 s w hs
  · exact takeItem_3 s w hs
  · exact takeItem_4 s w hs
end Go.Proofs.YtoplpohpodkpdaaGreatDoor.Q
/- The reference's one: an item's bytes. -/
namespace Go.Proofs.YtoplpohpodkpdaaGreatDoor.Q
open Go.RowKit

end Go.Proofs.YtoplpohpodkpdaaGreatDoor.Q
/- The law's refs and few; the reference's Put. -/
namespace Go.Proofs.YtoplpohpodkpdaaGreatDoor.Q
open Go.RowKit

/-- An append of one element of several cells onto a row that the call owns. -/
theorem wpl_appk {P : Program} (wr : World) {ops : Array Oper} {rest : List Oper} {o : Oper} {a : Act} {Q : Exit → Act → World → Prop} (hgd : o.guard = none) (s x : Operand) (t e : TypeId)
    (ho : o.op = .call { callee := .builtin .append, args := #[s, x], argTypes := #[t, t] })
    (i : TypeInfo) (z : Value) (size bytes : Nat) (ht : P.underlying t = some (.slice e)) (hi : P.info? e = some i) (hz : i.zero = some z)
    (hsize : i.size = size) (hby : i.bytes = bytes) (hzs : z.cells.size = size) (hsz : 0 < size)
    (base : Nat) (v : Value) (n : Nat) (xs : List Value) (hs : a.eval s = v) (hown : wr.ownsRow base e size v n xs)
    (es : List Value) (hes : es.length = size) (C : Array Value) (hC : C = es.toArray) (hx : a.eval x = .slice (some ⟨wr.heap.size, 0, none⟩) 1 1) (h1 : ∀ u ∈ es, u.oneCell' = true)
    (hbytes : (n + 1) * bytes ≤ 140737488355328) (h63 : n + 1 ≤ maxLen) (hbase : base ≤ wr.heap.size)
    (h : ∀ v' w', w'.ownsRow base e size v' (n + 1) (xs ++ es) → Below base wr w' → wpList P ops Q rest (a.put o.dst v') w') :
    wpList P ops Q (o :: rest) a (wr.alloc (.cells C e)) := by
  subst hC
  refine wpList_append_own _ hgd s x t ho base e i z size bytes ht hi hz hsize hby hzs hsz v n xs hs (hown.alloc _) ⟨wr.heap.size, 0, none⟩ 1 1 es hx (by omega) ?_ h1 h63 hbytes ?_ ?_
  · intro j u hj
    have : (⟨wr.heap.size, 0, none⟩ : Addr).add j = ⟨wr.heap.size, j, none⟩ := by unfold Addr.add; split <;> simp_all
    rw [this]
    simpa using hj
  · simp; omega
  · intro v' w' h2 h3 h4
    refine h v' w' h2 ?_
    exact ((Below.refl _ _).alloc hbase _).grown h3 (by simp; omega) (fun k hk => (hown.lt k hk).1)

end Go.Proofs.YtoplpohpodkpdaaGreatDoor.Q
/- quic.Take: items of kinds at the front of bytes. -/
namespace Go.Proofs.YtoplpohpodkpdaaGreatDoor.Q
open Go.RowKit

def isK (k : Int) : Bool := decide (1 ≤ k ∧ k ≤ 4)
/-- What Take gathers, from some items and the bytes that are left on. -/
def tk : List It → ByteArray → List Int → List It × ByteArray × Int
  | acc, s, [] => (acc, s, 0)
  | acc, s, k :: ks => if tE s k = 0 then tk (acc ++ [⟨k, tN s k, tS s k⟩]) (tR s k) ks else ([], ⟨#[]⟩, tE s k)
def intCells (l : List Int) : List Value := l.map (Value.int .i64)
theorem ints_at {w : World} {a : Option Addr} {cap : Nat} {l : List Int} (h : IsRow w 1 (.slice a l.length cap) l.length (intCells l)) (i : Nat) (hi : i < l.length) :
    ∃ b off, a = some ⟨b, off, none⟩ ∧ b < w.heap.size ∧ w.cell? ⟨b, off + i, none⟩ = some (.int .i64 (l[i]'hi)) := by
  obtain ⟨b, off, cap', hv, hlt, _, _, hc⟩ := h.open (by omega)
  simp only [Value.slice.injEq] at hv
  exact ⟨b, off, hv.1, hlt, hc i _ (by simp [intCells, hi])⟩
theorem ttR_size (s : ByteArray) : (ttR s).size ≤ s.size := by
  have := getRest_size s
  unfold ttR; split
  · rw [size_extract _ _ _ (Nat.le_refl _)]; omega
  · exact Nat.zero_le _
theorem tR_size (s : ByteArray) (k : Int) : (tR s k).size ≤ s.size := by
  unfold tR
  split
  · exact getRest_size s
  split
  · exact getRest_size s
  split
  · unfold tfR; split
    · rw [size_extract _ _ _ (Nat.le_refl _)]; omega
    · exact Nat.zero_le _
  · exact ttR_size s

theorem owns_set {w : World} {base : Nat} {e : TypeId} {sz : Nat} {v : Value} {n : Nat} {xs : List Value} (h : w.ownsRow base e sz v n xs) {a : Addr} {u : Value} (hne : v.ownBlock ≠ some a.block) : (w.setCell a u).ownsRow base e sz v n xs :=
  h.kept (row := some a.block) ⟨rfl, rfl, rfl, by simp, fun k _ hk => Below.heap_setCell w a u k (fun e => hk (by rw [e]))⟩ (.inr hne)
theorem owns_below {w w1 : World} {base : Nat} {e : TypeId} {sz : Nat} {v : Value} {n : Nat} {xs : List Value} (h : w.ownsRow base e sz v n xs) (hb : Below w.heap.size w w1) : w1.ownsRow base e sz v n xs :=
  h.kept (row := none) ⟨hb.os, hb.tape, hb.output, hb.size, fun k hk _ => hb.block k hk⟩ (by cases hv : v.ownBlock <;> simp)
theorem owns_ne {w : World} {base : Nat} {e : TypeId} {sz : Nat} {v : Value} {n : Nat} {xs : List Value} (h : w.ownsRow base e sz v n xs) : v.ownBlock ≠ some w.heap.size := by
  intro e1
  have := (h.lt _ e1).2
  omega

/-- The same, the new block told by its number. -/
theorem wpl_appn {P : Program} (wr : World) {ops : Array Oper} {rest : List Oper} {o : Oper} {a : Act} {Q : Exit → Act → World → Prop} (hgd : o.guard = none) (s x : Operand) (t e : TypeId)
    (ho : o.op = .call { callee := .builtin .append, args := #[s, x], argTypes := #[t, t] })
    (i : TypeInfo) (z : Value) (size bytes : Nat) (ht : P.underlying t = some (.slice e)) (hi : P.info? e = some i) (hz : i.zero = some z)
    (hsize : i.size = size) (hby : i.bytes = bytes) (hzs : z.cells.size = size) (hsz : 0 < size)
    (base : Nat) (v : Value) (n : Nat) (xs : List Value) (hs : a.eval s = v) (hown : wr.ownsRow base e size v n xs)
    (es : List Value) (hes : es.length = size) (C : Array Value) (hC : C = es.toArray) (N : Nat) (hN : N = wr.heap.size) (hx : a.eval x = .slice (some ⟨N, 0, none⟩) 1 1) (h1 : ∀ u ∈ es, u.oneCell' = true)
    (hbytes : (n + 1) * bytes ≤ 140737488355328) (h63 : n + 1 ≤ maxLen) (hbase : base ≤ wr.heap.size)
    (h : ∀ v' w', w'.ownsRow base e size v' (n + 1) (xs ++ es) → Below base wr w' → wpList P ops Q rest (a.put o.dst v') w') :
    wpList P ops Q (o :: rest) a (wr.alloc (.cells C e)) := by
  subst hN
  exact wpl_appk wr hgd s x t e ho i z size bytes ht hi hz hsize hby hzs hsz base v n xs hs hown es hes C hC hx h1 hbytes h63 hbase h

theorem info_apiItem : (Tryz.prog.info? 54).map (fun i => (i.zero, i.size, i.bytes)) = some (some (.agg #[.int .i64 0, .int .i64 0, .string ⟨#[]⟩]), 3, 32) := by kernel_rfl

/-- What Take leaves: a row of the items, the rest, the error. -/
def TakePost (r : List It × ByteArray × Int) (w : World) (e : Ending) (w' : World) : Prop :=
  ∃ v, e = .returned (.tuple #[v, .string r.2.1, .int .i64 r.2.2]) ∧ IsRow w' 3 v r.1.length (itCells r.1) ∧ Below w.heap.size w w'

set_option maxRecDepth 100000 in
set_option maxHeartbeats 2000000 in
theorem take_ok (s : ByteArray) (v : Value) (ks : List Int) (w : World) (hs : s.size ≤ 140737488355328) (h : IsRow w 1 v ks.length (intCells ks)) (hl : ks.length ≤ 4096) (hk : ks.all isK = true) :
    Calls Tryz.prog 25 #[.string s, v] w fun e w' => TakePost (tk [] s ks) w e w' := by
  obtain ⟨a0, cap0, rfl⟩ := h.form
  obtain ⟨i0, hi0, hz0, hz1, hz2⟩ := info_parts info_apiItem
  have hl' : ¬ (4096 : Int) < ks.length := by omega
  have HK : Hid (ks.all isK = true) := hk
  clear hk
  go_enter Tryz.func25, Tryz.ntmps25
  go_wp2
  go_loopw [4, 17] (fun t i wr => ∃ k : Nat, k ≤ ks.length ∧ i = .int .i64 k ∧ t = .slice none 0 0 ∧ Below w.heap.size w wr) (fun _ i _ => ks.length - (intOf i).toNat)
  case atStart => exact ⟨0, Nat.zero_le _, rfl, rfl, Below.refl _ _⟩
  case round =>
    obtain ⟨k, hk, rfl, rfl, hb⟩ := hrel
    by_cases hlt : k < ks.length
    · obtain ⟨b, off, rfl, hbl, c0⟩ := ints_at (h.below hb) k hlt
      have hi : (k : Int) < ks.length := by omega
      have HM : 1 ≤ ks[k] ∧ ks[k] ≤ 4 := of_decide_eq_true (List.all_eq_true.1 HK.out _ (List.getElem_mem hlt))
      obtain ⟨hm1, hm4⟩ := HM
      go_wp2
      go_roundw
      case rel => exact ⟨k + 1, by omega, by go_num, rfl, hb⟩
      case measure => simp [intOf]; omega
    · have hk' : k = ks.length := by omega
      subst hk'
      obtain ⟨W1, rfl⟩ : ∃ W1, W1 = wr := ⟨_, rfl⟩
      have hr1 := h.below hb
      have hs1 := hb.size
      go_wp2_with fail
      go_loopw [0, 4, 6, 27] (fun ss t ee i wx => ∃ (k : Nat) (acc : List It) (sj : ByteArray), k ≤ ks.length ∧ i = .int .i64 k ∧ ss = .string sj ∧ sj.size ≤ 140737488355328 ∧ acc.length = k ∧ tk acc sj (ks.drop k) = tk [] s ks ∧ wx.ownsRow W1.heap.size 54 3 t acc.length (itCells acc) ∧ Below W1.heap.size W1 wx) (fun _ _ _ i _ => ks.length - (intOf i).toNat)
      case atStart => exact ⟨0, [], s, Nat.zero_le _, rfl, rfl, hs, rfl, rfl, World.ownsRow_nil _ _ _ _, Below.refl _ _⟩
      case round =>
        obtain ⟨k, acc, sj, hk, rfl, rfl, hsj, hal, htk, hown, hbx⟩ := hrel
        have HT : Hid (tk acc sj (ks.drop k) = tk [] s ks) := htk
        clear htk
        have hsx := hbx.size
        by_cases hlt : k < ks.length
        · obtain ⟨b, off, rfl, hbl, c0⟩ := ints_at (hr1.below hbx) k hlt
          have hi : (k : Int) < ks.length := by omega
          have HM : 1 ≤ ks[k] ∧ ks[k] ≤ 4 := of_decide_eq_true (List.all_eq_true.1 HK.out _ (List.getElem_mem hlt))
          have HD : Hid (ks.drop k = ks[k] :: ks.drop (k + 1)) := List.drop_eq_getElem_cons hlt
          obtain ⟨hm1, hm4⟩ := HM
          generalize hkk : ks[k] = kk at *
          clear hkk
          go_wp2_with fail
          refine (takeItem_any _ _ _ hsj hm1 hm4).mono ?_
          rintro e w2 ⟨rfl, hb2⟩
          obtain ⟨hc, hf, hbl2, hz⟩ := part_cells0 hb2
          have hown2 := owns_below (hown.alloc _) hb2
          have hne := owns_ne hown
          have HS : Hid (Below W1.heap.size W1 w2) := hbx.trans (hbl2.mono hsx)
          clear hb2 c0
          by_cases hte : tE sj kk = 0
          · have HN : Hid (tk (acc ++ [⟨kk, tN sj kk, tS sj kk⟩]) (tR sj kk) (ks.drop (k + 1)) = tk [] s ks) := by
              show _ = _
              rw [← HT.out, HD.out]
              show _ = (if tE sj kk = 0 then _ else _)
              rw [if_pos hte]
            have htr := tR_size sj kk
            have HZ : Hid (tE sj kk = 0) := hte
            clear hte
            rw [HZ.out]
            go_wp2_with (at_builtin; refine wpl_appn _ rfl (.tmp 41) (.tmp 43) 49 54 rfl i0 _ 3 32 Tryz.underlying49 hi0 hz0 hz1 hz2 rfl (by decide) _ _ _ _ rfl (owns_set (owns_set (owns_set hown2 hne) hne) hne) (It.cells ⟨kk, tN sj kk, tS sj kk⟩) rfl _ rfl w2.heap.size (by simp) rfl (by intro u hu; simp [It.cells] at hu; rcases hu with rfl | rfl | rfl <;> rfl) (by omega) (by unfold maxLen; omega) (by simp; have := HS.out.size; omega) ?_; intro v3 w3 hown3 hb3)
            have HO : Hid (w3.ownsRow W1.heap.size 54 3 v3 (acc ++ [It.mk kk (tN sj kk) (tS sj kk)]).length (itCells (acc ++ [It.mk kk (tN sj kk) (tS sj kk)]))) := by
              show World.ownsRow _ _ _ _ _ _ _
              rw [itCells_snoc, List.length_append]
              exact hown3
            have HB3 : Hid (Below W1.heap.size W1 w3) := (((HS.out.setCell (p := ⟨wr.heap.size, 0, none⟩) hsx _).setCell (p := ⟨wr.heap.size, 1, none⟩) hsx _).setCell (p := ⟨wr.heap.size, 2, none⟩) hsx _).trans hb3
            refine ⟨⟨k + 1, acc ++ [⟨kk, tN sj kk, tS sj kk⟩], tR sj kk, by omega, by go_num, rfl, by omega, by simp [hal], HN.out, HO.out, HB3.out⟩, ?_⟩
            simp [intOf]; omega
          · have HN : Hid ((([] : List It), (⟨#[]⟩ : ByteArray), tE sj kk) = tk [] s ks) := by
              show _ = _
              rw [← HT.out, HD.out]
              show _ = (if tE sj kk = 0 then _ else _)
              rw [if_neg hte]
            have hte' : (tE sj kk != 0) = true := by rw [bne_iff_ne]; exact hte
            have HF : Hid (Below w.heap.size w w2) := hb.trans (HS.out.mono hs1)
            clear hte
            go_wp2
            go_ret3
            refine ⟨.slice none 0 0, ?_, ?_, ?_⟩
            · rw [← HN.out]; rfl
            · rw [← HN.out]; exact IsRow.nil _ _
            · exact (((HF.out.setCell (p := ⟨wr.heap.size, 0, none⟩) (by show w.heap.size ≤ wr.heap.size; omega) _).setCell (p := ⟨wr.heap.size, 1, none⟩) (by show w.heap.size ≤ wr.heap.size; omega) _).setCell (p := ⟨wr.heap.size, 2, none⟩) (by show w.heap.size ≤ wr.heap.size; omega) _)
        · have hk' : k = ks.length := by omega
          have HN : Hid ((acc, sj, 0) = tk [] s ks) := by
            show _ = _
            rw [← HT.out, List.drop_of_length_le (by omega)]
            rfl
          have HF : Hid (Below w.heap.size w wr) := hb.trans (hbx.mono hs1)
          have HO : Hid (IsRow wr 3 u4 acc.length (itCells acc)) := IsRow.own hown
          clear hown
          subst hk'
          go_wp2
          go_ret3
          refine ⟨u4, ?_, ?_, HF.out⟩
          · rw [← HN.out]; rfl
          · rw [← HN.out]; exact HO.out

theorem allk_take {l : List Int} {k : Nat} (h : k < l.length) (h1 : (l.take k).all isK = true) (h2 : isK (l[k]'h) = true) : (l.take (k + 1)).all isK = true := by
  rw [List.take_succ_eq_append_getElem h, List.all_append, h1]
  simp [h2]

set_option maxRecDepth 100000 in
set_option maxHeartbeats 2000000 in
theorem take_bad (s : ByteArray) (v : Value) (ks : List Int) (w : World) (h : IsRow w 1 v ks.length (intCells ks)) (hl : ks.length ≤ 4096) (hk : ks.all isK = false) :
    Calls Tryz.prog 25 #[.string s, v] w fun e w' => TakePost ([], ⟨#[]⟩, 1) w e w' := by
  obtain ⟨a0, cap0, rfl⟩ := h.form
  have hl' : ¬ (4096 : Int) < ks.length := by omega
  have HK : Hid (ks.all isK = false) := hk
  clear hk
  go_enter Tryz.func25, Tryz.ntmps25
  go_wp2
  go_loopw [17] (fun i wr => ∃ k : Nat, k ≤ ks.length ∧ i = .int .i64 k ∧ (ks.take k).all isK = true ∧ Below w.heap.size w wr) (fun i _ => ks.length - (intOf i).toNat)
  case atStart => exact ⟨0, Nat.zero_le _, rfl, rfl, Below.refl _ _⟩
  case round =>
    obtain ⟨k, hk, rfl, hall, hb⟩ := hrel
    have HA : Hid ((ks.take k).all isK = true) := hall
    clear hall
    by_cases hlt : k < ks.length
    · obtain ⟨b, off, rfl, hbl, c0⟩ := ints_at (h.below hb) k hlt
      have hi : (k : Int) < ks.length := by omega
      by_cases hm1 : 1 ≤ ks[k]
      · by_cases hm4 : ks[k] ≤ 4
        · have HN : Hid ((ks.take (k + 1)).all isK = true) := allk_take hlt HA.out (by simp [isK, hm1, hm4])
          go_wp2
          go_roundw
          case rel => exact ⟨k + 1, by omega, by go_num, HN.out, hb⟩
          case measure => simp [intOf]; omega
        · have hd : decide (ks[k] ≤ 4) = false := by simpa using hm4
          go_wp2
          go_ret3
          exact ⟨.slice none 0 0, rfl, IsRow.nil _ _, hb⟩
      · have hd : decide (1 ≤ ks[k]) = false := by simpa using hm1
        go_wp2
        go_ret3
        exact ⟨.slice none 0 0, rfl, IsRow.nil _ _, hb⟩
    · exfalso
      have e : ks.take k = ks := List.take_of_length_le (by omega)
      have h1 := HA.out
      rw [e, HK.out] at h1
      cases h1

/-- What Take answers, up to 4,096 kinds. -/
def takeR (s : ByteArray) (ks : List Int) : List It × ByteArray × Int := if ks.all isK = true then tk [] s ks else ([], ⟨#[]⟩, 1)
theorem take_any (s : ByteArray) (v : Value) (ks : List Int) (w : World) (hs : s.size ≤ 140737488355328) (h : IsRow w 1 v ks.length (intCells ks)) (hl : ks.length ≤ 4096) :
    Calls Tryz.prog 25 #[.string s, v] w fun e w' => TakePost (takeR s ks) w e w' := by
  unfold takeR
  by_cases hc : ks.all isK = true
  · rw [if_pos hc]; exact take_ok s v ks w hs h hl hc
  · rw [if_neg hc]; exact take_bad s v ks w h hl (by simpa using hc)
end Go.Proofs.YtoplpohpodkpdaaGreatDoor.Q
/- wire.Text, read, Read at the messages of the examples; awake: walks. -/
namespace Go.Proofs.YtoplpohpodkpdaaGreatDoor
open Go.RowKit

set_option maxRecDepth 100000 in
set_option maxHeartbeats 8000000 in
theorem text_w (k ep a b c : Int) (s r : ByteArray) (w : World) (hr : r.size ≤ 1000)
    (hP : ∀ W, Below w.heap.size w W → Calls Tryz.prog 23 #[.agg (msgC k ep a b c s)] W fun e w' => e = .returned (.bool true) ∧ Below W.heap.size W w')
    (hW : ∀ W, Below w.heap.size w W → Calls Tryz.prog 24 #[.agg (msgC k ep a b c s)] W fun e w' => e = .returned (.string r) ∧ Below W.heap.size W w') :
    Calls Tryz.prog 12 #[.agg (msgC k ep a b c s)] w fun e w' => e = .returned (.string r) ∧ Below w.heap.size w w' := by
  have HP : Hid (∀ W, Below w.heap.size w W → Calls Tryz.prog 23 #[.agg (msgC k ep a b c s)] W fun e w' => e = .returned (.bool true) ∧ Below W.heap.size W w') := hP
  have HW : Hid (∀ W, Below w.heap.size w W → Calls Tryz.prog 24 #[.agg (msgC k ep a b c s)] W fun e w' => e = .returned (.string r) ∧ Below W.heap.size W w') := hW
  clear hP hW
  obtain ⟨w1, hw1⟩ : ∃ w1, w1 = w.alloc (.cells (msgC k ep a b c s) 45) := ⟨_, rfl⟩
  have B1 : Hid (Below w.heap.size w w1) := by show Below _ _ _; rw [hw1]; exact al_f _ _
  have hk1 : w1.heap[w.heap.size]? = some (.cells (msgC k ep a b c s) 45 (0, 0)) := by rw [hw1]; exact nw_at _ _
  have K1 : Hid (∀ W, Below w1.heap.size w1 W → W.heap[w.heap.size]? = some (.cells (msgC k ep a b c s) 45 (0, 0))) := fun W hb => (hb.block _ (Array.getElem?_eq_some_iff.1 hk1).1).trans hk1
  clear hk1
  have n1 : ¬ 32768 < r.size := by omega
  have d1 : decide ((32768 : Int) < (r.size : Int)) = false := decide_eq_false (by omega)
  have hk := K1.out w1 (Below.refl _ _)
  have c0 : w1.cell? ⟨w.heap.size, 0, none⟩ = some (.int .i64 k) := by rw [Lib.cell_of_heap hk]; rfl
  have c1 : w1.cell? ⟨w.heap.size, 1, none⟩ = some (.int .i64 ep) := by rw [Lib.cell_of_heap hk]; rfl
  have c2 : w1.cell? ⟨w.heap.size, 2, none⟩ = some (.int .i64 a) := by rw [Lib.cell_of_heap hk]; rfl
  have c3 : w1.cell? ⟨w.heap.size, 3, none⟩ = some (.int .i64 b) := by rw [Lib.cell_of_heap hk]; rfl
  have c4 : w1.cell? ⟨w.heap.size, 4, none⟩ = some (.int .i64 c) := by rw [Lib.cell_of_heap hk]; rfl
  have c5 : w1.cell? ⟨w.heap.size, 5, none⟩ = some (.int .i64 0) := by rw [Lib.cell_of_heap hk]; rfl
  have c6 : w1.cell? ⟨w.heap.size, 6, none⟩ = some (.string s) := by rw [Lib.cell_of_heap hk]; rfl
  have c7 : w1.cell? ⟨w.heap.size, 7, none⟩ = some (.string ⟨#[]⟩) := by rw [Lib.cell_of_heap hk]; rfl
  have c8 : w1.cell? ⟨w.heap.size, 8, none⟩ = some (.int .i64 0) := by rw [Lib.cell_of_heap hk]; rfl
  have c9 : w1.cell? ⟨w.heap.size, 9, none⟩ = some (.slice none 0 0) := by rw [Lib.cell_of_heap hk]; rfl
  have c10 : w1.cell? ⟨w.heap.size, 10, none⟩ = some (.slice none 0 0) := by rw [Lib.cell_of_heap hk]; rfl
  have c11 : w1.cell? ⟨w.heap.size, 11, none⟩ = some (.slice none 0 0) := by rw [Lib.cell_of_heap hk]; rfl
  have c12 : w1.cell? ⟨w.heap.size, 12, none⟩ = some (.int .i64 0) := by rw [Lib.cell_of_heap hk]; rfl
  have c13 : w1.cell? ⟨w.heap.size, 13, none⟩ = some (.int .i64 0) := by rw [Lib.cell_of_heap hk]; rfl
  have c14 : w1.cell? ⟨w.heap.size, 14, none⟩ = some (.int .i64 0) := by rw [Lib.cell_of_heap hk]; rfl
  have c15 : w1.cell? ⟨w.heap.size, 15, none⟩ = some (.string ⟨#[]⟩) := by rw [Lib.cell_of_heap hk]; rfl
  have c16 : w1.cell? ⟨w.heap.size, 16, none⟩ = some (.slice none 0 0) := by rw [Lib.cell_of_heap hk]; rfl
  clear hk
  rw [hw1] at c0 c1 c2 c3 c4 c5 c6 c7 c8 c9 c10 c11 c12 c13 c14 c15 c16
  go_enter Tryz.func12, Tryz.ntmps12
  go_wp2_with fail
  rw [← hw1]
  clear hw1 c0 c1 c2 c3 c4 c5 c6 c7 c8 c9 c10 c11 c12 c13 c14 c15 c16
  refine (HP.out _ B1.out).mono ?_
  as_aux_lemma =>
    rintro e w2 ⟨rfl, hb⟩
    have B2 : Hid (Below w.heap.size w w2) := bT B1.out hb
    have hk := K1.out w2 hb
    have c0 : w2.cell? ⟨w.heap.size, 0, none⟩ = some (.int .i64 k) := by rw [Lib.cell_of_heap hk]; rfl
    have c1 : w2.cell? ⟨w.heap.size, 1, none⟩ = some (.int .i64 ep) := by rw [Lib.cell_of_heap hk]; rfl
    have c2 : w2.cell? ⟨w.heap.size, 2, none⟩ = some (.int .i64 a) := by rw [Lib.cell_of_heap hk]; rfl
    have c3 : w2.cell? ⟨w.heap.size, 3, none⟩ = some (.int .i64 b) := by rw [Lib.cell_of_heap hk]; rfl
    have c4 : w2.cell? ⟨w.heap.size, 4, none⟩ = some (.int .i64 c) := by rw [Lib.cell_of_heap hk]; rfl
    have c5 : w2.cell? ⟨w.heap.size, 5, none⟩ = some (.int .i64 0) := by rw [Lib.cell_of_heap hk]; rfl
    have c6 : w2.cell? ⟨w.heap.size, 6, none⟩ = some (.string s) := by rw [Lib.cell_of_heap hk]; rfl
    have c7 : w2.cell? ⟨w.heap.size, 7, none⟩ = some (.string ⟨#[]⟩) := by rw [Lib.cell_of_heap hk]; rfl
    have c8 : w2.cell? ⟨w.heap.size, 8, none⟩ = some (.int .i64 0) := by rw [Lib.cell_of_heap hk]; rfl
    have c9 : w2.cell? ⟨w.heap.size, 9, none⟩ = some (.slice none 0 0) := by rw [Lib.cell_of_heap hk]; rfl
    have c10 : w2.cell? ⟨w.heap.size, 10, none⟩ = some (.slice none 0 0) := by rw [Lib.cell_of_heap hk]; rfl
    have c11 : w2.cell? ⟨w.heap.size, 11, none⟩ = some (.slice none 0 0) := by rw [Lib.cell_of_heap hk]; rfl
    have c12 : w2.cell? ⟨w.heap.size, 12, none⟩ = some (.int .i64 0) := by rw [Lib.cell_of_heap hk]; rfl
    have c13 : w2.cell? ⟨w.heap.size, 13, none⟩ = some (.int .i64 0) := by rw [Lib.cell_of_heap hk]; rfl
    have c14 : w2.cell? ⟨w.heap.size, 14, none⟩ = some (.int .i64 0) := by rw [Lib.cell_of_heap hk]; rfl
    have c15 : w2.cell? ⟨w.heap.size, 15, none⟩ = some (.string ⟨#[]⟩) := by rw [Lib.cell_of_heap hk]; rfl
    have c16 : w2.cell? ⟨w.heap.size, 16, none⟩ = some (.slice none 0 0) := by rw [Lib.cell_of_heap hk]; rfl
    clear hk hb HP K1 B1
    go_wp2_with fail
    clear c0 c1 c2 c3 c4 c5 c6 c7 c8 c9 c10 c11 c12 c13 c14 c15 c16
    refine (HW.out _ B2.out).mono ?_
    as_aux_lemma =>
      rintro e w3 ⟨rfl, hb⟩
      have B3 : Hid (Below w.heap.size w w3) := bT B2.out hb
      clear hb HW B2
      go_wp2
      go_ret
      exact ⟨rfl, B3.out⟩

def conR (_ : Int) : List UInt8 := [14, 3]
def conG (p : Int) : List UInt8 := if p ≤ 1 then [12, 1] else if p ≤ 4 then [12, 1, 2, 1, 7] else [12, 1, 2, 1, 7, 1, 97]
theorem numI14 : strOfNums (Q.numI 14) = ⟨#[14]⟩ := by kernel_rfl
theorem numI12 : strOfNums (Q.numI 12) = ⟨#[12]⟩ := by kernel_rfl
theorem numI3 : strOfNums (Q.numI 3) = ⟨#[3]⟩ := by kernel_rfl
theorem numI1 : strOfNums (Q.numI 1) = ⟨#[1]⟩ := by kernel_rfl
theorem pts_cases {P : Int → Prop} (h1 : P 1) (h2 : P 2) (h3 : P 4) (h4 : P 8) (h5 : P 16) (h6 : P 32) (h7 : P 64) (h8 : P 128) (h9 : P 256) : ∀ p ∈ pts, P p := by
  intro p hp
  unfold pts at hp
  simp only [List.mem_cons, List.not_mem_nil, or_false] at hp
  rcases hp with rfl | rfl | rfl | rfl | rfl | rfl | rfl | rfl | rfl <;> assumption
theorem textR (w : World) (h : PO w) (hT : Q.Tab w) : Calls Tryz.prog 12 #[.agg mR] w fun e w' => e = .returned (.string ⟨#[14, 3]⟩) ∧ Below w.heap.size w w' :=
  text_w 14 3 0 0 0 ⟨#[]⟩ ⟨#[14, 3]⟩ w (by decide) (fun W hb => parts_c _ _ _ _ _ _ hsR W (okR (h.below hb)) (by decide) (by decide) (by decide))
    (fun W hb => write_c _ _ _ _ _ _ hsR ⟨#[14]⟩ ⟨#[3]⟩ conR (fun _ => ⟨#[]⟩) W (okR (h.below hb)) (hT.below hb hT.size) numI14 numI3 (by kernel_rfl)
      (fun p _ hh => by cases hh) (fun p _ => by unfold hsR conR; rfl) (fun p _ => by unfold conR; decide) (by decide) (by decide))
theorem textG (w : World) (h : PO w) (hT : Q.Tab w) : Calls Tryz.prog 12 #[.agg mG] w fun e w' => e = .returned (.string ⟨#[12, 1, 2, 1, 7, 1, 97]⟩) ∧ Below w.heap.size w w' :=
  text_w 12 1 2 1 7 ⟨#[97]⟩ ⟨#[12, 1, 2, 1, 7, 1, 97]⟩ w (by decide) (fun W hb => parts_c _ _ _ _ _ _ hsG W (okG (h.below hb)) (by decide) (by decide) (by decide))
    (fun W hb => write_c _ _ _ _ _ _ hsG ⟨#[12]⟩ ⟨#[1]⟩ conG wrG W (okG (h.below hb)) (hT.below hb hT.size) numI12 numI1 (by kernel_rfl)
      (fun p _ hh V hb2 => writePart_G p (by simpa [hsG] using hh) V ((hT.below hb hT.size).below hb2 (hT.below hb hT.size).size)) (pts_cases (by kernel_rfl) (by kernel_rfl) (by kernel_rfl) (by kernel_rfl) (by kernel_rfl) (by kernel_rfl) (by kernel_rfl) (by kernel_rfl) (by kernel_rfl)) (pts_cases (by decide) (by decide) (by decide) (by decide) (by decide) (by decide) (by decide) (by decide) (by decide)) (by decide) (by decide))
end Go.Proofs.YtoplpohpodkpdaaGreatDoor
