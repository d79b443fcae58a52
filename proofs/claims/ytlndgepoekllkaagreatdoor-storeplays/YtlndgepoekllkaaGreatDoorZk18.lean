/- The reference's store: rows of what is kept; its find, Find, Waits: walks. -/
import Derived.Test.YtlndgepoekllkaaGreatDoorZk17
import Derived.Test.YtlndgepoekllkaaGreatDoorZk7
import Derived.Test.YtlndgepoekllkaaGreatDoorZk14
import Derived.Test.YtlndgepoekllkaaGreatDoorZk15
import Derived.Test.YtlndgepoekllkaaGreatDoorZk4
import Derived.Test.YtlndgepoekllkaaGreatDoorZk8
import Derived.Test.YtlndgepoekllkaaGreatDoorZk1
namespace Go.Proofs.YtlndgepoekllkaaGreatDoor
open Go.RowKit Go.ChangeMaps

/-- What the reference keeps, where it lies. -/
structure KR where
  y : LT
  s : Bool
  l : List Int
  aw : Option Addr
  cw : Nat
abbrev KR.vw (k : KR) : Value := .slice k.aw k.l.length k.cw
def enK (k : KR) : List Value := [.string k.y.t.n, .string k.y.t.p, k.y.vo, k.y.va, k.y.vc, .int .i64 k.y.t.nd, .int .i64 k.y.t.lf, .int .i64 k.y.t.sq, .bool k.s, k.vw]
abbrev krA (k : KR) : Array Value := #[.string k.y.t.n, .string k.y.t.p, k.y.vo, k.y.va, k.y.vc, .int .i64 k.y.t.nd, .int .i64 k.y.t.lf, .int .i64 k.y.t.sq, .bool k.s, k.vw]
def kCells (M : List KR) : List Value := M.flatMap enK
/-- What the reference keeps, in memory. -/
def IsKs (w : World) (v : Value) (M : List KR) : Prop := IsRow w 10 v M.length (kCells M) ∧ ∀ k ∈ M, IsTy w k.y.t k.y.vo k.y.va k.y.vc ∧ IsRow w 1 k.vw k.l.length (iCells k.l)
theorem IsKs.below {w w' : World} {v : Value} {M : List KR} (h : IsKs w v M) (hb : Below w.heap.size w w') : IsKs w' v M := ⟨h.1.below hb, fun x hx => ⟨(h.2 x hx).1.below hb, (h.2 x hx).2.below hb⟩⟩
theorem kCells_app (a b : List KR) : kCells (a ++ b) = kCells a ++ kCells b := by simp [kCells]
theorem kCells_get : ∀ (L : List KR) (k : Nat) (hk : k < L.length) (j : Nat), j < 10 → (kCells L)[k * 10 + j]? = (enK L[k])[j]?
  | [], k, hk, _, _ => absurd hk (by simp)
  | d :: L, 0, _, j, hj => by
    unfold kCells
    rw [List.flatMap_cons, Nat.zero_mul, Nat.zero_add, List.getElem?_append_left (by exact hj)]
    rfl
  | d :: L, k + 1, hk, j, hj => by
    have ih := kCells_get L k (by simpa using hk) j hj
    unfold kCells at *
    rw [List.flatMap_cons, show (k + 1) * 10 + j = 10 + (k * 10 + j) by omega, List.getElem?_append_right (by show 10 ≤ _; omega), show 10 + (k * 10 + j) - (enK d).length = k * 10 + j by show 10 + (k * 10 + j) - 10 = _; omega, ih]
    simp
/-- A row of what is kept, the k-th one's cells as the walk asks for them. -/
theorem kr_at {w : World} {a : Option Addr} {n cap : Nat} {L : List KR} (h : IsRow w 10 (.slice a n cap) L.length (kCells L)) (h0 : 0 < L.length) :
    ∃ b off, a = some ⟨b, off, none⟩ ∧ b < w.heap.size ∧ L.length ≤ cap ∧ ∀ (k : Nat) (hk : k < L.length), w.cell? ⟨b, off + k * 10, none⟩ = some (.string L[k].y.t.n) ∧ w.cell? ⟨b, off + k * 10 + 1, none⟩ = some (.string L[k].y.t.p) ∧ w.cell? ⟨b, off + k * 10 + 2, none⟩ = some L[k].y.vo ∧ w.cell? ⟨b, off + k * 10 + 3, none⟩ = some L[k].y.va ∧ w.cell? ⟨b, off + k * 10 + 4, none⟩ = some L[k].y.vc ∧ w.cell? ⟨b, off + k * 10 + 5, none⟩ = some (.int .i64 L[k].y.t.nd) ∧ w.cell? ⟨b, off + k * 10 + 6, none⟩ = some (.int .i64 L[k].y.t.lf) ∧ w.cell? ⟨b, off + k * 10 + 7, none⟩ = some (.int .i64 L[k].y.t.sq) ∧ w.cell? ⟨b, off + k * 10 + 8, none⟩ = some (.bool L[k].s) ∧ w.cell? ⟨b, off + k * 10 + 9, none⟩ = some L[k].vw := by
  obtain ⟨b, off, cap', hv, hlt, q1, q2, hc⟩ := h.open (by omega)
  simp only [Value.slice.injEq] at hv
  have key : ∀ (k : Nat) (hk : k < L.length) (j : Nat) (u : Value), j < 10 → (enK L[k])[j]? = some u → w.cell? ⟨b, off + k * 10 + j, none⟩ = some u := fun k hk j u hj hu => by
    have := hc (k * 10 + j) u (by rw [kCells_get L k hk j hj]; exact hu)
    rwa [← Nat.add_assoc] at this
  refine ⟨b, off, hv.1, hlt, by omega, fun k hk => ⟨?_, ?_, ?_, ?_, ?_, ?_, ?_, ?_, ?_, ?_⟩⟩
  · have := key k hk 0 _ (by omega) rfl
    simpa using this
  · exact key k hk 1 _ (by omega) rfl
  · exact key k hk 2 _ (by omega) rfl
  · exact key k hk 3 _ (by omega) rfl
  · exact key k hk 4 _ (by omega) rfl
  · exact key k hk 5 _ (by omega) rfl
  · exact key k hk 6 _ (by omega) rfl
  · exact key k hk 7 _ (by omega) rfl
  · exact key k hk 8 _ (by omega) rfl
  · exact key k hk 9 _ (by omega) rfl
/-- The place of a name. -/
def fndR (M : List KR) (n : ByteArray) : Option Nat := M.findIdx? fun k => sameL k.y.t.n.data.toList n.data.toList
def fndZ (M : List KR) (n : ByteArray) : Int := match fndR M n with | some i => i | none => -1
theorem fndR_at {M : List KR} {n : ByteArray} {i : Nat} (h : i < M.length) (h1 : sameL M[i].y.t.n.data.toList n.data.toList = true) (h2 : ∀ j (hj : j < i), sameL (M[j]'(by omega)).y.t.n.data.toList n.data.toList = false) : fndR M n = some i := by
  unfold fndR
  rw [List.findIdx?_eq_some_iff_getElem]
  exact ⟨h, h1, fun j hj => by simp [h2 j hj]⟩
theorem fndR_none {M : List KR} {n : ByteArray} (h2 : ∀ j (hj : j < M.length), sameL M[j].y.t.n.data.toList n.data.toList = false) : fndR M n = none := by
  unfold fndR
  rw [List.findIdx?_eq_none_iff]
  intro x hx
  obtain ⟨j, hj, rfl⟩ := List.getElem_of_mem hx
  exact h2 j hj
set_option maxRecDepth 100000 in
set_option maxHeartbeats 4000000 in
theorem find17_any (v : Value) (M : List KR) (n : ByteArray) (w : World) (hr : IsRow w 10 v M.length (kCells M)) (hl : M.length ≤ 1000) (hN : ∀ k ∈ M, k.y.t.n.size ≤ 1000000) (hn : n.size ≤ 1000000) :
    Calls Tryz.prog 32 #[.agg #[v], .string n] w fun e w' => e = .returned (.int .i64 (fndZ M n)) ∧ Below w.heap.size w w' := by
  obtain ⟨a0, c0, rfl⟩ := hr.form
  have HR : Hid (∀ W, Below w.heap.size w W → IsRow W 10 (.slice a0 M.length c0) M.length (kCells M)) := fun W hb => hr.below hb
  have HAl : Hid (∀ (k : Nat) (hk : k < M.length) W, Calls Tryz.prog 58 #[.string M[k].y.t.n, .string n] W fun e w' => e = .returned (.bool (sameL M[k].y.t.n.data.toList n.data.toList)) ∧ Below W.heap.size W w') := fun k hk W => alikeU_any _ _ W (hN _ (List.getElem_mem hk)) hn
  clear hr hN hn
  obtain ⟨w1, hw1⟩ : ∃ w1, w1 = w.alloc (.cells #[.slice a0 M.length c0] 27) := ⟨_, rfl⟩
  have B1 : Hid (Below w.heap.size w w1) := by show Below _ _ _; rw [hw1]; exact al_b _ _
  have hn1 : w1.heap[w.heap.size]? = some (.cells #[.slice a0 M.length c0] 27 (0, 0)) := by rw [hw1]; exact new_at _ _
  have C1 : Hid (∀ W, Below w1.heap.size w1 W → W.heap[w.heap.size]? = some (.cells #[.slice a0 M.length c0] 27 (0, 0))) := fun W h => (h.block _ (Array.getElem?_eq_some_iff.1 hn1).1).trans hn1
  clear hn1
  go_enter Tryz.func32, Tryz.ntmps32
  go_wp2_with fail
  rw [← hw1]
  clear hw1
  go_loopw [5] (fun i wr => ∃ k : Nat, k ≤ M.length ∧ i = .int .i64 (k : Int) ∧ Hid (Below w1.heap.size w1 wr) ∧ Hid (∀ j (hj : j < k) (hj' : j < M.length), sameL M[j].y.t.n.data.toList n.data.toList = false)) (fun i _ => M.length - (intOf i).toNat)
  case atStart => exact ⟨0, Nat.zero_le _, rfl, Below.refl _ _, fun j hj => absurd hj (by omega)⟩
  case round =>
    obtain ⟨k, hk, rfl, HB, HF⟩ := hrel
    have hsz := HB.out.size
    have hbox := C1.out _ HB.out
    have cb : wr.cell? ⟨w.heap.size, 0, none⟩ = some (.slice a0 M.length c0) := by rw [Lib.cell_of_heap hbox]; rfl
    have HBw : Hid (Below w.heap.size w wr) := B1.out.trans (HB.out.mono B1.out.size)
    clear hbox
    by_cases hlk : k < M.length
    · have dk : decide ((k : Int) < (M.length : Int)) = true := by simp; omega
      obtain ⟨b, off, rfl, hlt, hcap, hc⟩ := kr_at (HR.out wr HBw.out) (by omega)
      obtain ⟨q0, -⟩ := hc k hlk
      have hA := HAl.out k hlk wr
      clear hc HR HAl
      generalize hX : sameL M[k].y.t.n.data.toList n.data.toList = X at *
      have HX : Hid (sameL M[k].y.t.n.data.toList n.data.toList = X) := hX
      clear hX
      go_wp2_with fail
      refine hA.mono ?_
      rintro e w2 ⟨rfl, hb2⟩
      have B2 : Hid (Below wr.heap.size wr w2) := hb2
      clear hb2 hA cb q0
      cases X
      · go_wp2
        go_roundw
        case rel => exact ⟨k + 1, by omega, by simp, HB.out.trans (B2.out.mono hsz), fun j hj hj' => by
          by_cases e : j = k
          · subst e; exact HX.out
          · exact HF.out j (by omega) hj'⟩
        case measure => simp [intOf]; omega
      · have HZ : Hid (fndZ M n = (k : Int)) := by
          show _ = _
          unfold fndZ
          rw [fndR_at hlk HX.out fun j hj => HF.out j hj (by omega)]
        have HE : Hid (Below w.heap.size w w2) := HBw.out.trans (B2.out.mono HBw.out.size)
        clear HX HF HB
        go_wp2
        go_ret
        exact ⟨by rw [HZ.out]; rfl, HE.out⟩
    · have dk : decide ((k : Int) < (M.length : Int)) = false := by simp; omega
      have HZ : Hid (fndZ M n = -1) := by
        show _ = _
        unfold fndZ
        rw [fndR_none fun j hj => HF.out j (by omega) hj]
      clear HF HB HAl HR
      go_wp2
      go_ret
      exact ⟨by rw [HZ.out]; rfl, HBw.out⟩
set_option maxRecDepth 100000 in
set_option maxHeartbeats 4000000 in
theorem Find17_any (v : Value) (M : List KR) (n : ByteArray) (w : World) (hr : IsRow w 10 v M.length (kCells M)) (hl : M.length ≤ 1000) (hN : ∀ k ∈ M, k.y.t.n.size ≤ 1000000) (hn : n.size ≤ 1000000) :
    Calls Tryz.prog 10 #[.agg #[v], .string n] w fun e w' => e = .returned (.int .i64 (fndZ M n)) ∧ Below w.heap.size w w' := by
  obtain ⟨a0, c0, rfl⟩ := hr.form
  have HF : Hid (∀ W, Below w.heap.size w W → Calls Tryz.prog 32 #[.agg #[.slice a0 M.length c0], .string n] W fun e w' => e = .returned (.int .i64 (fndZ M n)) ∧ Below W.heap.size W w') := fun W hb => find17_any _ M n W (hr.below hb) hl hN hn
  clear hr hN hn
  generalize fndZ M n = z at *
  obtain ⟨w1, hw1⟩ : ∃ w1, w1 = w.alloc (.cells #[.slice a0 M.length c0] 27) := ⟨_, rfl⟩
  have B1 : Hid (Below w.heap.size w w1) := by show Below _ _ _; rw [hw1]; exact al_b _ _
  have hn1 : w1.heap[w.heap.size]? = some (.cells #[.slice a0 M.length c0] 27 (0, 0)) := by rw [hw1]; exact new_at _ _
  have C1 : Hid (∀ W, Below w1.heap.size w1 W → W.heap[w.heap.size]? = some (.cells #[.slice a0 M.length c0] 27 (0, 0))) := fun W h => (h.block _ (Array.getElem?_eq_some_iff.1 hn1).1).trans hn1
  clear hn1
  have hk := C1.out w1 (Below.refl _ _)
  have c1_0 : w1.cell? ⟨w.heap.size, 0, none⟩ = some (.slice a0 M.length c0) := by rw [Lib.cell_of_heap hk]; rfl
  clear hk
  rw [hw1] at c1_0
  go_enter Tryz.func10, Tryz.ntmps10
  go_wp2_with fail
  rw [← hw1]
  clear hw1
  clear c1_0
  refine (HF.out _ B1.out).mono ?_
  rintro e w2 ⟨rfl, hb⟩
  have B2 : Hid (Below w1.heap.size w1 w2) := hb
  clear hb 
  have HBz : Hid (Below w.heap.size w w2) := (Below.trans B1.out (B2.out.mono B1.out.size))
  go_wp2
  go_ret
  exact ⟨rfl, HBz.out⟩
theorem wait_next {M : List KR} {k : Nat} (h : k < M.length) : (M.take (k + 1)).countP (fun r => decide (r.l ≠ [])) = (M.take k).countP (fun r => decide (r.l ≠ [])) + if 0 < M[k].l.length then 1 else 0 := by
  rw [List.take_succ_eq_append_getElem h, List.countP_append, List.countP_singleton]
  congr 1
  cases hM : M[k].l <;> simp
set_option maxRecDepth 100000 in
set_option maxHeartbeats 4000000 in
theorem waits17_any (v : Value) (M : List KR) (w : World) (hr : IsRow w 10 v M.length (kCells M)) (hl : M.length ≤ 1000) :
    Calls Tryz.prog 27 #[.agg #[v]] w fun e w' => e = .returned (.int .i64 (M.countP fun r => decide (r.l ≠ []) : Nat)) ∧ Below w.heap.size w w' := by
  obtain ⟨a0, c0, rfl⟩ := hr.form
  have HR : Hid (∀ W, Below w.heap.size w W → IsRow W 10 (.slice a0 M.length c0) M.length (kCells M)) := fun W hb => hr.below hb
  clear hr
  obtain ⟨w1, hw1⟩ : ∃ w1, w1 = w.alloc (.cells #[.slice a0 M.length c0] 27) := ⟨_, rfl⟩
  have B1 : Hid (Below w.heap.size w w1) := by show Below _ _ _; rw [hw1]; exact al_b _ _
  have hn1 : w1.heap[w.heap.size]? = some (.cells #[.slice a0 M.length c0] 27 (0, 0)) := by rw [hw1]; exact new_at _ _
  have C1 : Hid (∀ W, Below w1.heap.size w1 W → W.heap[w.heap.size]? = some (.cells #[.slice a0 M.length c0] 27 (0, 0))) := fun W h => (h.block _ (Array.getElem?_eq_some_iff.1 hn1).1).trans hn1
  clear hn1
  go_enter Tryz.func27, Tryz.ntmps27
  go_wp2_with fail
  rw [← hw1]
  clear hw1
  go_loopw [3, 4] (fun c i wr => ∃ k : Nat, k ≤ M.length ∧ i = .int .i64 (k : Int) ∧ c = .int .i64 ((M.take k).countP (fun r => decide (r.l ≠ [])) : Nat) ∧ Hid (Below w1.heap.size w1 wr)) (fun _ i _ => M.length - (intOf i).toNat)
  case atStart => exact ⟨0, Nat.zero_le _, rfl, rfl, Below.refl _ _⟩
  case round =>
    obtain ⟨k, hk, rfl, rfl, HB⟩ := hrel
    have hsz := HB.out.size
    have hbox := C1.out _ HB.out
    have cb : wr.cell? ⟨w.heap.size, 0, none⟩ = some (.slice a0 M.length c0) := by rw [Lib.cell_of_heap hbox]; rfl
    have HBw : Hid (Below w.heap.size w wr) := B1.out.trans (HB.out.mono B1.out.size)
    clear hbox
    by_cases hlk : k < M.length
    · have dk : decide ((k : Int) < (M.length : Int)) = true := by simp; omega
      obtain ⟨b, off, rfl, hlt, hcap, hc⟩ := kr_at (HR.out wr HBw.out) (by omega)
      obtain ⟨-, -, -, -, -, -, -, -, -, q9⟩ := hc k hlk
      have hnx := wait_next hlk
      have hle : (M.take k).countP (fun r => decide (r.l ≠ [])) ≤ k := by
        have h1 : (M.take k).countP (fun r => decide (r.l ≠ [])) ≤ (M.take k).length := List.countP_le_length
        rw [List.length_take] at h1
        omega
      have HNx : Hid ((M.take (k + 1)).countP (fun r => decide (r.l ≠ [])) = (M.take k).countP (fun r => decide (r.l ≠ [])) + if 0 < M[k].l.length then 1 else 0) := hnx
      generalize (M.take k).countP (fun r => decide (r.l ≠ [])) = N at *
      clear hc HR hnx
      by_cases hp : 0 < M[k].l.length
      · have dp : decide ((0 : Int) < (M[k].l.length : Int)) = true := decide_eq_true (by omega)
        have HN2 : Hid ((M.take (k + 1)).countP (fun r => decide (r.l ≠ [])) = N + 1) := by show _ = _; rw [HNx.out, if_pos hp]
        clear HNx
        go_wp2
        go_roundw
        case rel => exact ⟨k + 1, by omega, by simp, by rw [HN2.out]; rfl, HB⟩
        case measure => simp [intOf]; omega
      · have dp : decide ((0 : Int) < (M[k].l.length : Int)) = false := decide_eq_false (by omega)
        have HN2 : Hid ((M.take (k + 1)).countP (fun r => decide (r.l ≠ [])) = N) := by show _ = _; rw [HNx.out, if_neg hp]; rfl
        clear HNx
        go_wp2
        go_roundw
        case rel => exact ⟨k + 1, by omega, by simp, by rw [HN2.out], HB⟩
        case measure => simp [intOf]; omega
    · have dk : decide ((k : Int) < (M.length : Int)) = false := by simp; omega
      have hk' : k = M.length := by omega
      have HZ : Hid ((M.take k).countP (fun r => decide (r.l ≠ [])) = M.countP fun r => decide (r.l ≠ [])) := by show _ = _; rw [hk', List.take_length]
      generalize (M.take k).countP (fun r => decide (r.l ≠ [])) = N at *
      clear HR
      go_wp2
      go_ret
      exact ⟨by rw [← HZ.out]; rfl, HBw.out⟩
end Go.Proofs.YtlndgepoekllkaaGreatDoor
/- The reference's Loosen: its walk. -/
namespace Go.Proofs.YtlndgepoekllkaaGreatDoor
open Go.RowKit Go.ChangeMaps

theorem info_kr : (Tryz.prog.info? 80).map (fun i => (i.zero, i.size, i.bytes)) = some (some zKpV, 10, 160) := by kernel_rfl
/-- What is neither sure nor waits. -/
def lsR (k : KR) : KR := ⟨k.y, false, [], none, 0⟩
theorem kCells_snoc (M : List KR) (k : KR) : kCells (M ++ [k]) = kCells M ++ enK k := by rw [kCells_app]; simp [kCells]
theorem one_kr (k : KR) : ∀ u ∈ enK k, u.oneCell' = true := fun u hu => by
  simp [enK] at hu
  rcases hu with rfl | rfl | rfl | rfl | rfl | rfl | rfl | rfl | rfl | rfl <;> rfl
/-- A row of what the reference keeps: where it lies, what it holds. -/
def KsP (M : List KR) (w : World) (e : Ending) (w' : World) : Prop := ∃ a c, e = .returned (.agg #[.slice a M.length c]) ∧ IsRow w' 10 (.slice a M.length c) M.length (kCells M) ∧ NewA w.heap.size a ∧ Below w.heap.size w w'
theorem ls_next {M : List KR} {k : Nat} (h : k < M.length) : (M.take (k + 1)).map lsR = (M.take k).map lsR ++ [lsR M[k]] := by
  rw [List.take_succ_eq_append_getElem h, List.map_append]
  rfl
set_option maxRecDepth 100000 in
set_option maxHeartbeats 4000000 in
theorem loosen17_any (v : Value) (M : List KR) (w : World) (hr : IsRow w 10 v M.length (kCells M)) (hl : M.length ≤ 1000) :
    Calls Tryz.prog 24 #[.agg #[v]] w fun e w' => KsP (M.map lsR) w e w' := by
  obtain ⟨a0, c0, rfl⟩ := hr.form
  obtain ⟨i0, hi0, hz0, hz1, hz2⟩ := info_parts info_kr
  have HR : Hid (∀ W, Below w.heap.size w W → IsRow W 10 (.slice a0 M.length c0) M.length (kCells M)) := fun W hb => hr.below hb
  clear hr
  obtain ⟨w1, hw1⟩ : ∃ w1, w1 = w.alloc (.cells #[.slice a0 M.length c0] 27) := ⟨_, rfl⟩
  have B1 : Hid (Below w.heap.size w w1) := by show Below _ _ _; rw [hw1]; exact al_b _ _
  have hn1 : w1.heap[w.heap.size]? = some (.cells #[.slice a0 M.length c0] 27 (0, 0)) := by rw [hw1]; exact new_at _ _
  have C1 : Hid (∀ W, Below w1.heap.size w1 W → W.heap[w.heap.size]? = some (.cells #[.slice a0 M.length c0] 27 (0, 0))) := fun W h => (h.block _ (Array.getElem?_eq_some_iff.1 hn1).1).trans hn1
  clear hn1
  obtain ⟨w2, hw2⟩ : ∃ w2, w2 = w1.alloc (.cells #[.slice none 0 0] 27) := ⟨_, rfl⟩
  have B2 : Hid (Below w1.heap.size w1 w2) := by show Below _ _ _; rw [hw2]; exact al_b _ _
  have hn2 : w2.heap[(w.heap.size + 1)]? = some (.cells #[.slice none 0 0] 27 (0, 0)) := by rw [hw2]; rw [show w.heap.size + 1 = w1.heap.size by (rw [hw1]; simp)]; exact new_at _ _
  have C2 : Hid (∀ W, Below w2.heap.size w2 W → W.heap[(w.heap.size + 1)]? = some (.cells #[.slice none 0 0] 27 (0, 0))) := fun W h => (h.block _ (Array.getElem?_eq_some_iff.1 hn2).1).trans hn2
  clear hn2
  have Hz : Hid (w2.heap.size = w.heap.size + 2) := by show _ = _; rw [hw2, hw1]; simp
  have HBw0 : Hid (Below w.heap.size w w2) := B1.out.trans (B2.out.mono B1.out.size)
  go_enter Tryz.func24, Tryz.ntmps24
  go_wp2_with fail
  rw [← hw1, ← hw2]
  clear hw1 hw2
  have HS0 : Hid (w2.ownsRow w2.heap.size 80 10 (.slice none 0 0) ((M.take 0).map lsR).length (kCells ((M.take 0).map lsR))) := World.ownsRow_nil _ _ _ _
  go_loopw [3, 4] (fun o i wr => ∃ k : Nat, k ≤ M.length ∧ i = .int .i64 (k : Int) ∧ Hid (wr.ownsRow w2.heap.size 80 10 o ((M.take k).map lsR).length (kCells ((M.take k).map lsR))) ∧ Hid (Below w2.heap.size w2 wr)) (fun _ i _ => M.length - (intOf i).toNat)
  case atStart => exact ⟨0, Nat.zero_le _, rfl, HS0, Below.refl _ _⟩
  case round =>
    obtain ⟨k, hk, rfl, HO, HB⟩ := hrel
    have hsz := HB.out.size
    have hbox := C1.out _ (B2.out.trans (HB.out.mono B2.out.size))
    have cb : wr.cell? ⟨w.heap.size, 0, none⟩ = some (.slice a0 M.length c0) := by rw [Lib.cell_of_heap hbox]; rfl
    have HBw : Hid (Below w.heap.size w wr) := HBw0.out.trans (HB.out.mono HBw0.out.size)
    clear hbox HS0
    by_cases hlk : k < M.length
    · have dk : decide ((k : Int) < (M.length : Int)) = true := by simp; omega
      obtain ⟨b, off, rfl, hlt, hcap, hc⟩ := kr_at (HR.out wr HBw.out) (by omega)
      obtain ⟨q0, q1, q2, q3, q4, q5, q6, q7, -, -⟩ := hc k hlk
      have HK : Hid ((M.take (k + 1)).map lsR = (M.take k).map lsR ++ [lsR M[k]]) := ls_next hlk
      have hL : ((M.take k).map lsR).length = k := by simp; omega
      generalize (M.take k).map lsR = A at *
      generalize M[k]'hlk = x at *
      obtain ⟨⟨⟨tn, tp, town, tall, tch, tnd, tlf, tsq⟩, ao, co, aa, ca, ac, cc⟩, s0, l0, aw, cw⟩ := x
      dsimp only at *
      clear hc HR
      go_wp2_with (at_builtin; go_loud (refine wpl_appE wr rfl (.tmp 12) (.tmp 20) 25 80 rfl i0 _ 10 160 Tryz.underlying25 hi0 hz0 hz1 hz2 rfl (by decide) w2.heap.size u3 A.length _ rfl HO.out (enK (lsR ⟨⟨⟨tn, tp, town, tall, tch, tnd, tlf, tsq⟩, ao, co, aa, ca, ac, cc⟩, s0, l0, aw, cw⟩)) rfl _ rfl rfl (one_kr _) (by omega) (by unfold maxLen; omega) (by omega) ?_); intro v4 w4 hown4 hb4)
      have HO4 : Hid (w4.ownsRow w2.heap.size 80 10 v4 ((M.take (k + 1)).map lsR).length (kCells ((M.take (k + 1)).map lsR))) := by
        show World.ownsRow _ _ _ _ _ _ _
        rw [HK.out, kCells_snoc, List.length_append]
        exact hown4
      have H4 : Hid (Below w2.heap.size w2 w4) := HB.out.trans hb4
      clear hown4 hb4 HK HO cb q0 q1 q2 q3 q4 q5 q6 q7
      go_wp2
      go_roundw
      case rel => exact ⟨k + 1, by omega, by simp, HO4, H4⟩
      case measure => simp [intOf]; omega
    · have hk' : k = M.length := by omega
      have dk : decide ((k : Int) < (M.length : Int)) = false := by simp; omega
      have hown := HO.out
      rw [hk', List.take_length] at hown
      obtain ⟨xo, yo, rfl⟩ := (IsRow.own hown).form
      have hboxq := C2.out _ HB.out
      have cr : wr.cell? ⟨(w.heap.size + 1), 0, none⟩ = some (.slice none 0 0) := by rw [Lib.cell_of_heap hboxq]; rfl
      have fz : ∀ j, wr.frozen? ⟨(w.heap.size + 1), j, none⟩ = false := fun j => Lib.frozen_of_heap hboxq j
      have HE : Hid (∀ u, KsP (M.map lsR) w (.returned (.agg #[.slice xo (M.map lsR).length yo])) (wr.setCell ⟨(w.heap.size + 1), 0, none⟩ u)) := fun u =>
        ⟨xo, yo, rfl, row_far (IsRow.own hown) (NewA.own hown) (by rw [Hz.out]; omega) 0 _, (NewA.own hown).le (by rw [Hz.out]; omega), HBw.out.setCell (p := ⟨w.heap.size + 1, 0, none⟩) (Nat.le_add_right _ 1) u⟩
      clear hown hboxq HO HR HBw HB
      go_wp2_with fail
      try simp only [Exit.inBlock, Exit.then]
      refine bodyPost_ret (v := .agg #[.slice xo (M.map lsR).length yo]) ?_ rfl (HE.out _)
      rw [results_c1 rfl]; go_simp
end Go.Proofs.YtlndgepoekllkaaGreatDoor
/- The reference's Split and part: walks. -/
namespace Go.Proofs.YtlndgepoekllkaaGreatDoor
open Go.RowKit

/-- The slice v has as many elements as qs, each a slice of a row of qs. -/
def RowsOf (w : World) (v : Value) (qs : List (List Nat)) : Prop :=
  ∃ vs : List Value, IsRow w 1 v qs.length vs ∧ ∀ (i : Nat) (q : List Nat), qs[i]? = some q → ∃ u, vs[i]? = some u ∧ IsRow w 1 u q.length (icells q)
theorem RowsOf.below {w w' : World} {v : Value} {qs : List (List Nat)} (h : RowsOf w v qs) (hb : Below w.heap.size w w') : RowsOf w' v qs := by
  obtain ⟨vs, h1, h2⟩ := h
  refine ⟨vs, h1.below hb, fun i q hq => ?_⟩
  obtain ⟨u, hu, hr⟩ := h2 i q hq
  exact ⟨u, hu, hr.below hb⟩
/-- One of them. -/
theorem RowsOf.at {w : World} {v : Value} {qs : List (List Nat)} (h : RowsOf w v qs) (i : Nat) (hi : i < qs.length) :
    ∃ b off cap u, v = .slice (some ⟨b, off, none⟩) qs.length cap ∧ b < w.heap.size ∧ w.cell? ⟨b, off + i, none⟩ = some u ∧ IsRow w 1 u (qs[i]'hi).length (icells (qs[i]'hi)) := by
  obtain ⟨vs, h1, h2⟩ := h
  obtain ⟨b, off, cap, hv, hlt, _, _, hc⟩ := h1.open (by omega)
  obtain ⟨u, hu, hr⟩ := h2 i _ (List.getElem?_eq_getElem hi)
  exact ⟨b, off, cap, u, hv, hlt, hc i u hu, hr⟩
theorem RowsOf.form {w : World} {v : Value} {qs : List (List Nat)} (h : RowsOf w v qs) : ∃ a cap, v = .slice a qs.length cap := by
  obtain ⟨vs, h1, _⟩ := h
  exact h1.form

theorem owns_same {w w' : World} {base : Nat} {e : TypeId} {sz : Nat} {v : Value} {n : Nat} {xs : List Value} (h : w.ownsRow base e sz v n xs) (hk : ∀ g, v.ownBlock = some g → w'.heap[g]? = w.heap[g]?) : w'.ownsRow base e sz v n xs := by
  refine ⟨h.1, ?_⟩
  rcases h.2 with hn | ⟨g, cap, cur, rfl, hb, hgg, rest⟩
  · exact .inl hn
  · exact .inr ⟨g, cap, cur, rfl, hb, (hk g rfl).trans hgg, rest⟩
theorem owns_base {w : World} {base base' : Nat} {e : TypeId} {sz : Nat} {v : Value} {n : Nat} {xs : List Value} (h : w.ownsRow base e sz v n xs) (hb : base' ≤ base) : w.ownsRow base' e sz v n xs := by
  refine ⟨h.1, ?_⟩
  rcases h.2 with hn | ⟨g, cap, cur, rfl, hb1, rest⟩
  · exact .inl hn
  · exact .inr ⟨g, cap, cur, rfl, Nat.le_trans hb hb1, rest⟩
/-- Rows of other types lie in other blocks. -/
theorem owns_other {w : World} {base base' : Nat} {e e' : TypeId} {sz sz' : Nat} {v v' : Value} {n n' : Nat} {xs xs' : List Value} (h : w.ownsRow base e sz v n xs) (h' : w.ownsRow base' e' sz' v' n' xs') (hne : e ≠ e') (g : Nat) (hg : v.ownBlock = some g) : v'.ownBlock ≠ some g := by
  intro hg'
  rcases h.2 with ⟨rfl, _⟩ | ⟨g1, cap, cur, rfl, _, hgg, _⟩
  · simp [Value.ownBlock] at hg
  rcases h'.2 with ⟨rfl, _⟩ | ⟨g2, cap', cur', rfl, _, hgg', _⟩
  · simp [Value.ownBlock] at hg'
  simp [Value.ownBlock] at hg hg'
  subst hg
  subst hg'
  rw [hgg] at hgg'
  simp at hgg'
  exact hne hgg'.2

/-- Rows that are left as they are, in blocks below N. -/
def Froz (w : World) (base N : Nat) (qs : List (List Nat)) (vs : List Value) : Prop :=
  ∀ (i : Nat) (q : List Nat), qs[i]? = some q → ∃ u, vs[i]? = some u ∧ w.ownsRow base 3 1 u q.length (icells q) ∧ ∀ g, u.ownBlock = some g → g < N
theorem Froz.kept {w w' : World} {base N N' : Nat} {qs : List (List Nat)} {vs : List Value} (h : Froz w base N qs vs) (hN : N ≤ N') (hk : ∀ (u : Value) (n : Nat) (xs : List Value), w.ownsRow base 3 1 u n xs → ∀ g, u.ownBlock = some g → g < N → w'.heap[g]? = w.heap[g]?) : Froz w' base N' qs vs := by
  intro i q hq
  obtain ⟨u, hu, ho, hl⟩ := h i q hq
  exact ⟨u, hu, owns_same ho (fun g hg => hk u _ _ ho g hg (hl g hg)), fun g hg => Nat.lt_of_lt_of_le (hl g hg) hN⟩
theorem Froz.snoc {w : World} {base N : Nat} {qs : List (List Nat)} {vs : List Value} (h : Froz w base N qs vs) (hl : vs.length = qs.length) {q : List Nat} {u : Value} (ho : w.ownsRow base 3 1 u q.length (icells q)) (hg : ∀ g, u.ownBlock = some g → g < N) : Froz w base N (qs ++ [q]) (vs ++ [u]) := by
  intro i p hp
  by_cases hi : i < qs.length
  · rw [List.getElem?_append_left hi] at hp
    obtain ⟨u', hu', h2, h3⟩ := h i p hp
    exact ⟨u', by rw [List.getElem?_append_left (by omega)]; exact hu', h2, h3⟩
  · have hlt : i < (qs ++ [q]).length := (List.getElem?_eq_some_iff.1 hp).1
    rw [List.length_append, List.length_singleton] at hlt
    have : i = qs.length := by omega
    subst this
    rw [List.getElem?_append_right (Nat.le_refl _), Nat.sub_self] at hp
    simp at hp
    subst hp
    exact ⟨u, by rw [List.getElem?_append_right (by omega)]; simp [hl], ho, hg⟩
theorem Froz.rows {w : World} {base N : Nat} {qs : List (List Nat)} {vs : List Value} {v : Value} (h : Froz w base N qs vs) (ho : w.ownsRow base 36 1 v qs.length vs) : RowsOf w v qs :=
  ⟨vs, IsRow.own ho, fun i q hq => by
    obtain ⟨u, hu, h2, _⟩ := h i q hq
    exact ⟨u, hu, IsRow.own h2⟩⟩

theorem info_ints : (Tryz.prog.info? 36).map (fun i => (i.zero, i.size, i.bytes)) = some (some (.slice none 0 0), 1, 24) := by kernel_rfl
/-- What Split leaves. -/
def RwPost (qs : List (List Nat)) (w : World) (e : Ending) (w' : World) : Prop :=
  ∃ v, e = .returned v ∧ RowsOf w' v qs ∧ Below w.heap.size w w'
def SpRel (l : List Nat) (w : World) (o t i : Value) (wr : World) : Prop :=
  ∃ (k N : Nat) (qs : List (List Nat)) (acc : List Nat) (vs : List Value), k ≤ l.length ∧ i = .int .i64 k ∧ w.heap.size ≤ N ∧ N ≤ wr.heap.size ∧ wr.ownsRow w.heap.size 36 1 o qs.length vs ∧ wr.ownsRow N 3 1 t acc.length (icells acc) ∧ Froz wr w.heap.size N qs vs ∧ Below w.heap.size w wr ∧ qs ++ cutR (acc ++ l.drop k) = cutR l ∧ 46 ∉ acc ∧ qs.length ≤ k ∧ acc.length ≤ k
theorem cut_point {acc r : List Nat} (h : 46 ∉ acc) : cutR (acc ++ 46 :: r) = acc :: cutR r := by
  have e : cutR (46 :: r) = [] :: cutR r := by rw [cutR, if_pos rfl]
  have := cut_app acc (46 :: r) h [] (cutR r) e
  simpa using this
theorem cut_last {acc : List Nat} (h : 46 ∉ acc) : cutR acc = [acc] := by
  have := cut_app acc [] h [] [] rfl
  simpa using this
theorem drop_at {l : List Nat} {k : Nat} (h : k < l.length) : l.drop k = l[k] :: l.drop (k + 1) := List.drop_eq_getElem_cons h

set_option maxRecDepth 100000 in
set_option maxHeartbeats 2000000 in
theorem refSplit_any (v0 : Value) (l : List Nat) (w : World) (h0 : IsRow w 1 v0 l.length (icells l)) (hl : l.length ≤ 1000000) :
    Calls Tryz.prog 93 #[v0] w fun e w' => RwPost (cutR l) w e w' := by
  obtain ⟨i0, hi0, hz0, hz1, hz2⟩ := info_parts info_int
  obtain ⟨i1, hi1, hy0, hy1, hy2⟩ := info_parts info_ints
  obtain ⟨a0, cap0, rfl⟩ := h0.form
  go_enter Tryz.func93, Tryz.ntmps93
  go_wp2
  go_loopw [3, 4, 5] (fun o t i wr => SpRel l w o t i wr) (fun _ _ i _ => l.length - (RowKit.intOf i).toNat)
  case atStart => exact ⟨0, w.heap.size, [], [], [], Nat.zero_le _, rfl, Nat.le_refl _, Nat.le_refl _, World.ownsRow_nil _ _ _ _, World.ownsRow_nil _ _ _ _, (fun i q hq => by simp at hq), Below.refl _ _, rfl, by simp, Nat.le_refl _, Nat.le_refl _⟩
  case round =>
    obtain ⟨k, N, qs, acc, vs, hk, rfl, hN1, hN2, ho, ht, hf, hb, hck, hno, hql, hal⟩ := hrel
    have HK : Hid (qs ++ cutR (acc ++ l.drop k) = cutR l) := hck
    have HNO : Hid (46 ∉ acc) := hno
    have HF : Hid (Froz wr w.heap.size N qs vs) := hf
    clear hck hno hf
    have hvl : vs.length = qs.length := by have := ho.1; omega
    have hs := hb.size
    obtain ⟨a1, cap1, rfl⟩ := (IsRow.own ht).form
    by_cases hlt : k < l.length
    · obtain ⟨b, off, cap, hvv, hbl, c0⟩ := ints_row (h0.below hb) k hlt
      simp only [Value.slice.injEq] at hvv
      obtain ⟨rfl, -, rfl⟩ := hvv
      have hi : (k : Int) < l.length := by omega
      by_cases h46 : l[k] = 46
      · have h46' : ((l[k] : Int) == 46) = true := by rw [beq_iff_eq]; omega
        have HK2 : Hid ((qs ++ [acc]) ++ cutR ([] ++ l.drop (k + 1)) = cutR l) := by
          show _ = _
          rw [← HK.out, drop_at hlt, h46, cut_point HNO.out]
          simp
        clear HK
        go_wp2_with (at_builtin; refine wpl_apps _ rfl (.tmp 17) (.tmp 19) 135 36 rfl i1 _ 24 Tryz.underlying135 hi1 hy0 hy1 hy2 rfl _ _ _ _ rfl ho (.slice a1 acc.length cap1) _ rfl rfl rfl (by omega) (by unfold maxLen; omega) (by omega) ?_; intro v3 w3 hown3 hb3 hst3)
        have HR : Hid (SpRel l w v3 (.slice none 0 0) (.int .i64 ((k + 1 : Nat) : Int)) w3) := by
          have hs3 := hb3.size
          have hst4 : ∀ (u : Value) (n : Nat) (xs : List Value), wr.ownsRow w.heap.size 3 1 u n xs → ∀ g, u.ownBlock = some g → w3.heap[g]? = wr.heap[g]? := fun u n xs hu g hg => hst3 g (hu.lt g hg).2 (owns_other hu ho (by decide) g hg)
          have ht' := owns_base ht hN1
          refine ⟨k + 1, w3.heap.size, qs ++ [acc], [], vs ++ [.slice a1 acc.length cap1], hlt, rfl, Nat.le_trans hs hs3, Nat.le_refl _, ?_, World.ownsRow_nil _ _ _ _, ?_, hb.trans hb3, HK2.out, by simp, by rw [List.length_append, List.length_singleton]; omega, by simp⟩
          · rw [List.length_append]; exact hown3
          · refine Froz.snoc (HF.out.kept (Nat.le_trans hN2 hs3) (fun u n xs hu g hg _ => hst4 u n xs hu g hg)) hvl (owns_same ht' (hst4 _ _ _ ht')) (fun g hg => Nat.lt_of_lt_of_le (ht'.lt g hg).2 hs3)
        clear hst3 hown3 hb3 ho ht HF HK2
        go_wp2
        go_roundw
        case rel => simpa using HR.out
        case measure => simp [RowKit.intOf]; omega
      · have h46' : ((l[k] : Int) == 46) = false := by rw [beq_eq_false_iff_ne]; omega
        have HK2 : Hid (qs ++ cutR ((acc ++ [l[k]]) ++ l.drop (k + 1)) = cutR l) := by
          show _ = _
          rw [← HK.out, drop_at hlt]
          simp
        have HNO2 : Hid (46 ∉ acc ++ [l[k]]) := by
          show ¬ _
          intro m
          rcases List.mem_append.1 m with m | m
          · exact HNO.out m
          · simp at m; omega
        have HX : Hid (icells acc ++ [Value.int .i64 (l[k] : Nat)] = icells (acc ++ [l[k]])) := by show _ = _; simp [icells]
        clear HK
        go_wp2_with (at_builtin; refine wpl_apps _ rfl (.tmp 21) (.tmp 26) 36 3 rfl i0 _ 8 Tryz.underlying36 hi0 hz0 hz1 hz2 rfl _ _ _ _ rfl ht (.int .i64 (l[k] : Nat)) _ rfl rfl rfl (by omega) (by unfold maxLen; omega) (by omega) ?_; intro v3 w3 hown3 hb3 hst3)
        have HR : Hid (SpRel l w u3 v3 (.int .i64 ((k + 1 : Nat) : Int)) w3) := by
          have hs3 := hb3.size
          refine ⟨k + 1, N, qs, acc ++ [l[k]], vs, hlt, rfl, hN1, Nat.le_trans hN2 hs3, owns_same ho (fun g hg => hst3 g (ho.lt g hg).2 (owns_other ho ht (by decide) g hg)), ?_, HF.out.kept (Nat.le_refl _) (fun u n xs hu g hg hgN => hst3 g (Nat.lt_of_lt_of_le hgN hN2) (fun e => by have := (ht.lt g e).1; omega)), hb.trans (hb3.mono hN1), HK2.out, HNO2.out, by omega, by rw [List.length_append, List.length_singleton]; omega⟩
          rw [← HX.out, List.length_append]
          exact hown3
        clear hst3 hown3 hb3 ho ht HF HK2
        go_wp2
        go_roundw
        case rel => simpa using HR.out
        case measure => simp [RowKit.intOf]; omega
    · have hk' : k = l.length := by omega
      subst hk'
      have HK2 : Hid (qs ++ [acc] = cutR l) := by
        show _ = _
        rw [← HK.out, List.drop_of_length_le (Nat.le_refl _), List.append_nil, cut_last HNO.out]
      clear HK
      go_wp2_with (at_builtin; refine wpl_apps _ rfl (.tmp 28) (.tmp 30) 135 36 rfl i1 _ 24 Tryz.underlying135 hi1 hy0 hy1 hy2 rfl _ _ _ _ rfl ho (.slice a1 acc.length cap1) _ rfl rfl rfl (by omega) (by unfold maxLen; omega) (by omega) ?_; intro v3 w3 hown3 hb3 hst3)
      have HR : Hid (RowsOf w3 v3 (cutR l) ∧ Below w.heap.size w w3) := by
        have hs3 := hb3.size
        have hst4 : ∀ (u : Value) (n : Nat) (xs : List Value), wr.ownsRow w.heap.size 3 1 u n xs → ∀ g, u.ownBlock = some g → w3.heap[g]? = wr.heap[g]? := fun u n xs hu g hg => hst3 g (hu.lt g hg).2 (owns_other hu ho (by decide) g hg)
        have ht' := owns_base ht hN1
        refine ⟨?_, hb.trans hb3⟩
        rw [← HK2.out]
        refine Froz.rows (Froz.snoc (HF.out.kept (Nat.le_trans hN2 hs3) (fun u n xs hu g hg _ => hst4 u n xs hu g hg)) hvl (owns_same ht' (hst4 _ _ _ ht')) (fun g hg => Nat.lt_of_lt_of_le (ht'.lt g hg).2 hs3)) ?_
        rw [List.length_append]
        exact hown3
      clear hst3 hown3 hb3 ho ht HF HK2
      go_wp2
      go_ret
      exact ⟨_, rfl, HR.out.1, HR.out.2⟩

theorem pos_not (n : Nat) : decide (0 < n) = !(n == 0) := by cases n <;> simp
set_option maxRecDepth 100000 in
set_option maxHeartbeats 2000000 in
theorem refPart_any (v : Value) (q : List Nat) (w : World) (h : IsRow w 1 v q.length (icells q)) (hl : q.length ≤ 1000000) :
    Calls Tryz.prog 94 #[v] w fun e w' => e = .returned (.bool (okp true q)) ∧ w' = w := by
  obtain ⟨O, HO⟩ : ∃ O, Hid (okp true q = O) := ⟨_, rfl⟩
  rw [HO.out]
  obtain ⟨a0, cap0, rfl⟩ := h.form
  go_enter Tryz.func94, Tryz.ntmps94
  go_wp2
  go_loopw [3] (fun i wr => ∃ k : Nat, k ≤ q.length ∧ i = .int .i64 k ∧ Hid (okp (k == 0) (q.drop k) = O) ∧ wr = w) (fun i _ => q.length - (RowKit.intOf i).toNat)
  case atStart => exact ⟨0, Nat.zero_le _, rfl, HO, rfl⟩
  case round =>
    obtain ⟨k, hk, rfl, hck, rfl⟩ := hrel
    by_cases hlt : k < q.length
    · obtain ⟨b, off, cap, hvv, hbl, c0⟩ := ints_row h k hlt
      simp only [Value.slice.injEq] at hvv
      obtain ⟨rfl, -, rfl⟩ := hvv
      have hi : (k : Int) < q.length := by omega
      have HK : Hid (okp (k == 0) (q[k] :: q.drop (k + 1)) = O) := by show _ = _; rw [← drop_at hlt]; exact hck.out
      have hk1 : ((k + 1 : Nat) == 0) = false := by simp
      clear hck HO
      generalize q[k] = c at *
      have hlz := letterZ_nat c
      by_cases hb : beginsN c = true
      · have HR : Hid (okp (k + 1 == 0) (q.drop (k + 1)) = O) := by
          show _ = _
          rw [← HK.out, okp, if_pos hb, hk1]
        clear HK
        by_cases hL : letterN c = true
        · rw [hL] at hlz
          clear hb hL
          go_wp2_with (go_at_call 110; refine (refLetter_any _ _).mono ?_; rintro e w' ⟨rfl, rfl⟩; rw [hlz])
          go_roundw
          case rel => exact ⟨k + 1, hlt, by go_num, HR, by trivial⟩
          case measure => simp [RowKit.intOf]; omega
        · have hL' : letterN c = false := by simpa using hL
          rw [hL'] at hlz
          have h95 : c = 95 := by simpa [beginsN, hL'] using hb
          have h95' : ((c : Int) != 95) = false := by rw [bne_eq_false_iff_eq]; omega
          clear hb hL h95
          go_wp2_with (go_at_call 110; refine (refLetter_any _ _).mono ?_; rintro e w' ⟨rfl, rfl⟩; rw [hlz])
          go_roundw
          case rel => exact ⟨k + 1, hlt, by go_num, HR, by trivial⟩
          case measure => simp [RowKit.intOf]; omega
      · have hb' : beginsN c = false := by simpa using hb
        have hL' : letterN c = false := by
          cases e : letterN c
          · rfl
          · exact absurd (by simp [beginsN, e]) hb
        rw [hL'] at hlz
        have h95 : c ≠ 95 := fun e => hb (by simp [beginsN, e])
        have h95' : ((c : Int) != 95) = true := by rw [bne_iff_ne]; omega
        by_cases hk0 : k = 0
        · have hk0' : ((k : Int) == 0) = true := by rw [beq_iff_eq]; omega
          have HR : Hid (false = O) := by show _ = _; rw [← HK.out, okp, if_neg hb, hk0]; simp
          clear HK hb h95 hk0
          go_wp2_with (go_at_call 110; refine (refLetter_any _ _).mono ?_; rintro e w' ⟨rfl, rfl⟩; rw [hlz])
          go_ret
          exact ⟨by rw [← HR.out]; rfl, rfl⟩
        · have hk0' : ((k : Int) == 0) = false := by rw [beq_eq_false_iff_ne]; omega
          have hk0n : (k == 0) = false := by rw [beq_eq_false_iff_ne]; exact hk0
          by_cases hg : c ≠ 45 ∧ ¬ (48 ≤ c ∧ c ≤ 57)
          · have HR : Hid (false = O) := by show _ = _; rw [← HK.out, okp, if_neg hb, hk0n, if_pos hg]; simp
            have h45 : ((c : Int) != 45) = true := by rw [bne_iff_ne]; omega
            by_cases h48 : c < 48
            · have h48' : decide ((c : Int) < 48) = true := by simp; omega
              clear HK hb h95 hg
              go_wp2_with (go_at_call 110; refine (refLetter_any _ _).mono ?_; rintro e w' ⟨rfl, rfl⟩; rw [hlz])
              go_ret
              exact ⟨by rw [← HR.out]; rfl, rfl⟩
            · have h48' : decide ((c : Int) < 48) = false := by simp; omega
              have h57' : decide ((57 : Int) < c) = true := by simp; omega
              clear HK hb h95 hg
              go_wp2_with (go_at_call 110; refine (refLetter_any _ _).mono ?_; rintro e w' ⟨rfl, rfl⟩; rw [hlz])
              go_ret
              exact ⟨by rw [← HR.out]; rfl, rfl⟩
          · have HR : Hid (okp (k + 1 == 0) (q.drop (k + 1)) = O) := by
              show _ = _
              rw [← HK.out, okp, if_neg hb, hk0n, if_neg hg, hk1]
              simp
            by_cases h45 : c = 45
            · have h45' : ((c : Int) != 45) = false := by rw [bne_eq_false_iff_eq]; omega
              clear HK hb h95 hg h45
              go_wp2_with (go_at_call 110; refine (refLetter_any _ _).mono ?_; rintro e w' ⟨rfl, rfl⟩; rw [hlz])
              go_roundw
              case rel => exact ⟨k + 1, hlt, by go_num, HR, by trivial⟩
              case measure => simp [RowKit.intOf]; omega
            · have h45' : ((c : Int) != 45) = true := by rw [bne_iff_ne]; omega
              have h48' : decide ((c : Int) < 48) = false := by simp; omega
              have h57' : decide ((57 : Int) < c) = false := by simp; omega
              clear HK hb h95 hg
              go_wp2_with (go_at_call 110; refine (refLetter_any _ _).mono ?_; rintro e w' ⟨rfl, rfl⟩; rw [hlz])
              go_roundw
              case rel => exact ⟨k + 1, hlt, by go_num, HR, by trivial⟩
              case measure => simp [RowKit.intOf]; omega
    · have hk' : k = q.length := by omega
      subst hk'
      have HR : Hid (decide (0 < q.length) = O) := by
        show _ = _
        rw [← hck.out, List.drop_of_length_le (Nat.le_refl _), okp]
        exact pos_not q.length
      go_wp2
      go_ret
      exact ⟨by rw [← HR.out]; rfl, rfl⟩
end Go.Proofs.YtlndgepoekllkaaGreatDoor
