/- QueueNil: what it calls, its walk. -/
import Derived.Test.YtnldibcfpbignaaDoorQP
namespace Go.Proofs.YtnldibcfpbignaaDoor
open Go.RowKit Go.ChangeMaps

/-- An attribute. -/
structure At where
  n : ByteArray
  k : Int
  v : Int
  s : ByteArray
def enA (x : At) : List Value := [.string x.n, .int .i64 x.k, .int .i64 x.v, .string x.s]
def aCells (l : List At) : List Value := l.flatMap enA
theorem aCells_get : ∀ (l : List At) (k : Nat) (h : k < l.length) (i : Nat), i < 4 → (aCells l)[k * 4 + i]? = (enA l[k])[i]?
  | [], k, h, _, _ => absurd h (by simp)
  | d :: D, 0, _, i, hi => by
    rw [aCells, List.flatMap_cons, Nat.zero_mul, Nat.zero_add, List.getElem?_append_left (by show i < 4; exact hi)]
    rfl
  | d :: D, k + 1, h, i, hi => by
    have z : (enA d).length = 4 := rfl
    rw [aCells, List.flatMap_cons, List.getElem?_append_right (by omega), show (k + 1) * 4 + i - (enA d).length = k * 4 + i by omega]
    have := aCells_get D k (by simpa using h) i hi
    rw [aCells] at this
    rw [this]
    rfl
theorem a_at {w : World} {a : Option Addr} {cap : Nat} {l : List At} (h : IsRow w 4 (.slice a l.length cap) l.length (aCells l)) (h0 : 0 < l.length) :
    ∃ b off, a = some ⟨b, off, none⟩ ∧ b < w.heap.size ∧ ∀ (k : Nat) (hk : k < l.length), w.cell? ⟨b, off + k * 4, none⟩ = some (.string l[k].n) ∧ w.cell? ⟨b, off + k * 4 + 3, none⟩ = some (.string l[k].s) := by
  obtain ⟨b, off, cap', hv, hlt, q1, q2, hc⟩ := h.open (by omega)
  simp only [Value.slice.injEq] at hv
  refine ⟨b, off, hv.1, hlt, fun k hk => ⟨?_, ?_⟩⟩
  · have := hc (k * 4) (.string l[k].n) (by have := aCells_get l k hk 0 (by omega); rw [Nat.add_zero] at this; rw [this]; rfl)
    simpa using this
  · have := hc (k * 4 + 3) (.string l[k].s) (by rw [aCells_get l k hk 3 (by omega)]; rfl)
    rwa [← Nat.add_assoc] at this
def BoP (w : World) (e : Ending) (w' : World) : Prop := ∃ b : Bool, e = .returned (.bool b) ∧ Below w.heap.size w w'
set_option maxRecDepth 100000 in
set_option maxHeartbeats 2000000 in
theorem fewA_some (v : Value) (l : List At) (w : World) (hr : IsRow w 4 v l.length (aCells l)) (hl : l.length ≤ 140737488355328) :
    Calls Tryd.prog 34 #[v] w fun e w' => BoP w e w' := by
  obtain ⟨a0, cap0, rfl⟩ := hr.form
  have HR : Hid (IsRow w 4 (.slice a0 l.length cap0) l.length (aCells l)) := hr
  have HB : Hid (∀ b, BoP w (.returned (.bool b)) w) := fun b => ⟨b, rfl, Below.refl _ _⟩
  clear hr
  go_enter Tryd.func34, Tryd.ntmps34
  go_wp2_with fail
  go_loopw [2, 3] (fun r i wr => r = .bool false ∧ ∃ k : Nat, k ≤ l.length ∧ k ≤ 41 ∧ i = .int .i64 (k : Int) ∧ w = wr) (fun _ i _ => l.length - (intOf i).toNat)
  case atStart => exact ⟨rfl, 0, Nat.zero_le _, by omega, rfl, rfl⟩
  case round =>
    obtain ⟨rfl, k, hk, hk41, rfl, rfl⟩ := hrel
    by_cases hlk : k < l.length
    · have dk : decide ((k : Int) < l.length) = true := by simp; omega
      obtain ⟨b, off, rfl, hlt, hc⟩ := a_at HR.out (by omega)
      obtain ⟨ck0, ck3⟩ := hc k hlk
      have i1 : (0 : Int) ≤ (k : Int) := by omega
      have i2 : (k : Int) < (l.length : Int) := by omega
      by_cases h40 : k ≤ 40
      · have d40 : decide ((40 : Int) < (k : Int)) = false := by simp; omega
        generalize l[k].n = nm at *
        generalize l[k].s = tx at *
        clear hc
        by_cases h200 : nm.size ≤ 200
        · have d200 : decide ((200 : Int) < (nm.size : Int)) = false := by simp; omega
          by_cases h500 : tx.size ≤ 500
          · have d500 : decide ((500 : Int) < (tx.size : Int)) = false := by simp; omega
            go_wp2
            go_roundw
            case rel => exact ⟨rfl, k + 1, by omega, by omega, by simp, trivial⟩
            case measure => simp [intOf]; omega
          · have d500 : decide ((500 : Int) < (tx.size : Int)) = true := by simp; omega
            go_wp2
            go_ret
            exact HB.out _
        · have d200 : decide ((200 : Int) < (nm.size : Int)) = true := by simp; omega
          go_wp2
          go_ret
          exact HB.out _
      · have d40 : decide ((40 : Int) < (k : Int)) = true := by simp; omega
        clear hc
        go_wp2
        go_ret
        exact HB.out _
    · obtain rfl : k = l.length := by omega
      have dk : decide ((l.length : Int) < l.length) = false := by simp
      go_wp2
      go_ret
      exact HB.out _
/-- An act: its kind, its number, what is given. -/
abbrev acV (kd n : Int) (x : Gv) : Value := .agg #[.int .i64 kd, .int .i64 n, .int .i64 x.s, .string x.o, .int .i64 x.n, .int .i64 x.l, .int .i64 x.q, .string x.t, .slice x.a x.k x.c]
abbrev acA (kd n : Int) (x : Gv) : Array Value := #[.int .i64 kd, .int .i64 n, .int .i64 x.s, .string x.o, .int .i64 x.n, .int .i64 x.l, .int .i64 x.q, .string x.t, .slice x.a x.k x.c]
abbrev eV (x : Gv) : Value := .agg #[.int .i64 x.n, .int .i64 x.l, .int .i64 x.q, .string x.t, .slice x.a x.k x.c]
theorem few6_some (x : Gv) (l : List At) (w : World) (hr : IsRow w 4 (.slice x.a x.k x.c) l.length (aCells l)) (hl : l.length ≤ 140737488355328) :
    Calls Tryd.prog 24 #[eV x] w fun e w' => BoP w e w' := by
  have hB : Below w.heap.size w (w.alloc (.cells #[.int .i64 x.n, .int .i64 x.l, .int .i64 x.q, .string x.t, .slice x.a x.k x.c] 36)) := al_b w _
  have HF : Hid (Calls Tryd.prog 34 #[.slice x.a x.k x.c] (w.alloc (.cells #[.int .i64 x.n, .int .i64 x.l, .int .i64 x.q, .string x.t, .slice x.a x.k x.c] 36)) fun e w' => BoP (w.alloc (.cells #[.int .i64 x.n, .int .i64 x.l, .int .i64 x.q, .string x.t, .slice x.a x.k x.c] 36)) e w') := fewA_some _ l _ (hr.below hB) hl
  have HB : Hid (Below w.heap.size w (w.alloc (.cells #[.int .i64 x.n, .int .i64 x.l, .int .i64 x.q, .string x.t, .slice x.a x.k x.c] 36))) := hB
  obtain ⟨xs, xo, xn, xl, xq, xt, xa, xk, xc⟩ := x
  clear hr hB
  dsimp only at *
  by_cases h2 : xt.size ≤ 200
  · have d2 : decide ((xt.size : Int) ≤ 200) = true := by simp; omega
    go_enter Tryd.func24, Tryd.ntmps24
    go_wp2_with fail
    refine HF.out.mono ?_
    rintro e w1 ⟨b, rfl, hb⟩
    have HX : Hid (∀ b, BoP w (.returned (.bool b)) w1) := fun b => ⟨b, rfl, HB.out.trans (hb.mono HB.out.size)⟩
    clear hb HB HF
    cases b <;> (go_wp2; go_ret; exact HX.out _)
  · have d2 : decide ((xt.size : Int) ≤ 200) = false := by simp; omega
    have HX : Hid (∀ b, BoP w (.returned (.bool b)) (w.alloc (.cells #[.int .i64 xn, .int .i64 xl, .int .i64 xq, .string xt, .slice xa xk xc] 36))) := fun b => ⟨b, rfl, HB.out⟩
    clear HB HF
    go_enter Tryd.func24, Tryd.ntmps24
    go_wp2
    go_ret
    exact HX.out _
theorem few18_some (kd n : Int) (x : Gv) (l : List At) (w : World) (hr : IsRow w 4 (.slice x.a x.k x.c) l.length (aCells l)) (hl : l.length ≤ 140737488355328) :
    Calls Tryd.prog 10 #[acV kd n x] w fun e w' => BoP w e w' := by
  have hB : Below w.heap.size w (w.alloc (.cells (acA kd n x) 40)) := al_b w _
  have HF : Hid (Calls Tryd.prog 24 #[eV x] (w.alloc (.cells (acA kd n x) 40)) fun e w' => BoP (w.alloc (.cells (acA kd n x) 40)) e w') := few6_some x l _ (hr.below hB) hl
  have HB : Hid (Below w.heap.size w (w.alloc (.cells (acA kd n x) 40))) := hB
  obtain ⟨xs, xo, xn, xl, xq, xt, xa, xk, xc⟩ := x
  clear hr hB
  dsimp only [acA] at *
  by_cases h2 : xo.size ≤ 200
  · have d2 : decide ((xo.size : Int) ≤ 200) = true := by simp; omega
    go_enter Tryd.func10, Tryd.ntmps10
    go_wp2_with fail
    refine HF.out.mono ?_
    rintro e w1 ⟨b, rfl, hb⟩
    have HX : Hid (∀ b, BoP w (.returned (.bool b)) w1) := fun b => ⟨b, rfl, HB.out.trans (hb.mono HB.out.size)⟩
    clear hb HB HF
    cases b <;> (go_wp2; go_ret; exact HX.out _)
  · have d2 : decide ((xo.size : Int) ≤ 200) = false := by simp; omega
    have HX : Hid (∀ b, BoP w (.returned (.bool b)) (w.alloc (.cells #[.int .i64 kd, .int .i64 n, .int .i64 xs, .string xo, .int .i64 xn, .int .i64 xl, .int .i64 xq, .string xt, .slice xa xk xc] 40))) := fun b => ⟨b, rfl, HB.out⟩
    clear HB HF
    go_enter Tryd.func10, Tryd.ntmps10
    go_wp2
    go_ret
    exact HX.out _
theorem offer_nil (x : Gv) (w : World) : Calls Tryd.prog 13 #[nilQ, gV x] w fun e w' => e = .returned (.int .i64 1) ∧ Below w.heap.size w w' := by
  have HB : Hid (Below w.heap.size w (w.alloc (.cells (gA x) 38))) := al_b w _
  obtain ⟨xs, xo, xn, xl, xq, xt, xa, xk, xc⟩ := x
  dsimp only [gA] at *
  go_enter Tryd.func13, Tryd.ntmps13
  go_wp2
  go_ret
  exact ⟨rfl, HB.out⟩
theorem poll_nil (n : Int) (w : World) : Calls Tryd.prog 16 #[nilQ, .int .i64 n] w fun e w' => e = .returned (.slice none 0 0) ∧ Below w.heap.size w w' := by
  go_enter Tryd.func16, Tryd.ntmps16
  go_wp2
  go_ret
  exact ⟨rfl, Below.refl _ _⟩
theorem peek_nil (w : World) : Calls Tryd.prog 22 #[nilQ] w fun e w' => e = .returned (.slice none 0 0) ∧ Below w.heap.size w w' := by
  go_enter Tryd.func22, Tryd.ntmps22
  go_wp2
  go_ret
  exact ⟨rfl, Below.refl _ _⟩
theorem len_nil (w : World) : Calls Tryd.prog 19 #[nilQ] w fun e w' => e = .returned (.int .i64 0) ∧ Below w.heap.size w w' := by
  go_enter Tryd.func19, Tryd.ntmps19
  go_wp2
  go_ret
  exact ⟨rfl, Below.refl _ _⟩
theorem room_nil (w : World) : Calls Tryd.prog 9 #[nilQ] w fun e w' => e = .returned (.int .i64 0) ∧ Below w.heap.size w w' := by
  go_enter Tryd.func9, Tryd.ntmps9
  go_wp2
  go_ret
  exact ⟨rfl, Below.refl _ _⟩
theorem over_nil (n : Int) (w : World) : Calls Tryd.prog 20 #[nilQ, .int .i64 n] w fun e w' => e = .returned (.int .i64 0) ∧ Below w.heap.size w w' := by
  go_enter Tryd.func20, Tryd.ntmps20
  go_wp2
  go_ret
  exact ⟨rfl, Below.refl _ _⟩
theorem forget_nil (n : Int) (w : World) : Calls Tryd.prog 18 #[nilQ, .int .i64 n] w fun e w' => e = .returned (.int .i64 0) ∧ Below w.heap.size w w' := by
  have HB : Hid (Below w.heap.size w (w.alloc (.cells #[.int .i64 n] 3))) := al_b w _
  go_enter Tryd.func18, Tryd.ntmps18
  go_wp2
  go_ret
  exact ⟨rfl, HB.out⟩
end Go.Proofs.YtnldibcfpbignaaDoor
