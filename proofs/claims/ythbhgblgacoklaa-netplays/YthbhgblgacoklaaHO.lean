/- A net and what lies beside it, step by step; the law's awake: its walk. -/
import Derived.Test.YthbhgblgacoklaaHN
namespace Go.Proofs.Ythbhgblgacoklaa
open Go.RowKit

/-- A net at block g, and blocks beside it that hold what they held. -/
def StN (w0 : World) (g : Nat) (kept : List (Nat × Obj)) (R : Nat → List Pk) (A : Nat → Bool) (w : World) : Prop :=
  ∃ V, NetV w0.heap.size w g V R A ∧ (∀ k o, (k, o) ∈ kept → w.heap[k]? = some o ∧ ¬ Fp g V k) ∧ Below w0.heap.size w0 w
theorem StN.below {w0 : World} {g : Nat} {kept : List (Nat × Obj)} {R : Nat → List Pk} {A : Nat → Bool} {w w' : World} (h : StN w0 g kept R A w) (hb : Below w.heap.size w w') : StN w0 g kept R A w' := by
  obtain ⟨V, h1, h2, h3⟩ := h
  exact ⟨V, h1.below hb, fun k o hk => ⟨(hb.block k (Array.getElem?_eq_some_iff.1 (h2 k o hk).1).1).trans (h2 k o hk).1, (h2 k o hk).2⟩, h3.trans (hb.mono h3.size)⟩
theorem StN.drewN {w0 : World} {g : Nat} {kept : List (Nat × Obj)} {R : Nat → List Pk} {A : Nat → Bool} {w : World} (h : StN w0 g kept R A w) (n : Nat) : StN w0 g kept R A (w.drewN n) := h.below (drewN_b (Below.refl _ _) n)
theorem StN.alloc {w0 : World} {g : Nat} {kept : List (Nat × Obj)} {R : Nat → List Pk} {A : Nat → Bool} {w : World} (h : StN w0 g kept R A w) (o : Obj) : StN w0 g ((w.heap.size, o) :: kept) R A (w.alloc o) := by
  obtain ⟨V, h1, h2, h3⟩ := h
  refine ⟨V, h1.below (al_b w o), fun k o' hk => ?_, h3.trans ((al_b w o).mono h3.size)⟩
  rcases List.mem_cons.1 hk with e | hk
  · cases e
    exact ⟨heap_alloc_new w o, fun hf => by have := (h1.lt hf).2; omega⟩
  · exact ⟨(Below.heap_alloc w o k (Array.getElem?_eq_some_iff.1 (h2 k o' hk).1).1).trans (h2 k o' hk).1, (h2 k o' hk).2⟩
theorem StN.to {w0 : World} {g : Nat} {kept : List (Nat × Obj)} {R : Nat → List Pk} {A : Nat → Bool} {w : World} (h : StN w0 g kept R A w) : Below w0.heap.size w0 w := by obtain ⟨_, _, _, h⟩ := h; exact h
theorem StN.get {w0 : World} {g : Nat} {kept : List (Nat × Obj)} {R : Nat → List Pk} {A : Nat → Bool} {w : World} (h : StN w0 g kept R A w) {k : Nat} {o : Obj} (hk : (k, o) ∈ kept) : w.heap[k]? = some o := by obtain ⟨_, _, h, _⟩ := h; exact (h k o hk).1
theorem StN.drop {w0 : World} {g : Nat} {kept kept' : List (Nat × Obj)} {R : Nat → List Pk} {A : Nat → Bool} {w : World} (h : StN w0 g kept R A w) (hs : ∀ x ∈ kept', x ∈ kept) : StN w0 g kept' R A w := by
  obtain ⟨V, h1, h2, h3⟩ := h
  exact ⟨V, h1, fun k o hk => h2 k o (hs _ hk), h3⟩
/-- A call that turns the net. -/
theorem StN.call {w0 : World} {g : Nat} {kept : List (Nat × Obj)} {R R' : Nat → List Pk} {A A' : Nat → Bool} {w : World} {f : FuncId} {args : Array Value} {r : Value} (h : StN w0 g kept R A w)
    (hc : ∀ V, NetV w0.heap.size w g V R A → Calls Try.prog f args w fun e w' => NP w0.heap.size w g V R' A' r e w') : Calls Try.prog f args w fun e w' => e = .returned r ∧ StN w0 g kept R' A' w' := by
  obtain ⟨V, h1, h2, h3⟩ := h
  refine (hc V h1).mono fun e w' hp => ?_
  obtain ⟨he, V', k1, k2⟩ := hp
  refine ⟨he, V', k1, fun k o hk => ?_, h3.trans (k2.below h1)⟩
  obtain ⟨m1, m2⟩ := h2 k o hk
  obtain ⟨n1, n2⟩ := k2.far (Array.getElem?_eq_some_iff.1 m1).1 m2
  exact ⟨n1.trans m1, n2⟩
/-- A call that only looks at it. -/
theorem StN.look {w0 : World} {g : Nat} {kept : List (Nat × Obj)} {R : Nat → List Pk} {A : Nat → Bool} {w : World} {f : FuncId} {args : Array Value} {r : Value} (h : StN w0 g kept R A w)
    (hc : ∀ V, NetV w0.heap.size w g V R A → Calls Try.prog f args w fun e w' => e = .returned r ∧ Below w.heap.size w w') : Calls Try.prog f args w fun e w' => e = .returned r ∧ StN w0 g kept R A w' := by
  obtain ⟨V, h1, h2, h3⟩ := h
  exact (hc V h1).mono fun e w' hp => ⟨hp.1, StN.below ⟨V, h1, h2, h3⟩ hp.2⟩
theorem StN.new (w : World) : StN w w.heap.size [] noR noA (w.alloc (.cells zNet 69)) := ⟨noV, net_new w, (fun k o hk => by cases hk), al_b w _⟩
theorem up_up {α : Type} (F : Nat → α) (c : Nat) (x y : α) : up (up F c x) c y = up F c y := by
  funext k; simp only [up]; split <;> rfl
theorem cnt_none : ∀ n, cntN noR n = 0
  | 0 => rfl
  | n + 1 => by show cntN noR n + 0 = 0; rw [cnt_none n]
theorem cnt_one (c : Nat) (hc : c < 256) (l : List Pk) : cntN (up noR c l) 256 = l.length := by
  have := cntN_up noR c l 256 hc
  rw [cnt_none] at this
  have e : (noR c).length = 0 := rfl
  omega
theorem hops_none {R : Nat → List Pk} {A : Nat → Bool} : ∀ n, (∀ c, c < n → R c = [] ∨ A c = true) → hopsN R A n = []
  | 0, _ => rfl
  | n + 1, h => by
    unfold hopsN
    rw [if_neg, hops_none n (fun c hc => h c (by omega))]
    rintro ⟨h1, h2⟩
    rcases h n (by omega) with e | e
    · rw [e] at h1; exact absurd h1 (by simp)
    · rw [e] at h2; cases h2
def awP : Pk := ⟨1, 2, 1, 1, 1, 0, ⟨#[97]⟩⟩
def awQ : Pk := ⟨1, 2, 1, 1, 2, 0, ⟨#[98]⟩⟩
theorem awk1 : sendE noR awP = 0 ∧ sendR noR awP = up noR 18 [awP] := by
  have hk : chkP awP = true := by decide
  have hc : cntN noR 256 < 400 := by rw [cnt_none]; omega
  refine ⟨?_, ?_⟩
  · unfold sendE; rw [if_pos hk, if_pos hc]
  · unfold sendR; rw [if_pos ⟨hk, hc⟩]; rfl
theorem awk2 : sendE (up noR 18 [awP]) awQ = 0 ∧ sendR (up noR 18 [awP]) awQ = up noR 18 [awP, awQ] := by
  have hk : chkP awQ = true := by decide
  have hc : cntN (up noR 18 [awP]) 256 < 400 := by rw [cnt_one 18 (by omega)]; decide
  refine ⟨?_, ?_⟩
  · unfold sendE; rw [if_pos hk, if_pos hc]
  · unfold sendR; rw [if_pos ⟨hk, hc⟩, show rix awQ.f awQ.t = 18 from rfl, up_up, up_same]; rfl
theorem awl (l : List Pk) (i : Int) (h0 : 0 ≤ i) (hi : i < l.length) : lookI (up noR 18 l) 1 2 i = 0 := by
  unfold lookI
  rw [if_pos (by decide), show rix 1 2 = 18 from rfl, up_same, if_neg (by omega)]
theorem awk3 : twiceE (up noR 18 [awP, awQ]) 1 2 0 = 0 ∧ twiceR (up noR 18 [awP, awQ]) 1 2 0 = up noR 18 [awP, awQ, awP] := by
  have hl := awl [awP, awQ] 0 (by omega) (by decide)
  have hc : cntN (up noR 18 [awP, awQ]) 256 < 400 := by rw [cnt_one 18 (by omega)]; decide
  have h1 : twiceE (up noR 18 [awP, awQ]) 1 2 0 = 0 := by unfold twiceE; rw [if_pos hl, if_pos hc]
  refine ⟨h1, ?_⟩
  unfold twiceR; rw [if_pos h1, show rix 1 2 = 18 from rfl, up_up, up_same]; rfl
theorem awk4 : takeE (up noR 18 [awP, awQ, awP]) noA 1 2 2 = 0 ∧ takeP (up noR 18 [awP, awQ, awP]) noA 1 2 2 = awP ∧ takeR (up noR 18 [awP, awQ, awP]) noA 1 2 2 = up noR 18 [awP, awQ] := by
  have hl := awl [awP, awQ, awP] 2 (by omega) (by decide)
  have h1 : takeE (up noR 18 [awP, awQ, awP]) noA 1 2 2 = 0 := by unfold takeE; rw [if_pos hl]; rfl
  refine ⟨h1, ?_, ?_⟩
  · unfold takeP; rw [if_pos h1, show rix 1 2 = 18 from rfl, up_same]; rfl
  · unfold takeR; rw [if_pos h1, show rix 1 2 = 18 from rfl, up_up, up_same]; rfl
abbrev awA : Nat → Bool := up (up noA 33 true) 18 true
theorem awk5 : apartE 2 1 = 0 ∧ apartA noA 2 1 true = awA := by
  refine ⟨by decide, ?_⟩
  unfold apartA; rw [if_pos (by decide)]; rfl
theorem awk6 : takeE (up noR 18 [awP, awQ]) awA 1 2 0 = 12 ∧ takeP (up noR 18 [awP, awQ]) awA 1 2 0 = zP ∧ takeR (up noR 18 [awP, awQ]) awA 1 2 0 = up noR 18 [awP, awQ] := by
  have hl := awl [awP, awQ] 0 (by omega) (by decide)
  have h1 : takeE (up noR 18 [awP, awQ]) awA 1 2 0 = 12 := by unfold takeE; rw [if_pos hl]; rfl
  refine ⟨h1, ?_, ?_⟩
  · unfold takeP; rw [h1]; rfl
  · unfold takeR; rw [h1]; rfl
theorem awk7 : cntN (up noR 18 [awP, awQ]) 256 = 2 ∧ hopsN (up noR 18 [awP, awQ]) awA 256 = [] := by
  refine ⟨by rw [cnt_one 18 (by omega)]; rfl, hops_none 256 fun c hc => ?_⟩
  by_cases e : c = 18
  · right; subst e; exact up_same _ _ _
  · left; rw [up_other _ _ e]; rfl
set_option maxRecDepth 100000 in
set_option maxHeartbeats 4000000 in
theorem awake12_any (w : World) : Calls Try.prog 9 #[] w fun e w' => e = .returned (.bool true) ∧ Below w.heap.size w w' := by
  have HP : Hid (∀ f t s x w, Calls Try.prog 21 #[.int .i64 f, .int .i64 t, .int .i64 s, .string x] w fun e w' => e = .returned (pV ⟨f, t, 1, 1, s, 0, x⟩) ∧ Below w.heap.size w w') := packet_any
  have HN : Hid (∀ w, Calls Try.prog 8 #[] w fun e w' => e = .returned (nP w.heap.size) ∧ w' = w.alloc (.cells zNet 69)) := new_any
  have S0 := StN.new w
  generalize hg : w.heap.size = g at *
  have S1 := S0.alloc (.cells #[.int .i64 1, .int .i64 2] 33)
  generalize hH : (w.alloc (.cells zNet 69)).heap.size = H at *
  have H1 : Hid (StN w g [(H, .cells #[.int .i64 1, .int .i64 2] 33)] noR noA ((w.alloc (.cells zNet 69)).alloc (.cells #[.int .i64 1, .int .i64 2] 33))) := S1
  have HNw : Hid (Calls Try.prog 8 #[] w fun e w' => e = .returned (nP g) ∧ w' = w.alloc (.cells zNet 69)) := by have := HN.out w; rw [hg] at this; exact this
  clear S0 S1 HN
  go_enter Try.func9, Try.ntmps9
  go_wp2_with fail
  refine HNw.out.mono ?_
  rintro e w1 ⟨rfl, rfl⟩
  go_wp2_with fail
  refine (HP.out 1 2 1 _ _).mono ?_
  rintro e w2 ⟨rfl, hb⟩
  have T2 : Hid (StN w g [(H, .cells #[.int .i64 1, .int .i64 2] 33)] noR noA w2) := H1.out.below hb
  have C2 : Hid (Calls Try.prog 18 #[nP g, pV awP] w2 fun e w' => e = .returned (.int .i64 0) ∧ StN w g [(H, .cells #[.int .i64 1, .int .i64 2] 33)] (up noR 18 [awP]) noA w') := by
    have := T2.out.call (fun V hv => send_any awP (by decide) hv (by rw [cnt_none]; omega))
    rw [awk1.1, awk1.2] at this
    exact this
  clear hb H1
  go_wp2_with fail
  refine C2.out.mono ?_
  rintro e w3 ⟨rfl, T3'⟩
  have T3 : Hid (StN w g [(H, .cells #[.int .i64 1, .int .i64 2] 33)] (up noR 18 [awP]) noA w3) := T3'
  clear T3' T2 C2
  go_wp2_with fail
  refine (HP.out 1 2 2 _ _).mono ?_
  rintro e w4 ⟨rfl, hb⟩
  have T4 : Hid (StN w g [(H, .cells #[.int .i64 1, .int .i64 2] 33)] (up noR 18 [awP]) noA w4) := T3.out.below hb
  have C4 : Hid (Calls Try.prog 18 #[nP g, pV awQ] w4 fun e w' => e = .returned (.int .i64 0) ∧ StN w g [(H, .cells #[.int .i64 1, .int .i64 2] 33)] (up noR 18 [awP, awQ]) noA w') := by
    have := T4.out.call (fun V hv => send_any awQ (by decide) hv (by rw [cnt_one 18 (by omega)]; decide))
    rw [awk2.1, awk2.2] at this
    exact this
  clear hb T3
  go_wp2_with fail
  refine C4.out.mono ?_
  rintro e w5 ⟨rfl, T5'⟩
  have Tw5 : Hid (StN w g [(H, .cells #[.int .i64 1, .int .i64 2] 33)] (up noR 18 [awP, awQ]) noA w5) := T5'
  have C5 : Hid (Calls Try.prog 20 #[nP g, hV 1 2, .int .i64 0] w5 fun e w' => e = .returned (.int .i64 0) ∧ StN w g [(H, .cells #[.int .i64 1, .int .i64 2] 33)] (up noR 18 [awP, awQ, awP]) noA w') := by
    have := Tw5.out.call (fun V hv => twice_any 1 2 0 hv (by rw [cnt_one 18 (by omega)]; decide))
    rw [awk3.1, awk3.2] at this
    exact this
  have hk := Tw5.out.get (k := H) (o := .cells #[.int .i64 1, .int .i64 2] 33) (by simp)
  have x0 : w5.cell? ⟨H, 0, none⟩ = some (.int .i64 1) := by rw [Lib.cell_of_heap hk]; rfl
  have x1 : w5.cell? ⟨H, 1, none⟩ = some (.int .i64 2) := by rw [Lib.cell_of_heap hk]; rfl
  clear hk
  clear T5' T4 C4
  go_wp2_with fail
  refine C5.out.mono ?_
  rintro e w6 ⟨rfl, T6'⟩
  have Tw6 : Hid (StN w g [(H, .cells #[.int .i64 1, .int .i64 2] 33)] (up noR 18 [awP, awQ, awP]) noA w6) := T6'
  have C6 : Hid (Calls Try.prog 19 #[nP g, hV 1 2, .int .i64 2] w6 fun e w' => e = .returned (.tuple #[pV awP, .int .i64 0]) ∧ StN w g [(H, .cells #[.int .i64 1, .int .i64 2] 33)] (up noR 18 [awP, awQ]) noA w') := by
    have := Tw6.out.call (fun V hv => take_any 1 2 2 hv (by rw [cnt_one 18 (by omega)]; decide))
    rw [awk4.1, awk4.2.1, awk4.2.2] at this
    exact this
  clear x0 x1 Tw5 C5
  have hk := Tw6.out.get (k := H) (o := .cells #[.int .i64 1, .int .i64 2] 33) (by simp)
  have x0 : w6.cell? ⟨H, 0, none⟩ = some (.int .i64 1) := by rw [Lib.cell_of_heap hk]; rfl
  have x1 : w6.cell? ⟨H, 1, none⟩ = some (.int .i64 2) := by rw [Lib.cell_of_heap hk]; rfl
  clear hk
  clear T6'
  go_wp2_with fail
  refine C6.out.mono ?_
  rintro e w7 ⟨rfl, T7'⟩
  have T7 : Hid (StN w g [(H, .cells #[.int .i64 1, .int .i64 2] 33)] (up noR 18 [awP, awQ]) noA w7) := T7'
  clear x0 x1 Tw6 C6 T7'
  have T8a := T7.out.alloc (.cells (pA awP) 31)
  generalize hHb : w7.heap.size = Hb at *
  have T8 : Hid (StN w g [(Hb, .cells (pA awP) 31), (H, .cells #[.int .i64 1, .int .i64 2] 33)] (up noR 18 [awP, awQ]) noA (w7.alloc (.cells (pA awP) 31))) := T8a
  have C8 : Hid (Calls Try.prog 25 #[nP g, .int .i64 2, .int .i64 1, .bool true] (w7.alloc (.cells (pA awP) 31)) fun e w' => e = .returned (.int .i64 0) ∧ StN w g [(Hb, .cells (pA awP) 31), (H, .cells #[.int .i64 1, .int .i64 2] 33)] (up noR 18 [awP, awQ]) awA w') := by
    have := T8.out.call (fun V hv => apart_any 2 1 true hv)
    rw [awk5.1, awk5.2] at this
    exact this
  clear T8a T7
  go_wp2_with fail
  refine C8.out.mono ?_
  rintro e w9 ⟨rfl, T9'⟩
  have T9 : Hid (StN w g [(Hb, .cells (pA awP) 31), (H, .cells #[.int .i64 1, .int .i64 2] 33)] (up noR 18 [awP, awQ]) awA w9) := T9'
  have C9 : Hid (Calls Try.prog 19 #[nP g, hV 1 2, .int .i64 0] w9 fun e w' => e = .returned (.tuple #[pV zP, .int .i64 12]) ∧ StN w g [(Hb, .cells (pA awP) 31), (H, .cells #[.int .i64 1, .int .i64 2] 33)] (up noR 18 [awP, awQ]) awA w') := by
    have := T9.out.call (fun V hv => take_any 1 2 0 hv (by rw [cnt_one 18 (by omega)]; decide))
    rw [awk6.1, awk6.2.1, awk6.2.2] at this
    exact this
  have hk := T9.out.get (k := H) (o := .cells #[.int .i64 1, .int .i64 2] 33) (by simp)
  have x0 : w9.cell? ⟨H, 0, none⟩ = some (.int .i64 1) := by rw [Lib.cell_of_heap hk]; rfl
  have x1 : w9.cell? ⟨H, 1, none⟩ = some (.int .i64 2) := by rw [Lib.cell_of_heap hk]; rfl
  clear hk T9' T8 C8
  go_wp2_with fail
  refine C9.out.mono ?_
  rintro e w10 ⟨rfl, T10'⟩
  have T11 : Hid (StN w g [(Hb, .cells (pA awP) 31), (H, .cells #[.int .i64 1, .int .i64 2] 33)] (up noR 18 [awP, awQ]) awA (w10.alloc (.cells (pA zP) 31))) := T10'.below (al_b w10 _)
  have C11 : Hid (Calls Try.prog 23 #[nP g] (w10.alloc (.cells (pA zP) 31)) fun e w' => e = .returned (.int .i64 2) ∧ StN w g [(Hb, .cells (pA awP) 31), (H, .cells #[.int .i64 1, .int .i64 2] 33)] (up noR 18 [awP, awQ]) awA w') := by
    have := T11.out.look (fun V hv => (count_any hv (by rw [awk7.1]; omega)).mono fun e w' h => ⟨h.1, by rw [h.2]; exact Below.refl _ _⟩)
    rw [awk7.1] at this
    exact this
  have hk := T11.out.get (k := Hb) (o := .cells (pA awP) 31) (by simp)
  have x6 : (w10.alloc (.cells (pA zP) 31)).cell? ⟨Hb, 6, none⟩ = some (.string ⟨#[97]⟩) := by rw [Lib.cell_of_heap hk]; rfl
  clear hk T10' T9 C9 x0 x1
  dsimp only [pA, zP] at *
  go_wp2_with fail
  refine C11.out.mono ?_
  rintro e w12 ⟨rfl, T12'⟩
  have C12 : Hid (Calls Try.prog 26 #[nP g] w12 fun e w' => HoPost [] w12 e w') := by
    obtain ⟨V, hv, -, -⟩ := T12'
    have := hops_any hv
    rw [awk7.2] at this
    exact this
  have HB12 : Hid (Below g w w12) := by have := T12'.to; rw [hg] at this; exact this
  have hs12 : g ≤ w12.heap.size := by have := T12'.to.size; omega
  clear T12' T11 C11
  go_wp2_with fail
  refine C12.out.mono ?_
  rintro e w13 ⟨v, rfl, hr, hb⟩
  obtain ⟨a0, cap0, rfl⟩ := hr.form
  have HB13 : Hid (Below g w w13) := HB12.out.trans (hb.mono hs12)
  clear hr hb C12
  go_wp2
  go_ret
  exact ⟨rfl, HB13.out⟩
end Go.Proofs.Ythbhgblgacoklaa
