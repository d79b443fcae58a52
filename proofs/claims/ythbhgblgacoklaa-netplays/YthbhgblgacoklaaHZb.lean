/- The net's Row; Clear of no node: walks. -/
import Derived.Test.YthbhgblgacoklaaHZa
namespace Go.Proofs.Ythbhgblgacoklaa
open Go.RowKit

def ClK (l : List Pk) (w : World) (e : Ending) (w' : World) : Prop := ∃ v, e = .returned v ∧ w'.ownsRow w.heap.size 31 7 v l.length (pCells l) ∧ Below w.heap.size w w'
set_option maxRecDepth 100000 in
set_option maxHeartbeats 1000000 in
theorem clonePk_any {base : Nat} {w : World} {v : Value} {l : List Pk} (h : OwnW w base v l) (hl : l.length ≤ 1000) :
    Calls Try.prog 35 #[v] w fun e w' => ClK l w e w' := by
  rcases h with ⟨rfl, rfl⟩ | ⟨b, cap, cur, rfl, hb, hg, hc, hm, hs, ht⟩
  · have heq : ∀ w, (binOp BinOp.eql 43 (.slice none 0 0) (.slice none 0 0)).run Try.prog w = .ok (.bool true) w := fun w => by kernel_rfl
    go_enter Try.func35, Try.ntmps35
    go_wp2
    go_ret
    exact ⟨_, rfl, ⟨rfl, .inl ⟨rfl, rfl⟩⟩, Below.refl _ _⟩
  · obtain ⟨i0, hi0, hz0, hz1, hz2⟩ := info_parts info_pk
    have hlt : b < w.heap.size := (Array.getElem?_eq_some_iff.1 hg).1
    have HW : Hid ((w.alloc (.cells #[] 31)).ownsRow w.heap.size 31 7 (.slice (some ⟨w.heap.size, 0, none⟩) 0 0) 0 []) := ⟨rfl, .inr ⟨w.heap.size, 0, #[], rfl, Nat.le_refl _, heap_alloc_new w _, Nat.le_refl _, Nat.zero_le _, rfl, rfl⟩⟩
    have HC : Hid (∀ j u, (pCells l)[j]? = some u → (w.alloc (.cells #[] 31)).cell? ((⟨b, 0, none⟩ : Addr).add j) = some u) := fun j u hu => by
      have e : (⟨b, 0, none⟩ : Addr).add j = ⟨b, j, none⟩ := by unfold Addr.add; split <;> simp_all
      rw [e, (al_b w _).cell (p := ⟨b, j, none⟩) hlt, cell_of_row w b j cur _ (0, 0) hg]
      rw [← ht, List.getElem?_take] at hu
      split at hu
      · simpa using hu
      · cases hu
    have HB : Hid (Below w.heap.size w (w.alloc (.cells #[] 31))) := al_b w _
    have heq : ∀ w, (binOp BinOp.eql 43 (.slice (some ⟨b, 0, none⟩) l.length cap) (.slice none 0 0)).run Try.prog w = .ok (.bool false) w := fun w => by kernel_rfl
    clear ht hs hg
    go_enter Try.func35, Try.ntmps35
    go_wp2_with (at_builtin; go_loud (refine wpList_append_own (w.alloc (.cells #[] 31)) rfl (.tmp 5) (.tmp 6) 43 rfl w.heap.size 31 i0 _ 7 64 Try.underlying43 hi0 hz0 hz1 hz2 rfl (by decide) (.slice (some ⟨w.heap.size, 0, none⟩) 0 0) 0 [] rfl HW.out ⟨b, 0, none⟩ l.length cap (pCells l) rfl (pCells_len l) HC.out (oneC_cell l) (by unfold maxLen; omega) (by omega) (by simp) ?_; intro v4 w4 hown4 hg4 hne4))
    rw [Nat.zero_add, List.nil_append] at hown4
    have HO : Hid (w4.ownsRow w.heap.size 31 7 v4 l.length (pCells l)) := hown4
    have HB4 : Hid (Below w.heap.size w w4) := HB.out.grown hg4 HB.out.size (fun k hk => by cases hk; exact Nat.le_refl _)
    clear hown4 hg4 hne4 HC HW
    go_wp2
    go_ret
    exact ⟨_, rfl, HO.out, HB4.out⟩
/-- A hop's packets. -/
def rowL (R : Nat → List Pk) (f t : Int) : List Pk := if hopB f t = true then R (rix f t) else []
abbrev SRw (hb g c : Nat) (a b : Int) (v : Value) (w : World) : Prop := w.cell? ⟨hb, 0, none⟩ = some (.int .i64 a) ∧ w.cell? ⟨hb, 1, none⟩ = some (.int .i64 b) ∧ w.cell? ⟨g, c, none⟩ = some v ∧ hb < w.heap.size ∧ g < w.heap.size
theorem SRw_call {hb g c : Nat} {a b : Int} {v : Value} {W w' : World} (h : Below W.heap.size W w') (s : SRw hb g c a b v W) : SRw hb g c a b v w' := by
  obtain ⟨s1, s2, s3, s4, s5⟩ := s
  exact ⟨(h.cell (p := ⟨hb, 0, none⟩) s4).trans s1, (h.cell (p := ⟨hb, 1, none⟩) s4).trans s2, (h.cell (p := ⟨g, c, none⟩) s5).trans s3, Nat.lt_of_lt_of_le s4 h.size, Nat.lt_of_lt_of_le s5 h.size⟩
theorem SRw_drew {hb g c : Nat} {a b : Int} {v : Value} {W : World} (s : SRw hb g c a b v W) : SRw hb g c a b v W.drew := s
set_option maxRecDepth 100000 in
set_option maxHeartbeats 2000000 in
theorem row_any {base : Nat} {w : World} {g : Nat} {V : Nat → Value} {R : Nat → List Pk} {A : Nat → Bool} (f t : Int) (hv : NetV base w g V R A) (hc : cntN R 256 ≤ 1000) :
    Calls Try.prog 13 #[nP g, hV f t] w fun e w' => ClK (rowL R f t) w e w' := by
  have hB1 : Below w.heap.size w (w.alloc (.cells #[.int .i64 f, .int .i64 t] 33)) := al_b w _
  have HI : Hid (∀ f t w, Calls Try.prog 34 #[hV f t] w fun e w' => e = .returned (.bool (hopB f t)) ∧ w' = w.alloc (.cells #[.int .i64 f, .int .i64 t] 33)) := isHop_any
  have hB2 : Below w.heap.size w ((w.alloc (.cells #[.int .i64 f, .int .i64 t] 33)).alloc (.cells #[.int .i64 f, .int .i64 t] 33)) := hB1.trans ((al_b _ _).mono hB1.size)
  have HB2 : Hid (Below w.heap.size w ((w.alloc (.cells #[.int .i64 f, .int .i64 t] 33)).alloc (.cells #[.int .i64 f, .int .i64 t] 33))) := hB2
  cases hh : hopB f t with
  | false =>
    have e0 : rowL R f t = [] := by unfold rowL; rw [hh]; rfl
    rw [e0]
    go_enter Try.func13, Try.ntmps13
    go_wp2_with fail
    refine (HI.out f t _).mono ?_
    rintro e w1 ⟨rfl, rfl⟩
    rw [hh]
    clear hv hB1 hB2
    go_wp2
    go_ret
    exact ⟨_, rfl, ⟨rfl, .inl ⟨rfl, rfl⟩⟩, HB2.out⟩
  | true =>
    have e0 : rowL R f t = R (rix f t) := by unfold rowL; rw [if_pos hh]
    rw [e0]
    have hh' := hh
    obtain ⟨a, b, rfl, rfl, h1, h2, h3, h4, h5⟩ := hop_nat hh
    rw [rix_nat] at *
    have hv2 := hv.below hB2
    obtain ⟨c1, -, fz, -, hg⟩ := hv2.cell (a * 16 + b) (by omega)
    have hbd := hv.bound hc (c := a * 16 + b) (by omega)
    have HCl : Hid (∀ W, Below ((w.alloc (.cells #[.int .i64 a, .int .i64 b] 33)).alloc (.cells #[.int .i64 a, .int .i64 b] 33)).heap.size ((w.alloc (.cells #[.int .i64 a, .int .i64 b] 33)).alloc (.cells #[.int .i64 a, .int .i64 b] 33)) W → Calls Try.prog 35 #[V (a * 16 + b)] W fun e w' => ClK (R (a * 16 + b)) W e w') := fun W hW => clonePk_any ((hv2.below hW).own (a * 16 + b) (by omega)) (by omega)
    have k1 : ((w.alloc (.cells #[.int .i64 a, .int .i64 b] 33)).alloc (.cells #[.int .i64 a, .int .i64 b] 33)).heap[w.heap.size]? = some (.cells #[.int .i64 a, .int .i64 b] 33) := by
      show ((w.heap.push _).push _)[w.heap.size]? = _
      rw [Array.getElem?_push, if_neg (by simp), Array.getElem?_push, if_pos rfl]
    have hS : SRw w.heap.size g (a * 16 + b) a b (V (a * 16 + b)) ((w.alloc (.cells #[.int .i64 a, .int .i64 b] 33)).alloc (.cells #[.int .i64 a, .int .i64 b] 33)) := ⟨by rw [Lib.cell_of_heap k1]; rfl, by rw [Lib.cell_of_heap k1]; rfl, c1, (Array.getElem?_eq_some_iff.1 k1).1, hg⟩
    have q1 : (0 : Int) ≤ (a : Int) := by omega
    have q2 : (a : Int) < 16 := by omega
    have q3 : (0 : Int) ≤ (b : Int) := by omega
    have q4 : (b : Int) < 16 := by omega
    have HF : Hid (∀ W e w', Below ((w.alloc (.cells #[.int .i64 a, .int .i64 b] 33)).alloc (.cells #[.int .i64 a, .int .i64 b] 33)).heap.size ((w.alloc (.cells #[.int .i64 a, .int .i64 b] 33)).alloc (.cells #[.int .i64 a, .int .i64 b] 33)) W → ClK (R (a * 16 + b)) W e w' → ClK (R (a * 16 + b)) w e w' ∧ Below W.heap.size W w') := fun W e w' hW hp => by
      obtain ⟨v, r1, r2, r3⟩ := hp
      have hBW := hB2.trans (hW.mono hB2.size)
      refine ⟨⟨v, r1, ⟨r2.1, ?_⟩, hBW.trans (r3.mono hBW.size)⟩, r3⟩
      rcases r2.2 with h | ⟨g1, cap1, cur1, e1, hb1, r⟩
      · exact .inl h
      · exact .inr ⟨g1, cap1, cur1, e1, Nat.le_trans hBW.size hb1, r⟩
    clear hv hv2 hB1 hB2 c1 k1
    go_enter Try.func13, Try.ntmps13
    go_wp2_with fail
    refine (HI.out _ _ _).mono ?_
    rintro e w1 ⟨rfl, rfl⟩
    rw [hh']
    clear hh hh' HI
    go_wp2_with fail
    generalize (w.alloc (.cells #[.int .i64 a, .int .i64 b] 33)).alloc (.cells #[.int .i64 a, .int .i64 b] 33) = W2 at *
    generalize V (a * 16 + b) = vv at *
    go_region_held3 (fun w' => SRw w.heap.size g (a * 16 + b) a b vv w')
      (first | with_reducible assumption | with_reducible exact SRw_call (by with_reducible assumption) (by with_reducible assumption) | with_reducible exact SRw_drew (by with_reducible assumption))
      ((go_at_call 35; refine (HCl.out _ (below_drw W2)).mono ?_; intro e w5 hp5; obtain ⟨hX, hb5⟩ := HF.out _ e w5 (below_drw W2) hp5; obtain ⟨vx, rfl, hx1, hx2⟩ := hp5))
    have HX : Hid (ClK (R (a * 16 + b)) w (.returned vx) w5) := hX
    rename_i hH9
    clear hH9 hX hx1 hx2 hb5 hS
    go_wp2
    go_ret
    exact HX.out
end Go.Proofs.Ythbhgblgacoklaa
