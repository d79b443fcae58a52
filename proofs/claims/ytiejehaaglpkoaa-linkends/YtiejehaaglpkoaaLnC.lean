/- link's packet, goOut: walks. -/
import Derived.Test.YtiejehaaglpkoaaLnB
import Derived.BigRegion
namespace Go.Proofs.Ytiejehaaglpkoaa
open Go.RowKit Go.ChangeMaps

/-- A packet of a link. -/
def pkL (L : Lk) (sq : Int) (s : ByteArray) : Pk := ⟨L.x.me, L.x.pe, L.x.lf, L.x.pl, sq, L.wn - 1, s⟩
theorem results_cellK {fn : Func} {p : Tmp} {ty : TypeId} (h : fn.results = #[.cell p ty]) (tmps : Array Value) (P : Program) (w : World) :
    (results fn tmps).run P w = ((asAddr (tmps.getD p undef)).run P w).andThen fun a w₁ => (loadVar ty a).run P w₁ := by
  simp only [results, h]
  simp [Sem.run_bind, Result.andThen]
theorem wrapI {z : Int} (h1 : -9223372036854775808 ≤ z) (h2 : z ≤ 9223372036854775807) : IntKind.i64.wrap z = z := by
  simp only [IntKind.wrap, IntKind.signed, IntKind.bits]
  simp
  omega
theorem lset_far (w : World) {g k o o' : Nat} (h : k ≠ g) (v : Value) : (w.setCell ⟨g, o, none⟩ v).cell? ⟨k, o', none⟩ = w.cell? ⟨k, o', none⟩ := World.cell?_of_block (a := ⟨k, o', none⟩) (by
  show (w.heap.modify g _)[k]? = w.heap[k]?
  rw [Array.getElem?_modify, if_neg (Ne.symm h)])
abbrev set7 (W : World) (b : Nat) (x0 x1 x2 x3 x4 x5 x6 : Value) : World := (((((((W.setCell ⟨b, 0, none⟩ x0).setCell ⟨b, 1, none⟩ x1).setCell ⟨b, 2, none⟩ x2).setCell ⟨b, 3, none⟩ x3).setCell ⟨b, 4, none⟩ x4).setCell ⟨b, 5, none⟩ x5).setCell ⟨b, 6, none⟩ x6)
theorem set7_below {B : Nat} {w0 w : World} {b : Nat} (h : Below B w0 w) (hb : B ≤ b) (x0 x1 x2 x3 x4 x5 x6 : Value) : Below B w0 (set7 w b x0 x1 x2 x3 x4 x5 x6) :=
  ((((((h.setCell (p := ⟨b, 0, none⟩) hb _).setCell (p := ⟨b, 1, none⟩) hb _).setCell (p := ⟨b, 2, none⟩) hb _).setCell (p := ⟨b, 3, none⟩) hb _).setCell (p := ⟨b, 4, none⟩) hb _).setCell (p := ⟨b, 5, none⟩) hb _).setCell (p := ⟨b, 6, none⟩) hb _
theorem set7_heap {W : World} {B : Nat} {t : TypeId} {c0 c1 c2 c3 c4 c5 c6 : Value} (hb : W.heap[B]? = some (.cells #[c0, c1, c2, c3, c4, c5, c6] t (0, 0))) (x0 x1 x2 x3 x4 x5 x6 : Value) : (set7 W B x0 x1 x2 x3 x4 x5 x6).heap[B]? = some (.cells #[x0, x1, x2, x3, x4, x5, x6] t (0, 0)) := by
  have s0 := (setCell_at W 0 hb x0).1
  have s1 := (setCell_at _ 1 s0 x1).1
  have s2 := (setCell_at _ 2 s1 x2).1
  have s3 := (setCell_at _ 3 s2 x3).1
  have s4 := (setCell_at _ 4 s3 x4).1
  have s5 := (setCell_at _ 5 s4 x5).1
  have s6 := (setCell_at _ 6 s5 x6).1
  rw [s6]
  rfl
theorem drew_cell (W : World) (a : Addr) : W.drew.cell? a = W.cell? a := rfl
theorem set7_far (W : World) {b k o : Nat} (h : k ≠ b) (x0 x1 x2 x3 x4 x5 x6 : Value) : (set7 W b x0 x1 x2 x3 x4 x5 x6).drew.cell? ⟨k, o, none⟩ = W.cell? ⟨k, o, none⟩ := by
  rw [drew_cell, lset_far _ h, lset_far _ h, lset_far _ h, lset_far _ h, lset_far _ h, lset_far _ h, lset_far _ h]
abbrev SP (g : Nat) (me lf pe pl wn : Int) (w' : World) : Prop := w'.cell? ⟨g, 0, none⟩ = some (.int .i64 me) ∧ w'.cell? ⟨g, 1, none⟩ = some (.int .i64 lf) ∧ w'.cell? ⟨g, 2, none⟩ = some (.int .i64 pe) ∧ w'.cell? ⟨g, 3, none⟩ = some (.int .i64 pl) ∧ w'.cell? ⟨g, 8, none⟩ = some (.int .i64 wn)
theorem SP_drew {g : Nat} {me lf pe pl wn : Int} {W : World} (h : SP g me lf pe pl wn W) : SP g me lf pe pl wn W.drew := h
theorem SP_set7 {g B : Nat} {me lf pe pl wn : Int} {W : World} (hne : g ≠ B) (h : SP g me lf pe pl wn W) (x0 x1 x2 x3 x4 x5 x6 : Value) : SP g me lf pe pl wn (set7 W B x0 x1 x2 x3 x4 x5 x6).drew :=
  ⟨(set7_far _ hne _ _ _ _ _ _ _).trans h.1, (set7_far _ hne _ _ _ _ _ _ _).trans h.2.1, (set7_far _ hne _ _ _ _ _ _ _).trans h.2.2.1, (set7_far _ hne _ _ _ _ _ _ _).trans h.2.2.2.1, (set7_far _ hne _ _ _ _ _ _ _).trans h.2.2.2.2⟩
set_option maxRecDepth 100000 in
set_option maxHeartbeats 4000000 in
theorem packetL_any {base : Nat} {w : World} {g m : Nat} {vq : Value} {L : Lk} (h : LinkV base w g m vq L) (h1 : 0 ≤ L.wn) (h2 : L.wn ≤ 1099511627776) (sq : Int) (s : ByteArray) :
    Calls Try.prog 41 #[lP g, .int .i64 sq, .string s] w fun e w' => e = .returned (pV (pkL L sq s)) ∧ Below w.heap.size w w' := by
  have hsz := h.size.1
  have h' := h.below (al_b w (.cells (pA zP) 37))
  obtain ⟨⟨c0, c1, c2, c3, -⟩, -, -, -, c8, -, -⟩ := h'.cells
  have HB : Hid (Below w.heap.size w (w.alloc (.cells (pA zP) 37))) := al_b w _
  have hk : (w.alloc (.cells (pA zP) 37)).heap[w.heap.size]? = some (.cells (pA zP) 37 (0, 0)) := heap_alloc_new w _
  have k0 : ∀ o, (w.alloc (.cells (pA zP) 37)).frozen? ⟨w.heap.size, o, none⟩ = false := fun o => by unfold World.frozen?; rw [hk]; simp
  have y0 : (w.alloc (.cells (pA zP) 37)).cell? ⟨w.heap.size, 0, none⟩ = some (.int .i64 0) := by rw [Lib.cell_of_heap hk]; rfl
  have y1 : (w.alloc (.cells (pA zP) 37)).cell? ⟨w.heap.size, 1, none⟩ = some (.int .i64 0) := by rw [Lib.cell_of_heap hk]; rfl
  have y2 : (w.alloc (.cells (pA zP) 37)).cell? ⟨w.heap.size, 2, none⟩ = some (.int .i64 0) := by rw [Lib.cell_of_heap hk]; rfl
  have y3 : (w.alloc (.cells (pA zP) 37)).cell? ⟨w.heap.size, 3, none⟩ = some (.int .i64 0) := by rw [Lib.cell_of_heap hk]; rfl
  have y4 : (w.alloc (.cells (pA zP) 37)).cell? ⟨w.heap.size, 4, none⟩ = some (.int .i64 0) := by rw [Lib.cell_of_heap hk]; rfl
  have y5 : (w.alloc (.cells (pA zP) 37)).cell? ⟨w.heap.size, 5, none⟩ = some (.int .i64 0) := by rw [Lib.cell_of_heap hk]; rfl
  have y6 : (w.alloc (.cells (pA zP) 37)).cell? ⟨w.heap.size, 6, none⟩ = some (.string ⟨#[]⟩) := by rw [Lib.cell_of_heap hk]; rfl
  have wz : IntKind.i64.wrap (L.wn - 1) = L.wn - 1 := wrapI (by omega) (by omega)
  have HK : Hid ((w.alloc (.cells (pA zP) 37)).heap[w.heap.size]? = some (.cells (pA zP) 37 (0, 0))) := hk
  clear h h' hk
  obtain ⟨⟨me, lf, pe, pl, fi⟩, q, b, o, wn, e⟩ := L
  dsimp only [pkL, pA, zP] at *
  have HW : Hid (∀ W : World, Below w.heap.size w W → ∀ a0 a1 a2 a3 a4 a5 a6, Below w.heap.size w (((((((W.setCell ⟨w.heap.size, 0, none⟩ a0).setCell ⟨w.heap.size, 1, none⟩ a1).setCell ⟨w.heap.size, 2, none⟩ a2).setCell ⟨w.heap.size, 3, none⟩ a3).setCell ⟨w.heap.size, 4, none⟩ a4).setCell ⟨w.heap.size, 5, none⟩ a5).setCell ⟨w.heap.size, 6, none⟩ a6)) := fun W hW a0 a1 a2 a3 a4 a5 a6 => set7_below hW (Nat.le_refl _) _ _ _ _ _ _ _
  go_enter Try.func41, Try.ntmps41
  go_wp2_with fail
  generalize (w.alloc (.cells #[.int .i64 0, .int .i64 0, .int .i64 0, .int .i64 0, .int .i64 0, .int .i64 0, .string ⟨#[]⟩] 37)) = W at *
  have hne : g ≠ w.heap.size := by omega
  generalize hBB : w.heap.size = B at *
  have HBB : Hid (w.heap.size = B) := hBB
  clear hsz hBB
  have hS : SP g me lf pe pl wn W := ⟨c0, c1, c2, c3, c8⟩
  clear c0 c1 c2 c3 c8
  go_region_held3 (fun w' => SP g me lf pe pl wn w') (first | with_reducible assumption | with_reducible exact SP_set7 hne (by with_reducible assumption) _ _ _ _ _ _ _ | with_reducible exact SP_drew (by with_reducible assumption)) (fail)
  clear k0 y0 y1 y2 y3 y4 y5 y6 hS
  have HF : Hid (Below B w (set7 W B (.int .i64 me) (.int .i64 pe) (.int .i64 lf) (.int .i64 pl) (.int .i64 sq) (.int .i64 (wn - 1)) (.string s)).drew) := (HW.out W HB.out _ _ _ _ _ _ _).drew
  have hz := set7_heap HK.out (.int .i64 me) (.int .i64 pe) (.int .i64 lf) (.int .i64 pl) (.int .i64 sq) (.int .i64 (wn - 1)) (.string s)
  clear HW HB HK
  rename_i hHeld
  clear hHeld
  dsimp only [set7] at HF hz
  generalize (((((((W.setCell ⟨B, 0, none⟩ (.int .i64 me)).setCell ⟨B, 1, none⟩ (.int .i64 pe)).setCell ⟨B, 2, none⟩ (.int .i64 lf)).setCell ⟨B, 3, none⟩ (.int .i64 pl)).setCell ⟨B, 4, none⟩ (.int .i64 sq)).setCell ⟨B, 5, none⟩ (.int .i64 (wn - 1))).setCell ⟨B, 6, none⟩ (.string s)) = Z at *
  have y0 : Z.cell? ⟨B, 0, none⟩ = some (.int .i64 me) := by rw [Lib.cell_of_heap hz]; rfl
  have y1 : Z.cell? ⟨B, 1, none⟩ = some (.int .i64 pe) := by rw [Lib.cell_of_heap hz]; rfl
  have y2 : Z.cell? ⟨B, 2, none⟩ = some (.int .i64 lf) := by rw [Lib.cell_of_heap hz]; rfl
  have y3 : Z.cell? ⟨B, 3, none⟩ = some (.int .i64 pl) := by rw [Lib.cell_of_heap hz]; rfl
  have y4 : Z.cell? ⟨B, 4, none⟩ = some (.int .i64 sq) := by rw [Lib.cell_of_heap hz]; rfl
  have y5 : Z.cell? ⟨B, 5, none⟩ = some (.int .i64 (wn - 1)) := by rw [Lib.cell_of_heap hz]; rfl
  have y6 : Z.cell? ⟨B, 6, none⟩ = some (.string s) := by rw [Lib.cell_of_heap hz]; rfl
  clear hz
  go_wp2
  try simp only [Exit.inBlock, Exit.then]
  refine bodyPost_ret (v := pV ⟨me, pe, lf, pl, sq, wn - 1, s⟩) ?_ rfl ⟨rfl, by rw [HBB.out]; exact HF.out⟩
  rw [results_cellK rfl]; go_simp
end Go.Proofs.Ytiejehaaglpkoaa
