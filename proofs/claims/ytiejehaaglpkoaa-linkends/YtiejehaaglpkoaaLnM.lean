/- The law's ends, awake: walks. -/
import Derived.Test.YtiejehaaglpkoaaLnL
import Derived.Deep.DeepCutAuto
import Derived.Deep.RegionWith
namespace Go.Proofs.Ytiejehaaglpkoaa
open Go.RowKit Go.ChangeMaps

abbrev edA (f : Int) : Ed := ⟨1, 1, 2, 1, f⟩
abbrev edB (f : Int) : Ed := ⟨2, 1, 1, 1, f⟩
theorem results_cell2 {fn : Func} {p q : Tmp} {t u : TypeId} (h : fn.results = #[.cell p t, .cell q u]) (tmps : Array Value) (P : Program) (w : World) :
    (results fn tmps).run P w = ((asAddr (tmps.getD p undef)).run P w).andThen fun a w₁ => ((loadVar t a).run P w₁).andThen fun x w₂ => ((asAddr (tmps.getD q undef)).run P w₂).andThen fun b w₃ => ((loadVar u b).run P w₃).andThen fun y w₄ => .ok (.tuple #[x, y]) w₄ := by
  simp only [results, h]
  simp [Sem.run_bind, Result.andThen]
set_option maxRecDepth 100000 in
set_option maxHeartbeats 4000000 in
theorem ends13_any (f : Int) (w : World) : Calls Try.prog 34 #[.int .i64 f] w fun e w' => e = .returned (.tuple #[eV (edA f), eV (edB f)]) ∧ Below w.heap.size w w' := by
  have HB : Hid (∀ o1 o2 o3, Below w.heap.size w (((w.alloc o1).alloc o2).alloc o3)) := fun o1 o2 o3 => ((al_b w _).trans ((al_b _ _).mono (by simp))).trans ((al_b _ _).mono (by simp; omega))
  go_enter Try.func34, Try.ntmps34
  go_wp2
  try simp only [Exit.inBlock, Exit.then]
  refine bodyPost_ret (v := .tuple #[eV (edA f), eV (edB f)]) ?_ rfl ⟨rfl, HB.out _ _ _⟩
  rw [results_cell2 rfl]; go_simp
theorem below_ud {w w2 : World} (h : Below w.drew.heap.size w.drew w2) : Below w.heap.size w w2 := ⟨h.os, h.tape, h.output, h.size, h.block⟩
/-- Two boxes of ends stay. -/
def Bx2 (H : Nat) (f : Int) (w : World) : Prop := w.heap[H]? = some (.cells (eA (edA f)) 23 (0, 0)) ∧ w.heap[H + 1]? = some (.cells (eA (edB f)) 23 (0, 0))
theorem Bx2.below {H : Nat} {f : Int} {w w' : World} (h : Bx2 H f w) (hb : Below w.heap.size w w') : Bx2 H f w' :=
  ⟨(hb.block _ (Array.getElem?_eq_some_iff.1 h.1).1).trans h.1, (hb.block _ (Array.getElem?_eq_some_iff.1 h.2).1).trans h.2⟩
theorem Bx2.cells {H : Nat} {f : Int} {w : World} (h : Bx2 H f w) : (w.cell? ⟨H, 0, none⟩ = some (.int .i64 1) ∧ w.cell? ⟨H, 1, none⟩ = some (.int .i64 1) ∧ w.cell? ⟨H, 2, none⟩ = some (.int .i64 2) ∧ w.cell? ⟨H, 3, none⟩ = some (.int .i64 1) ∧ w.cell? ⟨H, 4, none⟩ = some (.int .i64 f)) ∧
    (w.cell? ⟨H + 1, 0, none⟩ = some (.int .i64 2) ∧ w.cell? ⟨H + 1, 1, none⟩ = some (.int .i64 1) ∧ w.cell? ⟨H + 1, 2, none⟩ = some (.int .i64 1) ∧ w.cell? ⟨H + 1, 3, none⟩ = some (.int .i64 1) ∧ w.cell? ⟨H + 1, 4, none⟩ = some (.int .i64 f)) := by
  obtain ⟨a, b⟩ := h
  exact ⟨⟨by rw [Lib.cell_of_heap a]; rfl, by rw [Lib.cell_of_heap a]; rfl, by rw [Lib.cell_of_heap a]; rfl, by rw [Lib.cell_of_heap a]; rfl, by rw [Lib.cell_of_heap a]; rfl⟩, by rw [Lib.cell_of_heap b]; rfl, by rw [Lib.cell_of_heap b]; rfl, by rw [Lib.cell_of_heap b]; rfl, by rw [Lib.cell_of_heap b]; rfl, by rw [Lib.cell_of_heap b]; rfl⟩
theorem bx2_new (w : World) (f : Int) : Bx2 w.heap.size f ((w.alloc (.cells (eA (edA f)) 23)).alloc (.cells (eA (edB f)) 23)) := by
  refine ⟨?_, ?_⟩
  · show ((w.heap.push _).push _)[w.heap.size]? = _
    rw [Array.getElem?_push, if_neg (by simp), Array.getElem?_push, if_pos rfl]
  · show ((w.heap.push _).push _)[w.heap.size + 1]? = _
    rw [Array.getElem?_push, if_pos (by simp)]
/-- Two links that were made. -/
def Two (w0 : World) (f : Int) (l : List (Tg w0.heap.size)) (p q : Value) (w : World) : Prop := ∃ ga ma gb mb, p = lP ga ∧ q = lP gb ∧ St w0 (linkT _ ga ma (.slice none 0 0) (newL (edA f)) :: linkT _ gb mb (.slice none 0 0) (newL (edB f)) :: l) w
theorem Two.ab {w0 : World} {f : Int} {l : List (Tg w0.heap.size)} {ga ma gb mb : Nat} {w : World} (h : St w0 (linkT _ ga ma (.slice none 0 0) (newL ⟨1, 1, 2, 1, f⟩) :: linkT _ gb mb (.slice none 0 0) (newL ⟨2, 1, 1, 1, f⟩) :: l) w) : Two w0 f l (lP ga) (lP gb) w := ⟨ga, ma, gb, mb, rfl, rfl, h⟩
theorem Two.ba {w0 : World} {f : Int} {l : List (Tg w0.heap.size)} {ga ma gb mb : Nat} {w : World} (h : St w0 (linkT _ gb mb (.slice none 0 0) (newL ⟨2, 1, 1, 1, f⟩) :: linkT _ ga ma (.slice none 0 0) (newL ⟨1, 1, 2, 1, f⟩) :: l) w) : Two w0 f l (lP ga) (lP gb) w := ⟨ga, ma, gb, mb, rfl, rfl, h.rot2⟩
theorem newE_any {w0 w : World} {l : List (Tg w0.heap.size)} (h : St w0 l w) (x : Ed) (hx : mayX x = true) :
    Calls Try.prog 8 #[eV x] w fun e w' => ∃ g m, e = .returned (lP g) ∧ St w0 (linkT _ g m (.slice none 0 0) (newL x) :: l) w' ∧ Below w.heap.size w w' := by
  refine (newL_ok x w hx).mono fun e w' hp => ?_
  obtain ⟨g, m, he, h1, h2⟩ := hp
  have hz := h.2.2.size
  exact ⟨g, m, he, h.new h2 (t := linkT _ g m (.slice none 0 0) (newL x)) ⟨Nat.le_trans hz h1.lo, Nat.le_trans hz h1.lm, h1.blk, h1.mp, row_mono h1.own hz, h1.ng, h1.nm⟩ fun k hk => (h1.lt hk).1, h2⟩
/-- The first packet of a row, cell by cell. -/
theorem OwnW.first {w : World} {base : Nat} {v : Value} {p : Pk} {l : List Pk} (h : OwnW w base v (p :: l)) : ∃ b cap, v = .slice (some ⟨b, 0, none⟩) (l.length + 1) cap ∧ (w.cell? ⟨b, 0, none⟩ = some (.int .i64 p.f) ∧ w.cell? ⟨b, 1, none⟩ = some (.int .i64 p.t) ∧ w.cell? ⟨b, 2, none⟩ = some (.int .i64 p.fl) ∧ w.cell? ⟨b, 3, none⟩ = some (.int .i64 p.tl) ∧ w.cell? ⟨b, 4, none⟩ = some (.int .i64 p.sq) ∧ w.cell? ⟨b, 5, none⟩ = some (.int .i64 p.ak) ∧ w.cell? ⟨b, 6, none⟩ = some (.string p.x)) := by
  rcases h with ⟨_, h⟩ | ⟨g, cap, cur, rfl, hb, hg, hc, hm, hs, ht⟩
  · cases h
  have hcell : ∀ j, j < 7 → w.cell? ⟨g, j, none⟩ = (enP p)[j]? := fun j hj => by
    have e := pCells_get (p :: l) 0 (by simp) j hj
    rw [Nat.zero_mul, Nat.zero_add] at e
    rw [cell_of_row w g _ cur _ (0, 0) hg]
    rw [show (enP p)[j]? = (enP (p :: l)[0])[j]? from rfl, ← e, ← ht, List.getElem?_take, if_pos (by simp; omega)]
    simp
  exact ⟨g, cap, rfl, hcell 0 (by omega), hcell 1 (by omega), hcell 2 (by omega), hcell 3 (by omega), hcell 4 (by omega), hcell 5 (by omega), hcell 6 (by omega)⟩
theorem row_first {w : World} {base : Nat} {v : Value} {s : ByteArray} {l : List ByteArray} (h : w.ownsRow base 9 1 v (s :: l).length ((s :: l).map .string)) : ∃ b cap, v = .slice (some ⟨b, 0, none⟩) (l.length + 1) cap ∧ w.cell? ⟨b, 0, none⟩ = some (.string s) := by
  obtain ⟨b, cap, hv, -, -, -, -, hc, -⟩ := own_open h (by simp)
  exact ⟨b, cap, hv, hc 0 _ rfl⟩
abbrev a97 : ByteArray := ⟨#[97]⟩
abbrev A0 : Lk := newL ⟨1, 1, 2, 1, 1⟩
abbrev B0 : Lk := newL ⟨2, 1, 1, 1, 1⟩
abbrev P1 : Pk := ⟨1, 2, 1, 1, 1, 0, a97⟩
abbrev P2 : Pk := ⟨2, 1, 1, 1, 0, 1, ⟨#[]⟩⟩
theorem okA0 : LkOk A0 := ⟨by decide, by decide, by decide, by decide, by decide, by decide, by decide⟩
theorem okB0 : LkOk B0 := ⟨by decide, by decide, by decide, by decide, by decide, by decide, by decide⟩
theorem aw1 : sndE A0 a97 = 0 := by decide
theorem aw2 : sndO A0 a97 = [P1] := by rfl
def A1 : Lk := ⟨⟨1, 1, 2, 1, 1⟩, [a97], 1, 1, 1, []⟩
theorem aw3 : sndL A0 a97 = A1 := by rfl
theorem aw4 : lookE B0 P1 = 0 := by decide
theorem aw5 : tkT B0 P1 = [a97] := by rfl
theorem aw6 : tkO B0 P1 = [P2] := by rfl
theorem aw7 : lookE A1 P2 = 0 := by decide
theorem okA1 : LkOk A1 := ⟨by decide, by decide, by decide, by decide, by decide, by decide, by decide⟩
theorem aw8 : (tkL A1 P2).q = [] := by rfl
set_option maxRecDepth 100000 in
set_option maxHeartbeats 4000000 in
theorem awake13_any (w : World) : Calls Try.prog 10 #[] w fun e w' => e = .returned (.bool true) ∧ Below w.heap.size w w' := by
  have HEn : Hid (Calls Try.prog 34 #[.int .i64 1] w fun e w' => e = .returned (.tuple #[eV (edA 1), eV (edB 1)]) ∧ Below w.heap.size w w') := ends13_any 1 w
  have HNw : Hid (∀ (l : List (Tg w.heap.size)) w', St w l w' → ∀ me lf pe pl fi : Int, mayX ⟨me, lf, pe, pl, fi⟩ = true → Calls Try.prog 8 #[.agg #[.int .i64 me, .int .i64 lf, .int .i64 pe, .int .i64 pl, .int .i64 fi]] w' fun e w'' => ∃ g m, e = .returned (lP g) ∧ St w (linkT _ g m (.slice none 0 0) (newL ⟨me, lf, pe, pl, fi⟩) :: l) w'' ∧ Below w'.heap.size w' w'') := fun l w' h me lf pe pl fi hm => newE_any h ⟨me, lf, pe, pl, fi⟩ hm
  go_enter Try.func10, Try.ntmps10
  go_wp2_with fail
  refine HEn.out.mono ?_
  rintro e w1 ⟨rfl, hb1⟩
  dsimp only [eV, edA, edB]
  have hbx := bx2_new w1 1
  have hbb : Below w.heap.size w ((w1.alloc (.cells (eA (edA 1)) 23)).alloc (.cells (eA (edB 1)) 23)) := (hb1.trans ((al_b w1 _).mono hb1.size)).trans ((al_b _ _).mono (by have := hb1.size; simp; omega))
  have hT0 : St w [] ((w1.alloc (.cells (eA (edA 1)) 23)).alloc (.cells (eA (edB 1)) 23)) := ⟨fun _ h => by simp at h, List.Pairwise.nil, hbb⟩
  have HX : Hid (Bx2 w1.heap.size 1 ((w1.alloc (.cells (eA (edA 1)) 23)).alloc (.cells (eA (edB 1)) 23))) := hbx
  have HT : Hid (St w [] ((w1.alloc (.cells (eA (edA 1)) 23)).alloc (.cells (eA (edB 1)) 23))) := hT0
  dsimp only [eA, edA, edB] at HX HT
  clear hbx hbb hT0 hb1
  go_wp2_with fail
  generalize ((w1.alloc (.cells #[.int .i64 1, .int .i64 1, .int .i64 2, .int .i64 1, .int .i64 1] 23)).alloc (.cells #[.int .i64 2, .int .i64 1, .int .i64 1, .int .i64 1, .int .i64 1] 23)) = W at *
  generalize w1.heap.size = H at *
  go_cut [3, 4] (fun p q wx => Two w 1 [] p q wx)
  case first =>
    obtain ⟨⟨x0, x1, x2, x3, x4⟩, y0, y1, y2, y3, y4⟩ := HX.out.cells
    have hT1 : St w [] W.drew := HT.out.drew
    have HXc : Hid (∀ w2, Below W.heap.size W w2 → _) := fun w2 hb => (HX.out.below hb).cells
    go_region_with (go_at_call 8; refine (HNw.out _ _ (by with_reducible assumption) _ _ _ _ _ (by decide)).mono ?_; rintro e wz ⟨g, m, rfl, T, hb⟩; first | (have hc := HXc.out _ (below_ud hb); obtain ⟨⟨a0, a1, a2, a3, a4⟩, b0, b1, b2, b3, b4⟩ := hc) | skip)
    all_goals (try go_wp2_with fail)
    all_goals go_meet
    all_goals first | exact Two.ab (by with_reducible assumption) | exact Two.ba (by with_reducible assumption)
  case rest =>
    obtain ⟨ga, ma, gb, mb, rfl, rfl, T1⟩ := hcut
    have HT1 : Hid (St w [linkT _ ga ma (.slice none 0 0) A0, linkT _ gb mb (.slice none 0 0) B0] wc) := T1
    have C1 : Hid (Calls Try.prog 13 #[lP ga, .string a97] wc fun e w' => ∃ r vq', e = .returned (.tuple #[r, .int .i64 0]) ∧ St w [pkT _ r [P1], linkT _ ga ma vq' A1, linkT _ gb mb (.slice none 0 0) B0] w') := by
      have := HT1.out.send okA0 a97 (by decide)
      rw [aw1, aw2, aw3] at this
      exact this
    clear T1 HX HT HNw HEn
    go_wp2_with fail
    refine C1.out.mono ?_
    rintro e w2 ⟨r, va, rfl, T2⟩
    obtain ⟨b, cap, rfl, x0, x1, x2, x3, x4, x5, x6⟩ := (show OwnW w2 _ r [P1] from T2.hd).first
    dsimp only [List.length_nil, Nat.zero_add] at *
    have HT2 : Hid (St w [linkT _ gb mb (.slice none 0 0) B0, linkT _ ga ma va A1] w2) := T2.tl.rot2
    have C2 : Hid (Calls Try.prog 17 #[lP gb, pV P1] w2 fun e w' => ∃ tr r vq', e = .returned (.tuple #[tr, r, .int .i64 0]) ∧ St w [strT _ tr [a97], pkT _ r [P2], linkT _ gb mb vq' (tkL B0 P1), linkT _ ga ma va A1] w') := by
      have := HT2.out.take okB0 (by decide) P1 (by decide)
      rw [aw4, aw5, aw6] at this
      exact this
    clear T2 C1 HT1
    go_wp2_with fail
    refine C2.out.mono ?_
    rintro e w3 ⟨tr, r, vb, rfl, T3⟩
    obtain ⟨tb, tcap, rfl, z0⟩ := row_first (show w3.ownsRow _ 9 1 tr [a97].length ([a97].map .string) from T3.hd)
    obtain ⟨rb, rcap, rfl, y0, y1, y2, y3, y4, y5, y6⟩ := (show OwnW w3 _ r [P2] from T3.tl.hd).first
    dsimp only [List.length_nil, Nat.zero_add] at *
    have HT3 : Hid (St w [linkT _ ga ma va A1] w3) := T3.tl.tl.tl
    have C3 : Hid (Calls Try.prog 17 #[lP ga, pV P2] w3 fun e w' => ∃ tr r vq', e = .returned (.tuple #[tr, r, .int .i64 0]) ∧ St w [strT _ tr (tkT A1 P2), pkT _ r (tkO A1 P2), linkT _ ga ma vq' (tkL A1 P2)] w') := by
      have := HT3.out.take okA1 (by decide) P2 (by decide)
      rw [aw7] at this
      exact this
    clear T3 C2 HT2 x0 x1 x2 x3 x4 x5 x6
    go_wp2_with fail
    refine C3.out.mono ?_
    rintro e w4 ⟨tr4, r4, va4, rfl, T4⟩
    have HL4 : Hid (Calls Try.prog 22 #[lP ga] w4 fun e w' => e = .returned (.int .i64 0) ∧ w' = w4) := by
      have := left_any (show LinkV _ w4 ga ma va4 (tkL A1 P2) from T4.tl.tl.hd)
      rw [aw8] at this
      exact this
    have HB4 : Hid (Below w.heap.size w w4) := T4.to
    clear T4 C3 HT3 y0 y1 y2 y3 y4 y5 y6 z0
    go_wp2_with fail
    refine HL4.out.mono ?_
    rintro e w5 ⟨rfl, rfl⟩
    go_wp2
    go_ret
    exact ⟨rfl, HB4.out⟩
end Go.Proofs.Ytiejehaaglpkoaa
