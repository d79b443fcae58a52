/- view.First, find: walks. -/
import Derived.Test.YtpepdcbhimjddaaDoorVwB
namespace Go.Proofs.YtpepdcbhimjddaaDoor
open Go.RowKit

theorem setCell_atV (w : World) {g : Nat} (c : Nat) {cur : Array Value} {t : TypeId} (hb : w.heap[g]? = some (.cells cur t (0, 0))) (v : Value) :
    (w.setCell ⟨g, c, none⟩ v).heap[g]? = some (.cells (cur.setIfInBounds c v) t (0, 0)) ∧ (∀ k, k ≠ g → (w.setCell ⟨g, c, none⟩ v).heap[k]? = w.heap[k]?) := by
  rw [setCell_eq_setRow w g c cur t (0, 0) v hb]
  exact ⟨setRow_heap w g cur _ t _ hb, fun k hk => setRow_other w g k _ hk⟩
theorem results_csV {fn : Func} {p q : Tmp} {ty : TypeId} (h : fn.results = #[.cell p ty, .tmp q]) (tmps : Array Value) (P : Program) (w : World) :
    (results fn tmps).run P w = ((asAddr (tmps.getD p undef)).run P w).andThen fun a w₁ => ((loadVar ty a).run P w₁).andThen fun v w₂ => .ok (.tuple #[v, tmps.getD q undef]) w₂ := by
  simp only [results, h]
  simp [Sem.run_bind, Result.andThen]
theorem results_c3V {fn : Func} {p u v : Tmp} {ty : TypeId} (h : fn.results = #[.cell p ty, .tmp u, .tmp v]) (tmps : Array Value) (P : Program) (w : World) :
    (results fn tmps).run P w =
      ((asAddr (tmps.getD p undef)).run P w).andThen fun a w₁ => ((loadVar ty a).run P w₁).andThen fun x w₂ => .ok (.tuple #[x, tmps.getD u undef, tmps.getD v undef]) w₂ := by
  simp only [results, h]
  simp [Sem.run_bind, Result.andThen]
theorem heap_at {w : World} {b : Nat} {C : Array Value} {t : TypeId} (h : w.heap[b]? = some (.cells C t (0, 0))) : (∀ j, w.cell? ⟨b, j, none⟩ = C[j]?) ∧ (∀ j, w.frozen? ⟨b, j, none⟩ = false) ∧ b < w.heap.size :=
  ⟨fun j => by rw [Lib.cell_of_heap h], fun j => by simp [World.frozen?, h], (Array.getElem?_eq_some_iff.1 h).1⟩
theorem alloc_top (w : World) (o : Obj) : (w.alloc o).heap[w.heap.size]? = some o := by
  show (w.heap.push o)[w.heap.size]? = some o
  simp
theorem alloc_old (w : World) (o : Obj) {b : Nat} (h : b < w.heap.size) : (w.alloc o).heap[b]? = w.heap[b]? := Below.heap_alloc w o b h
/-- A slice that lies at block B or behind. -/
def NewB (B : Nat) (v : Value) : Prop := ∀ a n c, v = .slice (some a) n c → B ≤ a.block
theorem NewB.own {w : World} {base : Nat} {e : TypeId} {sz : Nat} {v : Value} {n : Nat} {xs : List Value} (h : w.ownsRow base e sz v n xs) : NewB base v := by
  intro a m c hv
  rcases h.2 with ⟨h1, -⟩ | ⟨g, cap, cur, h1, hb, -⟩
  · rw [h1] at hv; cases hv
  · rw [h1] at hv
    obtain ⟨ha, -, -⟩ := Value.slice.inj hv
    simp at ha
    rw [← ha]
    exact hb
theorem NewB.mono {A B : Nat} {v : Value} (h : NewB B v) (hab : A ≤ B) : NewB A v := fun a n c hv => Nat.le_trans hab (h a n c hv)
theorem IsRow.far {w : World} {sz : Nat} {v : Value} {n : Nat} {xs : List Value} (h : IsRow w sz v n xs) {B b o : Nat} (hn : NewB B v) (hb : b < B) (u : Value) : IsRow (w.setCell ⟨b, o, none⟩ u) sz v n xs := by
  refine ⟨h.1, ?_⟩
  rcases h.2 with h | ⟨g, off, cap, rfl, hlt, hc, hm, hcell⟩
  · exact .inl h
  · have := hn _ _ _ rfl
    have hne : g ≠ b := by show _ ≠ _; intro e; subst e; exact absurd this (by show ¬ B ≤ g; omega)
    refine .inr ⟨g, off, cap, rfl, by simpa using hlt, hc, hm, fun j u' hu => ?_⟩
    rw [World.cell?_setCell_other _ _ _ _ (fun e => hne (congrArg Addr.block e).symm)]
    exact hcell j u' hu
/-- A view that came out, and its error. -/
def VwPost (ep : Int) (l : List Mb) (er : Int) (w : World) (e : Ending) (w' : World) : Prop :=
  ∃ v, e = .returned (.tuple #[vwV ep v, .int .i64 er]) ∧ IsRow w' 3 v l.length (mCells l) ∧ NewB w.heap.size v ∧ Below w.heap.size w w'
theorem NewB.nil (B : Nat) : NewB B (.slice none 0 0) := fun a n c h => by cases h
theorem VwPost.none (er : Int) {w w' : World} (h : Below w.heap.size w w') : VwPost 0 [] er w (.returned (.tuple #[vwV 0 (.slice none 0 0), .int .i64 er])) w' := ⟨_, rfl, IsRow.nil _ _, NewB.nil _, h⟩
/-- May numbers be the first view's? -/
noncomputable def fsB (l : List Int) : Bool := !l.isEmpty && nodesB l
set_option maxRecDepth 100000 in
set_option maxHeartbeats 1000000 in
theorem first_any (v : Value) (l : List Int) (w : World) (hr : IsRow w 1 v l.length (iCells l)) (hl : l.length ≤ 1000000) :
    Calls Tryd.prog 11 #[v] w fun e w' => VwPost (if fsB l = true then 1 else 0) (if fsB l = true then fsM l else []) (if fsB l = true then 0 else 1) w e w' := by
  obtain ⟨a0, cap0, rfl⟩ := hr.form
  obtain ⟨i0, hi0, hz0, hz1, hz2⟩ := info_parts info_mb
  have HN : Hid (∀ w', Below w.heap.size w w' → Calls Tryd.prog 33 #[.slice a0 l.length cap0] w' fun e w'' => e = .returned (.bool (nodesB l)) ∧ w'' = w') := fun w' h => nodes_any _ l w' (hr.below h) hl
  have HB1 : Hid (Below w.heap.size w (w.alloc (.cells #[.int .i64 0, .slice none 0 0] 24))) := al_belowV w _
  cases hb : fsB l
  · have hcase : l = [] ∨ (l ≠ [] ∧ nodesB l = false) := by
      by_cases h0 : l = []
      · exact .inl h0
      · refine .inr ⟨h0, ?_⟩
        cases l with
        | nil => exact absurd rfl h0
        | cons x t => simpa [fsB] using hb
    simp only [Bool.false_eq_true, if_false]
    rcases hcase with rfl | ⟨hne, hnb⟩
    · clear hr HN hb
      go_enter Tryd.func11, Tryd.ntmps11
      go_wp2
      refine bodyPost_ret (v := .tuple #[vwV 0 (.slice none 0 0), .int .i64 1]) ?_ rfl (VwPost.none 1 HB1.out)
      rw [results_csV rfl]; go_simp
    · have hlp : 0 < l.length := List.length_pos_iff.2 hne
      have n1 : ((l.length : Int) == 0) = false := by rw [beq_eq_false_iff_ne]; omega
      have HX : Hid (Calls Tryd.prog 33 #[.slice a0 l.length cap0] (w.alloc (.cells #[.int .i64 0, .slice none 0 0] 24)) fun e w'' => e = .returned (.bool false) ∧ w'' = w.alloc (.cells #[.int .i64 0, .slice none 0 0] 24)) := by
        have := HN.out _ HB1.out
        rw [hnb] at this
        exact this
      clear hr HN hb hne hnb
      go_enter Tryd.func11, Tryd.ntmps11
      go_wp2_with fail
      refine HX.out.mono ?_
      rintro e w' ⟨rfl, hw⟩
      subst hw
      go_wp2
      refine bodyPost_ret (v := .tuple #[vwV 0 (.slice none 0 0), .int .i64 1]) ?_ rfl (VwPost.none 1 HB1.out)
      rw [results_csV rfl]; go_simp
  · have hcase : l ≠ [] ∧ nodesB l = true := by
      cases l with
      | nil => simp [fsB] at hb
      | cons x t => exact ⟨by simp, by simpa [fsB] using hb⟩
    obtain ⟨hne, hnb⟩ := hcase
    simp only [if_true]
    have hlp : 0 < l.length := List.length_pos_iff.2 hne
    have n1 : ((l.length : Int) == 0) = false := by rw [beq_eq_false_iff_ne]; omega
    have HX : Hid (Calls Tryd.prog 33 #[.slice a0 l.length cap0] (w.alloc (.cells #[.int .i64 0, .slice none 0 0] 24)) fun e w'' => e = .returned (.bool true) ∧ w'' = w.alloc (.cells #[.int .i64 0, .slice none 0 0] 24)) := by
      have := HN.out _ HB1.out
      rw [hnb] at this
      exact this
    have HR : Hid (IsRow w 1 (.slice a0 l.length cap0) l.length (iCells l)) := hr
    clear hr HN hb hne hnb
    go_enter Tryd.func11, Tryd.ntmps11
    go_wp2_with fail
    refine HX.out.mono ?_
    rintro e w' ⟨rfl, hw⟩
    subst hw
    clear HX
    go_wp2_with fail
    go_loopw [6, 19] (fun nn i wr => nn = nn ∧ ∃ (k : Nat) (va : Option Addr) (vc : Nat), k ≤ l.length ∧ i = .int .i64 (k : Int) ∧ Hid (wr.ownsRow (w.heap.size + 2) 58 3 (.slice va k vc) k (mCells (fsM (l.take k)))) ∧ Hid (wr.heap[w.heap.size]? = some (.cells #[.int .i64 0, .slice none 0 0] 24 (0, 0))) ∧ Hid (wr.heap[w.heap.size + 1]? = some (.cells #[.int .i64 1, .slice va k vc] 24 (0, 0))) ∧ Hid (Below w.heap.size w wr)) (fun _ i _ => l.length - (intOf i).toNat)
    case atStart =>
      refine ⟨rfl, 0, none, 0, Nat.zero_le _, rfl, World.ownsRow_nil _ _ _ _, ?_, ?_, ?_⟩
      · show _ = _
        rw [alloc_old _ _ (by simp), alloc_top]
      · show _ = _
        have := alloc_top (w.alloc (.cells #[.int .i64 0, .slice none 0 0] 24)) (.cells #[.int .i64 1, .slice none 0 0] 24)
        simpa using this
      · exact HB1.out.alloc HB1.out.size _
    case round =>
      obtain ⟨-, k, va, vc, hk, rfl, HO, HH0, HH1, HB⟩ := hrel
      have hsz := HB.out.size
      obtain ⟨z0, z1, z2⟩ := heap_at HH0.out
      obtain ⟨y0, y1, y2⟩ := heap_at HH1.out
      have a0' := z0 0; have a1' := z0 1; have b0' := y0 0; have b1' := y0 1; have f0' := y1 0; have f1' := y1 1; have g0' := z1 0; have g1' := z1 1
      simp only [List.getElem?_toArray, List.getElem?_cons_zero, List.getElem?_cons_succ] at a0' a1' b0' b1'
      clear z0 z1 z2 y0 y1
      by_cases hlk : k < l.length
      · have dk : decide ((k : Int) < l.length) = true := by simp; omega
        obtain ⟨b, off, hva, -, hlt, hcap, hc⟩ := iCells_at (HR.out.below HB.out) (by omega)
        subst hva
        have ck := hc k hlk
        have HT : Hid (mCells (fsM (l.take (k + 1))) = mCells (fsM (l.take k)) ++ [.int .i64 l[k], .int .i64 1, .bool true]) := by
          show _ = _
          rw [List.take_succ_eq_append_getElem hlk, show fsM (l.take k ++ [l[k]]) = fsM (l.take k) ++ [⟨l[k], 1, true⟩] from List.map_append, mCells_snoc]
          rfl
        generalize l[k]'hlk = x at *
        clear hc HR
        go_wp2_with (at_builtin; go_loud (refine wpl_appV wr rfl (.tmp 24) (.tmp 27) 22 58 rfl i0 _ 3 24 Tryd.underlying22 hi0 hz0 hz1 hz2 rfl (by decide) (w.heap.size + 2) (.slice va k vc) k (mCells (fsM (l.take k))) rfl HO.out [.int .i64 x, .int .i64 1, .bool true] rfl _ rfl wr.heap.size rfl rfl (by simp [Value.oneCell']) (by omega) (by unfold maxLen; omega) (by omega) ?_; intro v4 w4 hown4 hb4 hne4; obtain ⟨va4, vc4, rfl⟩ := (IsRow.own hown4).form; have q1 := (hb4.block _ (by omega)).trans HH1.out; have p00 := (heap_at q1).1 1; have p11 := (heap_at q1).2.1 1; simp only [List.getElem?_toArray, List.getElem?_cons_zero, List.getElem?_cons_succ] at p00))
        have q0 : w4.heap[w.heap.size]? = _ := (hb4.block _ (by omega)).trans HH0.out
        have s1 := setCell_atV w4 1 q1 (.slice va4 (k + 1) vc4)
        have HO4 : Hid ((w4.setCell ⟨w.heap.size + 1, 1, none⟩ (.slice va4 (k + 1) vc4)).ownsRow (w.heap.size + 2) 58 3 (.slice va4 (k + 1) vc4) (k + 1) (mCells (fsM (l.take (k + 1))))) := by
          show World.ownsRow _ _ _ _ _ _ _
          rw [HT.out]
          refine hown4.kept (row := some (w.heap.size + 1)) ⟨rfl, rfl, rfl, by simp, fun j _ hj => s1.2 j (fun e => hj (by rw [e]))⟩ (.inr ?_)
          intro e
          have := (hown4.lt _ e).1
          omega
        have HH0' : Hid ((w4.setCell ⟨w.heap.size + 1, 1, none⟩ (.slice va4 (k + 1) vc4)).heap[w.heap.size]? = some (.cells #[.int .i64 0, .slice none 0 0] 24 (0, 0))) := (s1.2 _ (by omega)).trans q0
        have HH1' : Hid ((w4.setCell ⟨w.heap.size + 1, 1, none⟩ (.slice va4 (k + 1) vc4)).heap[w.heap.size + 1]? = some (.cells #[.int .i64 1, .slice va4 (k + 1) vc4] 24 (0, 0))) := s1.1
        have HB4 : Hid (Below w.heap.size w (w4.setCell ⟨w.heap.size + 1, 1, none⟩ (.slice va4 (k + 1) vc4))) := (HB.out.trans (hb4.mono (by omega))).setCell (p := ⟨w.heap.size + 1, 1, none⟩) (by simp) _
        clear hown4 hb4 HT HO hne4 q0 q1 s1 HH0 HH1
        go_wp2
        go_roundw
        case rel => exact ⟨trivial, k + 1, va4, vc4, by omega, by simp, HO4, HH0', HH1', HB4⟩
        case measure => simp [intOf]; omega
      · have hk' : k = l.length := by omega
        subst hk'
        have dk : decide ((l.length : Int) < l.length) = false := by simp
        have hown := HO.out
        rw [List.take_of_length_le (Nat.le_refl _)] at hown
        have HF : Hid (∀ x y, IsRow ((wr.setCell ⟨w.heap.size, 0, none⟩ x).setCell ⟨w.heap.size, 1, none⟩ y) 3 (.slice va l.length vc) (fsM l).length (mCells (fsM l)) ∧ Below w.heap.size w ((wr.setCell ⟨w.heap.size, 0, none⟩ x).setCell ⟨w.heap.size, 1, none⟩ y)) := fun x y => by
          have hlen : (fsM l).length = l.length := by simp [fsM]
          have s1 := setCell_atV wr 0 HH0.out x
          have s2 := setCell_atV _ 1 s1.1 y
          refine ⟨?_, (HB.out.setCell (p := ⟨w.heap.size, 0, none⟩) (by simp) _).setCell (p := ⟨w.heap.size, 1, none⟩) (by simp) _⟩
          rw [hlen]
          refine IsRow.own (base := w.heap.size + 2) (hown.kept (row := some w.heap.size) ⟨rfl, rfl, rfl, by simp, fun j _ hj => (s2.2 j (fun e => hj (by rw [e]))).trans (s1.2 j (fun e => hj (by rw [e])))⟩ (.inr ?_))
          intro e
          have := (hown.lt _ e).1
          omega
        have HNw : Hid (NewB w.heap.size (.slice va l.length vc)) := (NewB.own hown).mono (by omega)
        clear hown HO HR
        go_wp2
        refine bodyPost_ret (v := .tuple #[vwV 1 (.slice va l.length vc), .int .i64 0]) ?_ rfl ⟨_, rfl, (HF.out _ _).1, HNw.out, (HF.out _ _).2⟩
        rw [results_csV rfl]; go_simp
end Go.Proofs.YtpepdcbhimjddaaDoor
