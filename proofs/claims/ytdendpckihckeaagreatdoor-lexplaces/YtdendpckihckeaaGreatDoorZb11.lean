/- lex.cut: its walk. -/
import Derived.Test.YtdendpckihckeaaGreatDoorZb10
import Derived.WalkKit
import Derived.Test.YtdendpckihckeaaGreatDoorZb1
namespace Go.Proofs.YtdendpckihckeaaGreatDoor
open Go.RowKit

/-- A token, as the model has it. -/
abbrev tv (k p : Int) (s : ByteArray) (vk vn : Int) (vs : ByteArray) : Value := .agg #[.int .i64 k, .int .i64 p, .string s, .int .i64 vk, .int .i64 vn, .string vs]
abbrev set6 (W : World) (b : Nat) (x0 x1 x2 x3 x4 x5 : Value) : World := (((((W.setCell ⟨b, 0, none⟩ x0).setCell ⟨b, 1, none⟩ x1).setCell ⟨b, 2, none⟩ x2).setCell ⟨b, 3, none⟩ x3).setCell ⟨b, 4, none⟩ x4).setCell ⟨b, 5, none⟩ x5
structure Six (b : Nat) (W : World) (x0 x1 x2 x3 x4 x5 : Value) : Prop where
  c0 : W.cell? ⟨b, 0, none⟩ = some x0
  c1 : W.cell? ⟨b, 1, none⟩ = some x1
  c2 : W.cell? ⟨b, 2, none⟩ = some x2
  c3 : W.cell? ⟨b, 3, none⟩ = some x3
  c4 : W.cell? ⟨b, 4, none⟩ = some x4
  c5 : W.cell? ⟨b, 5, none⟩ = some x5
theorem set_get6 {W : World} {b i : Nat} {u : Value} (h : W.cell? ⟨b, i, none⟩ = some u) (j : Nat) (x : Value) : (W.setCell ⟨b, j, none⟩ x).cell? ⟨b, i, none⟩ = some (if i = j then x else u) := by
  by_cases e : i = j
  · subst e
    rw [World.cell?_setCell_same _ _ _ h, if_pos rfl]
  · rw [World.cell?_setCell_other _ _ _ _ (fun e' => e (congrArg Addr.off e').symm), h, if_neg e]
theorem Six.set {b : Nat} {W : World} {x0 x1 x2 x3 x4 x5 : Value} (h : Six b W x0 x1 x2 x3 x4 x5) (y0 y1 y2 y3 y4 y5 : Value) : Six b (set6 W b y0 y1 y2 y3 y4 y5) y0 y1 y2 y3 y4 y5 := by
  refine ⟨?_, ?_, ?_, ?_, ?_, ?_⟩
  · simpa using set_get6 (set_get6 (set_get6 (set_get6 (set_get6 (set_get6 h.c0 0 y0) 1 y1) 2 y2) 3 y3) 4 y4) 5 y5
  · simpa using set_get6 (set_get6 (set_get6 (set_get6 (set_get6 (set_get6 h.c1 0 y0) 1 y1) 2 y2) 3 y3) 4 y4) 5 y5
  · simpa using set_get6 (set_get6 (set_get6 (set_get6 (set_get6 (set_get6 h.c2 0 y0) 1 y1) 2 y2) 3 y3) 4 y4) 5 y5
  · simpa using set_get6 (set_get6 (set_get6 (set_get6 (set_get6 (set_get6 h.c3 0 y0) 1 y1) 2 y2) 3 y3) 4 y4) 5 y5
  · simpa using set_get6 (set_get6 (set_get6 (set_get6 (set_get6 (set_get6 h.c4 0 y0) 1 y1) 2 y2) 3 y3) 4 y4) 5 y5
  · simpa using set_get6 (set_get6 (set_get6 (set_get6 (set_get6 (set_get6 h.c5 0 y0) 1 y1) 2 y2) 3 y3) 4 y4) 5 y5
theorem Six.below {b B : Nat} {W W' : World} {x0 x1 x2 x3 x4 x5 : Value} (h : Six b W x0 x1 x2 x3 x4 x5) (hb : Below B W W') (hlt : b < B) : Six b W' x0 x1 x2 x3 x4 x5 :=
  ⟨(hb.cell (p := ⟨b, 0, none⟩) hlt).trans h.c0, (hb.cell (p := ⟨b, 1, none⟩) hlt).trans h.c1, (hb.cell (p := ⟨b, 2, none⟩) hlt).trans h.c2, (hb.cell (p := ⟨b, 3, none⟩) hlt).trans h.c3, (hb.cell (p := ⟨b, 4, none⟩) hlt).trans h.c4, (hb.cell (p := ⟨b, 5, none⟩) hlt).trans h.c5⟩
theorem Six.alloc {b : Nat} {W : World} {x0 x1 x2 x3 x4 x5 : Value} (h : Six b W x0 x1 x2 x3 x4 x5) (o : Obj) : Six b (W.alloc o) x0 x1 x2 x3 x4 x5 :=
  h.below ((Below.refl W.heap.size W).alloc (Nat.le_refl _) o) (World.block_lt_of_cell? _ _ h.c0)
theorem set6_below {w0 w : World} {b : Nat} (h : Below b w0 w) (x0 x1 x2 x3 x4 x5 : Value) : Below b w0 (set6 w b x0 x1 x2 x3 x4 x5) :=
  (((((h.setCell (p := ⟨b, 0, none⟩) (Nat.le_refl _) _).setCell (p := ⟨b, 1, none⟩) (Nat.le_refl _) _).setCell (p := ⟨b, 2, none⟩) (Nat.le_refl _) _).setCell (p := ⟨b, 3, none⟩) (Nat.le_refl _) _).setCell (p := ⟨b, 4, none⟩) (Nat.le_refl _) _).setCell (p := ⟨b, 5, none⟩) (Nat.le_refl _) _
abbrev wt (w : World) : World := w.alloc (.cells #[.int .i64 0, .int .i64 0, .string ⟨#[]⟩, .int .i64 0, .int .i64 0, .string ⟨#[]⟩] 51)
theorem wt_below (w : World) : Below w.heap.size w (wt w) := (Below.refl _ _).alloc (Nat.le_refl _) _
/-- The result's cells, not yet set, and what was there before. -/
structure Ft (w w2 : World) : Prop where
  z : Six w.heap.size w2 (.int .i64 0) (.int .i64 0) (.string ⟨#[]⟩) (.int .i64 0) (.int .i64 0) (.string ⟨#[]⟩)
  f : ∀ j, w2.frozen? ⟨w.heap.size, j, none⟩ = false
  b : Below w.heap.size w w2
  l : w.heap.size < w2.heap.size
theorem Ft.new (w : World) : Ft w (wt w) := ⟨⟨by simp, by simp, by simp, by simp, by simp, by simp⟩, fun j => by simp, wt_below w, by simp⟩
theorem Ft.call {w w2 w3 : World} (h : Ft w w2) (hb : Below w2.heap.size w2 w3) : Ft w w3 :=
  ⟨h.z.below hb h.l, fun j => (hb.frozen (p := ⟨w.heap.size, j, none⟩) h.l).trans (h.f j), h.b.trans (hb.mono h.b.size), Nat.lt_of_lt_of_le h.l hb.size⟩
theorem results_t3 {fn : Func} {p u v : Tmp} (h : fn.results = #[.cell p 51, .tmp u, .tmp v]) (tmps : Array Value) (W : World) (b : Nat) (hp : tmps.getD p undef = .pointer (some ⟨b, 0, none⟩)) {k q : Int} {s : ByteArray} {vk vn : Int} {t : ByteArray} (h6 : Six b W (.int .i64 k) (.int .i64 q) (.string s) (.int .i64 vk) (.int .i64 vn) (.string t)) :
    (results fn tmps).run Tryz.prog W = .ok (.tuple #[tv k q s vk vn t, tmps.getD u undef, tmps.getD v undef]) W := by
  obtain ⟨c0, c1, c2, c3, c4, c5⟩ := h6
  rw [results_cell3 h, hp]
  have e : (asAddr (.pointer (some ⟨b, 0, none⟩))).run Tryz.prog W = .ok ⟨b, 0, none⟩ W := rfl
  rw [e]
  simp only [Result.andThen]
  have e2 : (loadVar 51 ⟨b, 0, none⟩).run Tryz.prog W = .ok (tv k q s vk vn t) W := by go_simp
  rw [e2]
/-- What cut hands back. -/
def ctV (x : Ct) : Value := .tuple #[tv x.t.k x.t.p (str x.t.s) x.t.vk x.t.vn (str x.t.vs), .int .i64 (x.z : Int), .int .i64 x.e]
set_option maxRecDepth 100000 in
set_option maxHeartbeats 8000000 in
theorem cut_any (s : ByteArray) (w : World) (hs : s.size ≤ 1000000) (h0 : 0 < s.size) (h : VE w) :
    Calls Tryz.prog 50 #[.string s] w fun e w' => e = .returned (ctV (cutL s.data.toList)) ∧ Below w.heap.size w w' := by
  obtain ⟨XX, HXX⟩ : ∃ XX, Hid (ctV (cutL s.data.toList) = XX) := ⟨_, rfl⟩
  rw [HXX.out]
  have HSc := fun w h => scan_any s w hs h
  have hrl : (scn s.data.toList).r.length ≤ s.size := by
    by_cases e : (scn s.data.toList).e = 0
    · obtain ⟨-, b⟩ := scn_once e
      have := congrArg List.length b
      rw [List.length_append, ← Lib.size_eq] at this
      omega
    · rcases bad_or s.data.toList with h | h
      · exact absurd h e
      · rw [h]; exact Nat.zero_le _
  have HW : Hid (∀ w, UT w → Calls Tryz.prog 82 #[.string s] w fun e w' => e = .returned (.int .i64 (wsz s.data.toList : Nat)) ∧ Below w.heap.size w w') := fun w hU => wordSize_any s w hU
  have HM : Hid (∀ w, Calls Tryz.prog 83 #[.string s] w fun e w' => e = .returned (.int .i64 (msz s.data.toList : Nat)) ∧ w' = w) := fun w => markSize_any s w h0
  have hwl : wsz s.data.toList ≤ s.size := by
    unfold wsz
    split
    · rw [Lib.size_eq]; exact wgo_le _ _ (Nat.le_refl _)
    · exact Nat.zero_le _
  have hml : msz s.data.toList ≤ s.size := by
    unfold msz
    split
    · rename_i hp
      rw [Lib.size_eq]
      rcases hp with hp | hp | hp <;> exact pre_len hp
    · split <;> omega
  have tkw : ∀ m, s.extract 0 m = str (s.data.toList.take m) := fun m => ext5 s m
  have hC : cutL s.data.toList = if (scn s.data.toList).e = 2 then .bad 2 else if (scn s.data.toList).e = 0 ∧ wgo (scn s.data.toList).r = 0 then ⟨⟨2, 0, [], (scn s.data.toList).k, (scn s.data.toList).n, (scn s.data.toList).s⟩, s.data.toList.length - (scn s.data.toList).r.length, 0⟩ else if 0 < wsz s.data.toList then ⟨⟨1, 0, s.data.toList.take (wsz s.data.toList), 0, 0, []⟩, wsz s.data.toList, 0⟩ else if 0 < msz s.data.toList then ⟨⟨3, 0, s.data.toList.take (msz s.data.toList), 0, 0, []⟩, msz s.data.toList, 0⟩ else .bad 3 := rfl
  generalize scn s.data.toList = x at *
  obtain ⟨k, n, S, R, e⟩ := x
  simp only [scV] at HSc hC hrl
  rw [← Lib.size_eq] at hC
  have HS : Hid (∀ w, VE w → Calls Tryz.prog 10 #[.string s] w fun e0 w' => e0 = .returned (.tuple #[vv k n (str S), .string (str R), .int .i64 e]) ∧ Below w.heap.size w w') := HSc
  have HG : Hid (∀ w, Calls Tryz.prog 81 #[.string (str R)] w fun e w' => e = .returned (.int .i64 (wgo R : Nat)) ∧ Below w.heap.size w w') := fun w => by
    have := wordGoesOn_any (str R) w
    rw [str_data] at this
    exact this
  have hRz : (str R).size = R.length := str_size R
  have hRle : (str R).size ≤ s.size := by rw [hRz]; exact hrl
  have HRz : Hid ((str R).size = R.length) := hRz
  generalize hwz : wsz s.data.toList = WZ at *
  generalize hmz : msz s.data.toList = MZ at *
  clear HSc hRz hrl hwz hmz
  have hwl' : (WZ : Int) ≤ s.size := by omega
  have hml' : (MZ : Int) ≤ s.size := by omega
  by_cases e2 : e = 2
  · subst e2
    have HX : Hid (XX = .tuple #[tv 0 0 ⟨#[]⟩ 0 0 ⟨#[]⟩, .int .i64 0, .int .i64 2]) := by
      show _ = _
      rw [← HXX.out, hC, if_pos rfl]
      rfl
    rw [HX.out]
    generalize str S = T at *
    generalize str R = Y at *
    clear hC HX HXX HRz
    go_enter Tryz.func50, Tryz.ntmps50
    go_wp2_with fail
    refine (HS.out _ (h.below (wt_below w))).mono ?_
    rintro e0 w1 ⟨rfl, hb1⟩
    have HF1 : Hid (Ft w w1) := (Ft.new w).call hb1
    have hl1 := HF1.out.l
    have hne1 : w1.heap.size ≠ w.heap.size := by omega
    obtain ⟨⟨c0, c1, c2, c3, c4, c5⟩, ff, -, -⟩ := HF1.out
    clear hb1
    go_wp2
    try simp only [Exit.inBlock, Exit.then]
    refine bodyPost_ret (results_t3 rfl _ _ w.heap.size rfl ((HF1.out.z.set _ _ _ _ _ _).alloc _)) rfl ⟨rfl, (set6_below HF1.out.b _ _ _ _ _ _).alloc ?_ _⟩
    have := HF1.out.b.size
    simpa using this
  have n2 : (e == 2) = false := by rw [beq_eq_false_iff_ne]; exact e2
  rw [if_neg e2] at hC
  by_cases hv : e = 0 ∧ wgo R = 0
  · rw [if_pos hv] at hC
    obtain ⟨rfl, hw⟩ := hv
    rw [hw] at HG
    have HX : Hid (XX = .tuple #[tv 2 0 ⟨#[]⟩ k n (str S), .int .i64 ((s.size : Int) - (str R).size), .int .i64 0]) := by
      show _ = _
      rw [← HXX.out, hC, HRz.out]
      have : ((s.size - R.length : Nat) : Int) = (s.size : Int) - R.length := by have := HRz.out; omega
      simp only [ctV, this]
      rfl
    rw [HX.out]
    generalize str S = T at *
    generalize str R = Y at *
    clear hC HX HXX HRz hw e2 n2
    go_enter Tryz.func50, Tryz.ntmps50
    go_wp2_with fail
    refine (HS.out _ (h.below (wt_below w))).mono ?_
    rintro e0 w1 ⟨rfl, hb1⟩
    have HF1 : Hid (Ft w w1) := (Ft.new w).call hb1
    have HA1 : Hid (Ft w (w1.alloc (.cells #[.int .i64 k, .int .i64 n, .string T] 25))) := HF1.out.call ((Below.refl _ _).alloc (Nat.le_refl _) _)
    have HQ1 : Hid (∀ j, (w1.alloc (.cells #[.int .i64 k, .int .i64 n, .string T] 25)).cell? ⟨w1.heap.size, j, none⟩ = #[Value.int .i64 k, .int .i64 n, .string T][j]?) := fun j => by simp
    have hlq : Hid (w1.heap.size < (w1.alloc (.cells #[.int .i64 k, .int .i64 n, .string T] 25)).heap.size) := by show _ < _; simp
    clear hb1
    go_wp2_with fail
    generalize w1.alloc (.cells #[.int .i64 k, .int .i64 n, .string T] 25) = W1 at *
    generalize w1.heap.size = b1 at *
    refine (HG.out _).mono ?_
    rintro e0 w2 ⟨rfl, hb2⟩
    have HF2 : Hid (Ft w w2) := HA1.out.call hb2
    have v0 : w2.cell? ⟨b1, 0, none⟩ = some _ := (hb2.cell (p := ⟨b1, 0, none⟩) hlq.out).trans (HQ1.out 0)
    have v1 : w2.cell? ⟨b1, 1, none⟩ = some _ := (hb2.cell (p := ⟨b1, 1, none⟩) hlq.out).trans (HQ1.out 1)
    have v2 : w2.cell? ⟨b1, 2, none⟩ = some _ := (hb2.cell (p := ⟨b1, 2, none⟩) hlq.out).trans (HQ1.out 2)
    clear hb2
    obtain ⟨⟨c0, c1, c2, c3, c4, c5⟩, ff, -, -⟩ := HF2.out
    go_wp2
    try simp only [Exit.inBlock, Exit.then]
    exact bodyPost_ret (results_t3 rfl _ _ w.heap.size rfl (HF2.out.z.set _ _ _ _ _ _)) rfl ⟨rfl, set6_below HF2.out.b _ _ _ _ _ _⟩
  rw [if_neg hv] at hC
  have cv : (e = 0 ∧ ((wgo R : Int) == 0) = false ∧ 0 < wgo R) ∨ ((e == 0) = false) := by
    by_cases h0e : e = 0
    · have : wgo R ≠ 0 := fun e => hv ⟨h0e, e⟩
      exact .inl ⟨h0e, by rw [beq_eq_false_iff_ne]; omega, by omega⟩
    · exact .inr (by rw [beq_eq_false_iff_ne]; exact h0e)
  clear hv
  by_cases hw : 0 < WZ
  · have HX : Hid (XX = .tuple #[tv 1 0 (s.extract 0 WZ) 0 0 ⟨#[]⟩, .int .i64 (WZ : Int), .int .i64 0]) := by
      show _ = _
      rw [← HXX.out, hC, if_pos hw, tkw]
      rfl
    rw [HX.out]
    generalize str S = T at *
    generalize str R = Y at *
    generalize wgo R = G at *
    clear hC HX HXX HRz tkw
    rcases cv with ⟨rfl, cv, cv2⟩ | cv
    · clear e2 n2
      go_enter Tryz.func50, Tryz.ntmps50
      go_wp2_with fail
      refine (HS.out _ (h.below (wt_below w))).mono ?_
      rintro e0 w1 ⟨rfl, hb1⟩
      have HF1 : Hid (Ft w w1) := (Ft.new w).call hb1
      have HA1 : Hid (Ft w (w1.alloc (.cells #[.int .i64 k, .int .i64 n, .string T] 25))) := HF1.out.call ((Below.refl _ _).alloc (Nat.le_refl _) _)
      have HQ1 : Hid (∀ j, (w1.alloc (.cells #[.int .i64 k, .int .i64 n, .string T] 25)).cell? ⟨w1.heap.size, j, none⟩ = #[Value.int .i64 k, .int .i64 n, .string T][j]?) := fun j => by simp
      have hlq : Hid (w1.heap.size < (w1.alloc (.cells #[.int .i64 k, .int .i64 n, .string T] 25)).heap.size) := by show _ < _; simp
      clear hb1
      go_wp2_with fail
      generalize w1.alloc (.cells #[.int .i64 k, .int .i64 n, .string T] 25) = W1 at *
      generalize w1.heap.size = b1 at *
      refine (HG.out _).mono ?_
      rintro e0 w2 ⟨rfl, hb2⟩
      have HF2 : Hid (Ft w w2) := HA1.out.call hb2
      have v0 : w2.cell? ⟨b1, 0, none⟩ = some _ := (hb2.cell (p := ⟨b1, 0, none⟩) hlq.out).trans (HQ1.out 0)
      have v1 : w2.cell? ⟨b1, 1, none⟩ = some _ := (hb2.cell (p := ⟨b1, 1, none⟩) hlq.out).trans (HQ1.out 1)
      have v2 : w2.cell? ⟨b1, 2, none⟩ = some _ := (hb2.cell (p := ⟨b1, 2, none⟩) hlq.out).trans (HQ1.out 2)
      clear hb2
      go_wp2_with fail
      refine (HW.out _ (h.below HF2.out.b).u).mono ?_
      rintro e0 w3 ⟨rfl, hb3⟩
      have HF3 : Hid (Ft w w3) := HF2.out.call hb3
      obtain ⟨⟨c0, c1, c2, c3, c4, c5⟩, ff, -, -⟩ := HF3.out
      clear hb3
      go_wp2
      try simp only [Exit.inBlock, Exit.then]
      exact bodyPost_ret (results_t3 rfl _ _ w.heap.size rfl (HF3.out.z.set _ _ _ _ _ _)) rfl ⟨rfl, set6_below HF3.out.b _ _ _ _ _ _⟩
    · clear e2
      go_enter Tryz.func50, Tryz.ntmps50
      go_wp2_with fail
      refine (HS.out _ (h.below (wt_below w))).mono ?_
      rintro e0 w1 ⟨rfl, hb1⟩
      have HF1 : Hid (Ft w w1) := (Ft.new w).call hb1
      have HA1 : Hid (Ft w (w1.alloc (.cells #[.int .i64 k, .int .i64 n, .string T] 25))) := HF1.out.call ((Below.refl _ _).alloc (Nat.le_refl _) _)
      have HQ1 : Hid (∀ j, (w1.alloc (.cells #[.int .i64 k, .int .i64 n, .string T] 25)).cell? ⟨w1.heap.size, j, none⟩ = #[Value.int .i64 k, .int .i64 n, .string T][j]?) := fun j => by simp
      have hlq : Hid (w1.heap.size < (w1.alloc (.cells #[.int .i64 k, .int .i64 n, .string T] 25)).heap.size) := by show _ < _; simp
      clear hb1
      have HF2 : Hid (Ft w (w1.alloc (.cells #[.int .i64 k, .int .i64 n, .string T] 25))) := HA1.out
      go_wp2_with fail
      refine (HW.out _ (h.below HF2.out.b).u).mono ?_
      rintro e0 w3 ⟨rfl, hb3⟩
      have HF3 : Hid (Ft w w3) := HF2.out.call hb3
      obtain ⟨⟨c0, c1, c2, c3, c4, c5⟩, ff, -, -⟩ := HF3.out
      clear hb3
      go_wp2
      try simp only [Exit.inBlock, Exit.then]
      exact bodyPost_ret (results_t3 rfl _ _ w.heap.size rfl (HF3.out.z.set _ _ _ _ _ _)) rfl ⟨rfl, set6_below HF3.out.b _ _ _ _ _ _⟩
  rw [if_neg hw] at hC
  by_cases hm : 0 < MZ
  · have HX : Hid (XX = .tuple #[tv 3 0 (s.extract 0 MZ) 0 0 ⟨#[]⟩, .int .i64 (MZ : Int), .int .i64 0]) := by
      show _ = _
      rw [← HXX.out, hC, if_pos hm, tkw]
      rfl
    rw [HX.out]
    generalize str S = T at *
    generalize str R = Y at *
    generalize wgo R = G at *
    clear hC HX HXX HRz tkw
    rcases cv with ⟨rfl, cv, cv2⟩ | cv
    · clear e2 n2
      go_enter Tryz.func50, Tryz.ntmps50
      go_wp2_with fail
      refine (HS.out _ (h.below (wt_below w))).mono ?_
      rintro e0 w1 ⟨rfl, hb1⟩
      have HF1 : Hid (Ft w w1) := (Ft.new w).call hb1
      have HA1 : Hid (Ft w (w1.alloc (.cells #[.int .i64 k, .int .i64 n, .string T] 25))) := HF1.out.call ((Below.refl _ _).alloc (Nat.le_refl _) _)
      have HQ1 : Hid (∀ j, (w1.alloc (.cells #[.int .i64 k, .int .i64 n, .string T] 25)).cell? ⟨w1.heap.size, j, none⟩ = #[Value.int .i64 k, .int .i64 n, .string T][j]?) := fun j => by simp
      have hlq : Hid (w1.heap.size < (w1.alloc (.cells #[.int .i64 k, .int .i64 n, .string T] 25)).heap.size) := by show _ < _; simp
      clear hb1
      go_wp2_with fail
      generalize w1.alloc (.cells #[.int .i64 k, .int .i64 n, .string T] 25) = W1 at *
      generalize w1.heap.size = b1 at *
      refine (HG.out _).mono ?_
      rintro e0 w2 ⟨rfl, hb2⟩
      have HF2 : Hid (Ft w w2) := HA1.out.call hb2
      have v0 : w2.cell? ⟨b1, 0, none⟩ = some _ := (hb2.cell (p := ⟨b1, 0, none⟩) hlq.out).trans (HQ1.out 0)
      have v1 : w2.cell? ⟨b1, 1, none⟩ = some _ := (hb2.cell (p := ⟨b1, 1, none⟩) hlq.out).trans (HQ1.out 1)
      have v2 : w2.cell? ⟨b1, 2, none⟩ = some _ := (hb2.cell (p := ⟨b1, 2, none⟩) hlq.out).trans (HQ1.out 2)
      clear hb2
      go_wp2_with fail
      refine (HW.out _ (h.below HF2.out.b).u).mono ?_
      rintro e0 w3 ⟨rfl, hb3⟩
      have HF3 : Hid (Ft w w3) := HF2.out.call hb3
      obtain ⟨⟨c0, c1, c2, c3, c4, c5⟩, ff, -, -⟩ := HF3.out
      clear hb3
      go_wp2_with fail
      refine (HM.out _).mono ?_
      rintro e0 w4 ⟨rfl, hw4⟩
      subst hw4
      go_wp2
      try simp only [Exit.inBlock, Exit.then]
      exact bodyPost_ret (results_t3 rfl _ _ w.heap.size rfl (HF3.out.z.set _ _ _ _ _ _)) rfl ⟨rfl, set6_below HF3.out.b _ _ _ _ _ _⟩
    · clear e2
      go_enter Tryz.func50, Tryz.ntmps50
      go_wp2_with fail
      refine (HS.out _ (h.below (wt_below w))).mono ?_
      rintro e0 w1 ⟨rfl, hb1⟩
      have HF1 : Hid (Ft w w1) := (Ft.new w).call hb1
      have HA1 : Hid (Ft w (w1.alloc (.cells #[.int .i64 k, .int .i64 n, .string T] 25))) := HF1.out.call ((Below.refl _ _).alloc (Nat.le_refl _) _)
      have HQ1 : Hid (∀ j, (w1.alloc (.cells #[.int .i64 k, .int .i64 n, .string T] 25)).cell? ⟨w1.heap.size, j, none⟩ = #[Value.int .i64 k, .int .i64 n, .string T][j]?) := fun j => by simp
      have hlq : Hid (w1.heap.size < (w1.alloc (.cells #[.int .i64 k, .int .i64 n, .string T] 25)).heap.size) := by show _ < _; simp
      clear hb1
      have HF2 : Hid (Ft w (w1.alloc (.cells #[.int .i64 k, .int .i64 n, .string T] 25))) := HA1.out
      go_wp2_with fail
      refine (HW.out _ (h.below HF2.out.b).u).mono ?_
      rintro e0 w3 ⟨rfl, hb3⟩
      have HF3 : Hid (Ft w w3) := HF2.out.call hb3
      obtain ⟨⟨c0, c1, c2, c3, c4, c5⟩, ff, -, -⟩ := HF3.out
      clear hb3
      go_wp2_with fail
      refine (HM.out _).mono ?_
      rintro e0 w4 ⟨rfl, hw4⟩
      subst hw4
      go_wp2
      try simp only [Exit.inBlock, Exit.then]
      exact bodyPost_ret (results_t3 rfl _ _ w.heap.size rfl (HF3.out.z.set _ _ _ _ _ _)) rfl ⟨rfl, set6_below HF3.out.b _ _ _ _ _ _⟩
  rw [if_neg hm] at hC
  have HX : Hid (XX = .tuple #[tv 0 0 ⟨#[]⟩ 0 0 ⟨#[]⟩, .int .i64 0, .int .i64 3]) := by
    show _ = _
    rw [← HXX.out, hC]
    rfl
  rw [HX.out]
  generalize str S = T at *
  generalize str R = Y at *
  generalize wgo R = G at *
  clear hC HX HXX HRz tkw
  rcases cv with ⟨rfl, cv, cv2⟩ | cv
  · clear e2 n2
    go_enter Tryz.func50, Tryz.ntmps50
    go_wp2_with fail
    refine (HS.out _ (h.below (wt_below w))).mono ?_
    rintro e0 w1 ⟨rfl, hb1⟩
    have HF1 : Hid (Ft w w1) := (Ft.new w).call hb1
    have HA1 : Hid (Ft w (w1.alloc (.cells #[.int .i64 k, .int .i64 n, .string T] 25))) := HF1.out.call ((Below.refl _ _).alloc (Nat.le_refl _) _)
    have HQ1 : Hid (∀ j, (w1.alloc (.cells #[.int .i64 k, .int .i64 n, .string T] 25)).cell? ⟨w1.heap.size, j, none⟩ = #[Value.int .i64 k, .int .i64 n, .string T][j]?) := fun j => by simp
    have hlq : Hid (w1.heap.size < (w1.alloc (.cells #[.int .i64 k, .int .i64 n, .string T] 25)).heap.size) := by show _ < _; simp
    clear hb1
    go_wp2_with fail
    generalize w1.alloc (.cells #[.int .i64 k, .int .i64 n, .string T] 25) = W1 at *
    generalize w1.heap.size = b1 at *
    refine (HG.out _).mono ?_
    rintro e0 w2 ⟨rfl, hb2⟩
    have HF2 : Hid (Ft w w2) := HA1.out.call hb2
    have v0 : w2.cell? ⟨b1, 0, none⟩ = some _ := (hb2.cell (p := ⟨b1, 0, none⟩) hlq.out).trans (HQ1.out 0)
    have v1 : w2.cell? ⟨b1, 1, none⟩ = some _ := (hb2.cell (p := ⟨b1, 1, none⟩) hlq.out).trans (HQ1.out 1)
    have v2 : w2.cell? ⟨b1, 2, none⟩ = some _ := (hb2.cell (p := ⟨b1, 2, none⟩) hlq.out).trans (HQ1.out 2)
    clear hb2
    go_wp2_with fail
    refine (HW.out _ (h.below HF2.out.b).u).mono ?_
    rintro e0 w3 ⟨rfl, hb3⟩
    have HF3 : Hid (Ft w w3) := HF2.out.call hb3
    obtain ⟨⟨c0, c1, c2, c3, c4, c5⟩, ff, -, -⟩ := HF3.out
    clear hb3
    go_wp2_with fail
    refine (HM.out _).mono ?_
    rintro e0 w4 ⟨rfl, hw4⟩
    subst hw4
    go_wp2
    try simp only [Exit.inBlock, Exit.then]
    exact bodyPost_ret (results_t3 rfl _ _ w.heap.size rfl (HF3.out.z.set _ _ _ _ _ _)) rfl ⟨rfl, set6_below HF3.out.b _ _ _ _ _ _⟩
  · clear e2
    go_enter Tryz.func50, Tryz.ntmps50
    go_wp2_with fail
    refine (HS.out _ (h.below (wt_below w))).mono ?_
    rintro e0 w1 ⟨rfl, hb1⟩
    have HF1 : Hid (Ft w w1) := (Ft.new w).call hb1
    have HA1 : Hid (Ft w (w1.alloc (.cells #[.int .i64 k, .int .i64 n, .string T] 25))) := HF1.out.call ((Below.refl _ _).alloc (Nat.le_refl _) _)
    have HQ1 : Hid (∀ j, (w1.alloc (.cells #[.int .i64 k, .int .i64 n, .string T] 25)).cell? ⟨w1.heap.size, j, none⟩ = #[Value.int .i64 k, .int .i64 n, .string T][j]?) := fun j => by simp
    have hlq : Hid (w1.heap.size < (w1.alloc (.cells #[.int .i64 k, .int .i64 n, .string T] 25)).heap.size) := by show _ < _; simp
    clear hb1
    have HF2 : Hid (Ft w (w1.alloc (.cells #[.int .i64 k, .int .i64 n, .string T] 25))) := HA1.out
    go_wp2_with fail
    refine (HW.out _ (h.below HF2.out.b).u).mono ?_
    rintro e0 w3 ⟨rfl, hb3⟩
    have HF3 : Hid (Ft w w3) := HF2.out.call hb3
    obtain ⟨⟨c0, c1, c2, c3, c4, c5⟩, ff, -, -⟩ := HF3.out
    clear hb3
    go_wp2_with fail
    refine (HM.out _).mono ?_
    rintro e0 w4 ⟨rfl, hw4⟩
    subst hw4
    go_wp2
    try simp only [Exit.inBlock, Exit.then]
    exact bodyPost_ret (results_t3 rfl _ _ w.heap.size rfl (HF3.out.z.set _ _ _ _ _ _)) rfl ⟨rfl, set6_below HF3.out.b _ _ _ _ _ _⟩
end Go.Proofs.YtdendpckihckeaaGreatDoor
/- Plain mathematics of the numbers' bytes: no program in sight. -/
namespace Go.Proofs.YtdendpckihckeaaGreatDoor.Q
open Go.RowKit
def qsize (n : Int) : Int := if n < 0 ∨ 4611686018427387903 < n then 0 else if n < 64 then 1 else if n < 16384 then 2 else if n < 1073741824 then 4 else 8

theorem qsize_1 {n : Int} (h0 : 0 ≤ n) (h1 : n < 64) : qsize n = 1 := by unfold qsize; rw [if_neg (by omega), if_pos (by omega)]
theorem qsize_2 {n : Int} (h0 : 64 ≤ n) (h1 : n < 16384) : qsize n = 2 := by unfold qsize; rw [if_neg (by omega), if_neg (by omega), if_pos (by omega)]
theorem qsize_4 {n : Int} (h0 : 16384 ≤ n) (h1 : n < 1073741824) : qsize n = 4 := by unfold qsize; rw [if_neg (by omega), if_neg (by omega), if_neg (by omega), if_pos (by omega)]
theorem qsize_8 {n : Int} (h0 : 1073741824 ≤ n) (h1 : n ≤ 4611686018427387903) : qsize n = 8 := by unfold qsize; rw [if_neg (by omega), if_neg (by omega), if_neg (by omega), if_neg (by omega)]
theorem qsize_0 {n : Int} (h0 : n < 0 ∨ 4611686018427387903 < n) : qsize n = 0 := by unfold qsize; rw [if_pos (by omega)]
def numI (n : Int) : List Int :=
  if n < 0 ∨ 4611686018427387903 < n then []
  else if n < 64 then [n]
  else if n < 16384 then [64 + n / 256, n % 256]
  else if n < 1073741824 then [128 + n / 16777216, n / 65536 % 256, n / 256 % 256, n % 256]
  else [192 + n / 72057594037927936, n / 281474976710656 % 256, n / 1099511627776 % 256, n / 4294967296 % 256, n / 16777216 % 256, n / 65536 % 256, n / 256 % 256, n % 256]
theorem numI_0 {n : Int} (h0 : n < 0 ∨ 4611686018427387903 < n) : numI n = [] := by unfold numI; rw [if_pos h0]
theorem numI_1 {n : Int} (h0 : 0 ≤ n) (h1 : n < 64) : numI n = [n] := by unfold numI; rw [if_neg (by omega), if_pos (by omega)]
theorem numI_2 {n : Int} (h0 : 64 ≤ n) (h1 : n < 16384) : numI n = [64 + n / 256, n % 256] := by unfold numI; rw [if_neg (by omega), if_neg (by omega), if_pos (by omega)]
theorem numI_4 {n : Int} (h0 : 16384 ≤ n) (h1 : n < 1073741824) : numI n = [128 + n / 16777216, n / 65536 % 256, n / 256 % 256, n % 256] := by unfold numI; rw [if_neg (by omega), if_neg (by omega), if_neg (by omega), if_pos (by omega)]
theorem numI_8 {n : Int} (h0 : 1073741824 ≤ n) (h1 : n ≤ 4611686018427387903) : numI n = [192 + n / 72057594037927936, n / 281474976710656 % 256, n / 1099511627776 % 256, n / 4294967296 % 256, n / 16777216 % 256, n / 65536 % 256, n / 256 % 256, n % 256] := by unfold numI; rw [if_neg (by omega), if_neg (by omega), if_neg (by omega), if_neg (by omega)]
theorem or_all : (List.range 64).all (fun a => bits BinOp.or IntKind.u8 (a : Int) 64 == 64 + (a : Int) && (bits BinOp.or IntKind.u8 (a : Int) 128 == 128 + (a : Int) && (bits BinOp.or IntKind.u8 (a : Int) 192 == 192 + (a : Int) && bits BinOp.or IntKind.u8 (a : Int) 0 == (a : Int)))) = true := by decide +kernel
theorem or_at (a : Int) (h0 : 0 ≤ a) (h1 : a < 64) : bits BinOp.or IntKind.u8 a 64 = 64 + a ∧ bits BinOp.or IntKind.u8 a 128 = 128 + a ∧ bits BinOp.or IntKind.u8 a 192 = 192 + a ∧ bits BinOp.or IntKind.u8 a 0 = a := by
  have h := List.all_eq_true.1 or_all a.toNat (by simp; omega)
  rw [Int.toNat_of_nonneg h0] at h
  simp only [Bool.and_eq_true, beq_iff_eq] at h
  exact ⟨h.1, h.2.1, h.2.2.1, h.2.2.2⟩


/-- A byte of a text, as a number; 0 beyond its end. -/
def bt (s : ByteArray) (i : Nat) : Int := if h : i < s.size then ((s[i]'h).toNat : Int) else 0
theorem bt_eq {s : ByteArray} {i : Nat} (h : i < s.size) : ((s[i]'h).toNat : Int) = bt s i := by unfold bt; rw [dif_pos h]
theorem bt_rng (s : ByteArray) (i : Nat) : 0 ≤ bt s i ∧ bt s i < 256 := by
  unfold bt; split
  · rename_i h; have := (s[i]'h).toNat_lt; omega
  · omega
/-- How many bytes the form at the front of bytes has. -/
def gsz (s : ByteArray) : Nat := if bt s 0 < 64 then 1 else if bt s 0 < 128 then 2 else if bt s 0 < 192 then 4 else 8
/-- The number that they say. -/
def gval (s : ByteArray) : Int := if bt s 0 < 64 then bt s 0 % 64 else if bt s 0 < 128 then (bt s 0 % 64) * 256 + bt s 1 else if bt s 0 < 192 then (((bt s 0 % 64) * 256 + bt s 1) * 256 + bt s 2) * 256 + bt s 3 else (((((((bt s 0 % 64) * 256 + bt s 1) * 256 + bt s 2) * 256 + bt s 3) * 256 + bt s 4) * 256 + bt s 5) * 256 + bt s 6) * 256 + bt s 7
/-- The error: 7, if they end too early; 3, if there is a shorter form. -/
def getE (s : ByteArray) : Int := if s.size < gsz s then 7 else if qsize (gval s) = gsz s then 0 else 3
def getV (s : ByteArray) : Int := if getE s = 0 then gval s else 0
def getRest (s : ByteArray) : ByteArray := if getE s = 0 then s.extract (gsz s) s.size else ⟨#[]⟩
theorem gsz_pos (s : ByteArray) : 1 ≤ gsz s := by unfold gsz; (repeat' split) <;> omega
end Go.Proofs.YtdendpckihckeaaGreatDoor.Q
/- The program's own walks: quic.Size and the reference's, math/bits.TrailingZeros at 1, 2, 4, 8, quic.Num. -/
namespace Go.Proofs.YtdendpckihckeaaGreatDoor.Q
open Go.RowKit

set_option maxHeartbeats 400000 in
theorem size_any (n : Int) (w : World) :
    Calls Tryz.prog 77 #[.int .i64 n] w fun e w' => e = .returned (.int .i64 (qsize n)) ∧ w' = w := by
  go_enter Tryz.func77, Tryz.ntmps77
  go_wp2
  all_goals
    go_ret
    refine ⟨ret_int ?_, rfl⟩
    unfold qsize
    repeat (first | rw [if_pos (by omega)] | rw [if_neg (by omega)])


structure Tab (w : World) : Prop where
  c0 : w.cell? ⟨5, 0, none⟩ = some (.int .u8 0)
  c1 : w.cell? ⟨5, 1, none⟩ = some (.int .u8 1)
  c3 : w.cell? ⟨5, 3, none⟩ = some (.int .u8 2)
  c7 : w.cell? ⟨5, 7, none⟩ = some (.int .u8 3)



theorem tzkey_1 : IntKind.u64.wrap (bits BinOp.and IntKind.u64 1 (IntKind.u64.wrap (-1)) * 285870213051353865) / 288230376151711744 = 0 := by decide +kernel
set_option maxHeartbeats 400000 in
theorem tz_1 (w : World) (h : Tab w) : Calls Tryz.prog 123 #[.int .u64 1] w fun e w' => e = .returned (.int .i64 0) ∧ w' = w := by
  have hc := h.c0
  go_enter Tryz.func123, Tryz.ntmps123
  go_wp2_with (first | simp only [tzkey_1] | go_in)
  go_ret
  exact ⟨rfl, rfl⟩

theorem tzkey_2 : IntKind.u64.wrap (bits BinOp.and IntKind.u64 2 (IntKind.u64.wrap (-2)) * 285870213051353865) / 288230376151711744 = 1 := by decide +kernel
set_option maxHeartbeats 400000 in
theorem tz_2 (w : World) (h : Tab w) : Calls Tryz.prog 123 #[.int .u64 2] w fun e w' => e = .returned (.int .i64 1) ∧ w' = w := by
  have hc := h.c1
  go_enter Tryz.func123, Tryz.ntmps123
  go_wp2_with (first | simp only [tzkey_2] | go_in)
  go_ret
  exact ⟨rfl, rfl⟩

theorem tzkey_4 : IntKind.u64.wrap (bits BinOp.and IntKind.u64 4 (IntKind.u64.wrap (-4)) * 285870213051353865) / 288230376151711744 = 3 := by decide +kernel
set_option maxHeartbeats 400000 in
theorem tz_4 (w : World) (h : Tab w) : Calls Tryz.prog 123 #[.int .u64 4] w fun e w' => e = .returned (.int .i64 2) ∧ w' = w := by
  have hc := h.c3
  go_enter Tryz.func123, Tryz.ntmps123
  go_wp2_with (first | simp only [tzkey_4] | go_in)
  go_ret
  exact ⟨rfl, rfl⟩

theorem tzkey_8 : IntKind.u64.wrap (bits BinOp.and IntKind.u64 8 (IntKind.u64.wrap (-8)) * 285870213051353865) / 288230376151711744 = 7 := by decide +kernel
set_option maxHeartbeats 400000 in
theorem tz_8 (w : World) (h : Tab w) : Calls Tryz.prog 123 #[.int .u64 8] w fun e w' => e = .returned (.int .i64 3) ∧ w' = w := by
  have hc := h.c7
  go_enter Tryz.func123, Tryz.ntmps123
  go_wp2_with (first | simp only [tzkey_8] | go_in)
  go_ret
  exact ⟨rfl, rfl⟩


theorem Tab.below {B : Nat} {w w' : World} (h : Tab w) (hb : Below B w w') (hB : 5 < B) : Tab w' :=
  ⟨(hb.cell (p := ⟨5, 0, none⟩) hB).trans h.c0, (hb.cell (p := ⟨5, 1, none⟩) hB).trans h.c1, (hb.cell (p := ⟨5, 3, none⟩) hB).trans h.c3, (hb.cell (p := ⟨5, 7, none⟩) hB).trans h.c7⟩
theorem Tab.size {w : World} (h : Tab w) : 5 < w.heap.size := by
  exact block_lt_of_cell h.c0




theorem cv_any (w : World) (xs : List Int) (l : Nat) (hl : xs.length = l) (C : Array Value) (hC : C = (xs.map (Value.int .u8)).toArray) :
    (convert 85 9 (.slice (some ⟨w.heap.size, 0, none⟩) l l)).run Tryz.prog (w.alloc (.cells C 5)).drew = .ok (.string (strOfNums xs)) (w.alloc (.cells C 5)).drew := by
  refine run_convert_bytes_arg _ 85 5 Tryz.underlying85 Tryz.underlying5 w.heap.size 0 l l xs hl ?_ 9 Tryz.underlying9
  intro i hi
  subst hC
  rw [World.cell?_drew, World.cell?_alloc_at _ _ _ _ rfl]
  have : i < xs.length := by omega
  simp [List.getD, this]

theorem mk1 (w : World) : (Instr.makeSlice 85 (.int .i64 1) (.int .i64 1)).run Tryz.prog w = .ok (.slice (some ⟨w.heap.size, 0, none⟩) 1 1) (w.alloc (.cells #[.int .u8 0] 5)) := by kernel_rfl
theorem cv1 (w : World) (a : Int) : (convert 85 9 (.slice (some ⟨w.heap.size, 0, none⟩) 1 1)).run Tryz.prog (w.alloc (.cells #[.int .u8 a] 5)).drew = .ok (.string (strOfNums [a])) (w.alloc (.cells #[.int .u8 a] 5)).drew :=
  cv_any w [a] 1 rfl _ rfl
set_option maxHeartbeats 800000 in
theorem num_1 (n : Int) (w : World) (h0 : 0 ≤ n) (h1 : n < 64) (hT : Tab w) :
    Calls Tryz.prog 102 #[.int .i64 n] w fun e w' => e = .returned (.string (strOfNums (numI n))) ∧ Below w.heap.size w w' := by
  have hm := mk1
  have hcv := cv1
  have hsz := hT.size
  go_enter Tryz.func102, Tryz.ntmps102
  go_wp2_with (go_at_call 77; refine (size_any _ _).mono ?_; rw [qsize_1 h0 h1]; rintro e _ ⟨rfl, rfl⟩)
  refine wp_loop_rounds 2 ?_
  rw [rounds_succ]
  go_wp2
  rw [rounds_succ]
  go_wp2
  go_region_with (go_at_call 123; refine (tz_1 _ ?_).mono ?_; exact hT.below (by repeat (first | exact Below.refl _ _ | refine Below.drew ?_ | refine Below.alloc ?_ (Nat.le_refl _) _)) hsz; rintro e _ ⟨rfl, rfl⟩)
  all_goals go_wp2
  all_goals go_ret
  all_goals
    refine ⟨ret_str ?_, (((Below.refl _ _).alloc (Nat.le_refl _) _).drew)⟩
    rw [numI_1 h0 h1, (or_at _ (by omega) (by omega)).2.2.2]

theorem mk2 (w : World) : (Instr.makeSlice 85 (.int .i64 2) (.int .i64 2)).run Tryz.prog w = .ok (.slice (some ⟨w.heap.size, 0, none⟩) 2 2) (w.alloc (.cells #[.int .u8 0, .int .u8 0] 5)) := by kernel_rfl
theorem cv2 (w : World) (a b : Int) : (convert 85 9 (.slice (some ⟨w.heap.size, 0, none⟩) 2 2)).run Tryz.prog (w.alloc (.cells #[.int .u8 a, .int .u8 b] 5)).drew = .ok (.string (strOfNums [a, b])) (w.alloc (.cells #[.int .u8 a, .int .u8 b] 5)).drew :=
  cv_any w [a, b] 2 rfl _ rfl
set_option maxHeartbeats 800000 in
theorem num_2 (n : Int) (w : World) (h0 : 64 ≤ n) (h1 : n < 16384) (hT : Tab w) :
    Calls Tryz.prog 102 #[.int .i64 n] w fun e w' => e = .returned (.string (strOfNums (numI n))) ∧ Below w.heap.size w w' := by
  have hm := mk2
  have hcv := cv2
  have hsz := hT.size
  go_enter Tryz.func102, Tryz.ntmps102
  go_wp2_with (go_at_call 77; refine (size_any _ _).mono ?_; rw [qsize_2 h0 h1]; rintro e _ ⟨rfl, rfl⟩)
  refine wp_loop_rounds 3 ?_
  rw [rounds_succ]
  go_wp2
  rw [rounds_succ]
  go_wp2
  rw [rounds_succ]
  go_wp2
  go_region_with (go_at_call 123; refine (tz_2 _ ?_).mono ?_; exact hT.below (by repeat (first | exact Below.refl _ _ | refine Below.drew ?_ | refine Below.alloc ?_ (Nat.le_refl _) _)) hsz; rintro e _ ⟨rfl, rfl⟩)
  all_goals go_wp2
  all_goals go_ret
  all_goals
    refine ⟨ret_str ?_, (((Below.refl _ _).alloc (Nat.le_refl _) _).drew)⟩
    rw [numI_2 h0 h1, (or_at _ (by omega) (by omega)).1]

theorem mk4 (w : World) : (Instr.makeSlice 85 (.int .i64 4) (.int .i64 4)).run Tryz.prog w = .ok (.slice (some ⟨w.heap.size, 0, none⟩) 4 4) (w.alloc (.cells #[.int .u8 0, .int .u8 0, .int .u8 0, .int .u8 0] 5)) := by kernel_rfl
theorem cv4 (w : World) (a b c d : Int) : (convert 85 9 (.slice (some ⟨w.heap.size, 0, none⟩) 4 4)).run Tryz.prog (w.alloc (.cells #[.int .u8 a, .int .u8 b, .int .u8 c, .int .u8 d] 5)).drew = .ok (.string (strOfNums [a, b, c, d])) (w.alloc (.cells #[.int .u8 a, .int .u8 b, .int .u8 c, .int .u8 d] 5)).drew :=
  cv_any w [a, b, c, d] 4 rfl _ rfl
set_option maxHeartbeats 800000 in
theorem num_4 (n : Int) (w : World) (h0 : 16384 ≤ n) (h1 : n < 1073741824) (hT : Tab w) :
    Calls Tryz.prog 102 #[.int .i64 n] w fun e w' => e = .returned (.string (strOfNums (numI n))) ∧ Below w.heap.size w w' := by
  have hm := mk4
  have hcv := cv4
  have hsz := hT.size
  go_enter Tryz.func102, Tryz.ntmps102
  go_wp2_with (go_at_call 77; refine (size_any _ _).mono ?_; rw [qsize_4 h0 h1]; rintro e _ ⟨rfl, rfl⟩)
  refine wp_loop_rounds 5 ?_
  rw [rounds_succ]
  go_wp2
  rw [rounds_succ]
  go_wp2
  rw [rounds_succ]
  go_wp2
  rw [rounds_succ]
  go_wp2
  rw [rounds_succ]
  go_wp2
  go_region_with (go_at_call 123; refine (tz_4 _ ?_).mono ?_; exact hT.below (by repeat (first | exact Below.refl _ _ | refine Below.drew ?_ | refine Below.alloc ?_ (Nat.le_refl _) _)) hsz; rintro e _ ⟨rfl, rfl⟩)
  all_goals go_wp2
  all_goals go_ret
  all_goals
    refine ⟨ret_str ?_, (((Below.refl _ _).alloc (Nat.le_refl _) _).drew)⟩
    rw [numI_4 h0 h1, (or_at _ (by omega) (by omega)).2.1]
    all_goals (simp only [List.cons.injEq, and_true]; omega)

theorem mk8 (w : World) : (Instr.makeSlice 85 (.int .i64 8) (.int .i64 8)).run Tryz.prog w = .ok (.slice (some ⟨w.heap.size, 0, none⟩) 8 8) (w.alloc (.cells #[.int .u8 0, .int .u8 0, .int .u8 0, .int .u8 0, .int .u8 0, .int .u8 0, .int .u8 0, .int .u8 0] 5)) := by kernel_rfl
theorem cv8 (w : World) (a b c d e f g h : Int) : (convert 85 9 (.slice (some ⟨w.heap.size, 0, none⟩) 8 8)).run Tryz.prog (w.alloc (.cells #[.int .u8 a, .int .u8 b, .int .u8 c, .int .u8 d, .int .u8 e, .int .u8 f, .int .u8 g, .int .u8 h] 5)).drew = .ok (.string (strOfNums [a, b, c, d, e, f, g, h])) (w.alloc (.cells #[.int .u8 a, .int .u8 b, .int .u8 c, .int .u8 d, .int .u8 e, .int .u8 f, .int .u8 g, .int .u8 h] 5)).drew :=
  cv_any w [a, b, c, d, e, f, g, h] 8 rfl _ rfl
set_option maxHeartbeats 800000 in
theorem num_8 (n : Int) (w : World) (h0 : 1073741824 ≤ n) (h1 : n ≤ 4611686018427387903) (hT : Tab w) :
    Calls Tryz.prog 102 #[.int .i64 n] w fun e w' => e = .returned (.string (strOfNums (numI n))) ∧ Below w.heap.size w w' := by
  have hm := mk8
  have hcv := cv8
  have hsz := hT.size
  go_enter Tryz.func102, Tryz.ntmps102
  go_wp2_with (go_at_call 77; refine (size_any _ _).mono ?_; rw [qsize_8 h0 h1]; rintro e _ ⟨rfl, rfl⟩)
  refine wp_loop_rounds 9 ?_
  rw [rounds_succ]
  go_wp2
  rw [rounds_succ]
  go_wp2
  rw [rounds_succ]
  go_wp2
  rw [rounds_succ]
  go_wp2
  rw [rounds_succ]
  go_wp2
  rw [rounds_succ]
  go_wp2
  rw [rounds_succ]
  go_wp2
  rw [rounds_succ]
  go_wp2
  rw [rounds_succ]
  go_wp2
  go_region_with (go_at_call 123; refine (tz_8 _ ?_).mono ?_; exact hT.below (by repeat (first | exact Below.refl _ _ | refine Below.drew ?_ | refine Below.alloc ?_ (Nat.le_refl _) _)) hsz; rintro e _ ⟨rfl, rfl⟩)
  all_goals go_wp2
  all_goals go_ret
  all_goals
    refine ⟨ret_str ?_, (((Below.refl _ _).alloc (Nat.le_refl _) _).drew)⟩
    rw [numI_8 h0 h1, (or_at _ (by omega) (by omega)).2.2.1]
    all_goals (simp only [List.cons.injEq, and_true]; omega)

set_option maxHeartbeats 400000 in
theorem num_0 (n : Int) (w : World) (h0 : n < 0 ∨ 4611686018427387903 < n) :
    Calls Tryz.prog 102 #[.int .i64 n] w fun e w' => e = .returned (.string (strOfNums (numI n))) ∧ Below w.heap.size w w' := by
  go_enter Tryz.func102, Tryz.ntmps102
  go_wp2_with (go_at_call 77; refine (size_any _ _).mono ?_; rw [qsize_0 h0]; rintro e _ ⟨rfl, rfl⟩)
  go_ret
  exact ⟨by rw [numI_0 h0]; rfl, Below.refl _ _⟩

/-- quic.Num: the bytes of every number. -/
theorem num_any (n : Int) (w : World) (hT : Tab w) :
    Calls Tryz.prog 102 #[.int .i64 n] w fun e w' => e = .returned (.string (strOfNums (numI n))) ∧ Below w.heap.size w w' := by
  by_cases h0 : n < 0 ∨ 4611686018427387903 < n
  · exact num_0 n w h0
  by_cases h1 : n < 64
  · exact num_1 n w (by omega) h1 hT
  by_cases h2 : n < 16384
  · exact num_2 n w (by omega) h2 hT
  by_cases h4 : n < 1073741824
  · exact num_4 n w (by omega) h4 hT
  · exact num_8 n w (by omega) (by omega) hT
end Go.Proofs.YtdendpckihckeaaGreatDoor.Q
