/- lex.cut: its walk. -/
import Derived.Test.YtjamkfkbajhefaaGreatDoorZk15
import Derived.Test.YtjamkfkbajhefaaGreatDoorZk0
import Derived.Lib.RuneCountTail
namespace Go.Proofs.YtjamkfkbajhefaaGreatDoor.V
open Go.RowKit

/-- A token, as the model has it. -/
abbrev tv (k p : Int) (s : ByteArray) (vk vn : Int) (vs : ByteArray) : Value := .agg #[.int .i64 k, .int .i64 p, .string s, .int .i64 vk, .int .i64 vn, .string vs]
abbrev set6 (W : World) (b : Nat) (x0 x1 x2 x3 x4 x5 : Value) : World := (((((W.setCell ⟨b, 0, none⟩ x0).setCell ⟨b, 1, none⟩ x1).setCell ⟨b, 2, none⟩ x2).setCell ⟨b, 3, none⟩ x3).setCell ⟨b, 4, none⟩ x4).setCell ⟨b, 5, none⟩ x5
structure Six (b : Nat) (W : World) (x0 x1 x2 x3 x4 x5 : Value) : Prop where
  c0 : W.cell? ⟨b, 0, none⟩ = some x0
  c1 : W.cell? ⟨b, 1, none⟩ = some x1
  c2 : W.cell? ⟨b, 2, none⟩ = some x2
  c3 : W.cell? ⟨b, 3, none⟩ = some x3
  c4 : W.cell? ⟨b, 4, none⟩ = some x4
  c5 : W.cell? ⟨b, 5, none⟩ = some x5
theorem set_get6 {W : World} {b i : Nat} {u : Value} (h : W.cell? ⟨b, i, none⟩ = some u) (j : Nat) (x : Value) : (W.setCell ⟨b, j, none⟩ x).cell? ⟨b, i, none⟩ = some (if i = j then x else u) := by
  by_cases e : i = j
  · subst e
    rw [World.cell?_setCell_same _ _ _ h, if_pos rfl]
  · rw [World.cell?_setCell_other _ _ _ _ (fun e' => e (congrArg Addr.off e').symm), h, if_neg e]
theorem Six.set {b : Nat} {W : World} {x0 x1 x2 x3 x4 x5 : Value} (h : Six b W x0 x1 x2 x3 x4 x5) (y0 y1 y2 y3 y4 y5 : Value) : Six b (set6 W b y0 y1 y2 y3 y4 y5) y0 y1 y2 y3 y4 y5 := by
  refine ⟨?_, ?_, ?_, ?_, ?_, ?_⟩
  · simpa using set_get6 (set_get6 (set_get6 (set_get6 (set_get6 (set_get6 h.c0 0 y0) 1 y1) 2 y2) 3 y3) 4 y4) 5 y5
  · simpa using set_get6 (set_get6 (set_get6 (set_get6 (set_get6 (set_get6 h.c1 0 y0) 1 y1) 2 y2) 3 y3) 4 y4) 5 y5
  · simpa using set_get6 (set_get6 (set_get6 (set_get6 (set_get6 (set_get6 h.c2 0 y0) 1 y1) 2 y2) 3 y3) 4 y4) 5 y5
  · simpa using set_get6 (set_get6 (set_get6 (set_get6 (set_get6 (set_get6 h.c3 0 y0) 1 y1) 2 y2) 3 y3) 4 y4) 5 y5
  · simpa using set_get6 (set_get6 (set_get6 (set_get6 (set_get6 (set_get6 h.c4 0 y0) 1 y1) 2 y2) 3 y3) 4 y4) 5 y5
  · simpa using set_get6 (set_get6 (set_get6 (set_get6 (set_get6 (set_get6 h.c5 0 y0) 1 y1) 2 y2) 3 y3) 4 y4) 5 y5
theorem Six.below {b B : Nat} {W W' : World} {x0 x1 x2 x3 x4 x5 : Value} (h : Six b W x0 x1 x2 x3 x4 x5) (hb : Below B W W') (hlt : b < B) : Six b W' x0 x1 x2 x3 x4 x5 :=
  ⟨(hb.cell (p := ⟨b, 0, none⟩) hlt).trans h.c0, (hb.cell (p := ⟨b, 1, none⟩) hlt).trans h.c1, (hb.cell (p := ⟨b, 2, none⟩) hlt).trans h.c2, (hb.cell (p := ⟨b, 3, none⟩) hlt).trans h.c3, (hb.cell (p := ⟨b, 4, none⟩) hlt).trans h.c4, (hb.cell (p := ⟨b, 5, none⟩) hlt).trans h.c5⟩
theorem Six.alloc {b : Nat} {W : World} {x0 x1 x2 x3 x4 x5 : Value} (h : Six b W x0 x1 x2 x3 x4 x5) (o : Obj) : Six b (W.alloc o) x0 x1 x2 x3 x4 x5 :=
  h.below ((Below.refl W.heap.size W).alloc (Nat.le_refl _) o) (World.block_lt_of_cell? _ _ h.c0)
theorem set6_below {w0 w : World} {b : Nat} (h : Below b w0 w) (x0 x1 x2 x3 x4 x5 : Value) : Below b w0 (set6 w b x0 x1 x2 x3 x4 x5) :=
  (((((h.setCell (p := ⟨b, 0, none⟩) (Nat.le_refl _) _).setCell (p := ⟨b, 1, none⟩) (Nat.le_refl _) _).setCell (p := ⟨b, 2, none⟩) (Nat.le_refl _) _).setCell (p := ⟨b, 3, none⟩) (Nat.le_refl _) _).setCell (p := ⟨b, 4, none⟩) (Nat.le_refl _) _).setCell (p := ⟨b, 5, none⟩) (Nat.le_refl _) _
abbrev wt (w : World) : World := w.alloc (.cells #[.int .i64 0, .int .i64 0, .string ⟨#[]⟩, .int .i64 0, .int .i64 0, .string ⟨#[]⟩] 116)
theorem wt_below (w : World) : Below w.heap.size w (wt w) := (Below.refl _ _).alloc (Nat.le_refl _) _
/-- The result's cells, not yet set, and what was there before. -/
structure Ft (w w2 : World) : Prop where
  z : Six w.heap.size w2 (.int .i64 0) (.int .i64 0) (.string ⟨#[]⟩) (.int .i64 0) (.int .i64 0) (.string ⟨#[]⟩)
  f : ∀ j, w2.frozen? ⟨w.heap.size, j, none⟩ = false
  b : Below w.heap.size w w2
  l : w.heap.size < w2.heap.size
theorem Ft.new (w : World) : Ft w (wt w) := ⟨⟨by simp, by simp, by simp, by simp, by simp, by simp⟩, fun j => by simp, wt_below w, by simp⟩
theorem Ft.call {w w2 w3 : World} (h : Ft w w2) (hb : Below w2.heap.size w2 w3) : Ft w w3 :=
  ⟨h.z.below hb h.l, fun j => (hb.frozen (p := ⟨w.heap.size, j, none⟩) h.l).trans (h.f j), h.b.trans (hb.mono h.b.size), Nat.lt_of_lt_of_le h.l hb.size⟩
theorem results_t3 {fn : Func} {p u v : Tmp} (h : fn.results = #[.cell p 116, .tmp u, .tmp v]) (tmps : Array Value) (W : World) (b : Nat) (hp : tmps.getD p undef = .pointer (some ⟨b, 0, none⟩)) {k q : Int} {s : ByteArray} {vk vn : Int} {t : ByteArray} (h6 : Six b W (.int .i64 k) (.int .i64 q) (.string s) (.int .i64 vk) (.int .i64 vn) (.string t)) :
    (results fn tmps).run Tryz.prog W = .ok (.tuple #[tv k q s vk vn t, tmps.getD u undef, tmps.getD v undef]) W := by
  obtain ⟨c0, c1, c2, c3, c4, c5⟩ := h6
  rw [results_cell3 h, hp]
  have e : (asAddr (.pointer (some ⟨b, 0, none⟩))).run Tryz.prog W = .ok ⟨b, 0, none⟩ W := rfl
  rw [e]
  simp only [Result.andThen]
  have e2 : (loadVar 116 ⟨b, 0, none⟩).run Tryz.prog W = .ok (tv k q s vk vn t) W := by go_simp
  rw [e2]
/-- What cut hands back. -/
def ctV (x : Ct) : Value := .tuple #[tv x.t.k x.t.p (str x.t.s) x.t.vk x.t.vn (str x.t.vs), .int .i64 (x.z : Int), .int .i64 x.e]
set_option maxRecDepth 100000 in
set_option maxHeartbeats 8000000 in
theorem cut_any (s : ByteArray) (w : World) (hs : s.size ≤ 1000000) (h0 : 0 < s.size) (h : VE w) :
    Calls Tryz.prog 65 #[.string s] w fun e w' => e = .returned (ctV (cutL s.data.toList)) ∧ Below w.heap.size w w' := by
  obtain ⟨XX, HXX⟩ : ∃ XX, Hid (ctV (cutL s.data.toList) = XX) := ⟨_, rfl⟩
  rw [HXX.out]
  have HSc := fun w h => scan_any s w hs h
  have hrl : (scn s.data.toList).r.length ≤ s.size := by
    by_cases e : (scn s.data.toList).e = 0
    · obtain ⟨-, b⟩ := scn_once e
      have := congrArg List.length b
      rw [List.length_append, ← Lib.size_eq] at this
      omega
    · rcases bad_or s.data.toList with h | h
      · exact absurd h e
      · rw [h]; exact Nat.zero_le _
  have HW : Hid (∀ w, UT w → Calls Tryz.prog 95 #[.string s] w fun e w' => e = .returned (.int .i64 (wsz s.data.toList : Nat)) ∧ Below w.heap.size w w') := fun w hU => wordSize_any s w hU
  have HM : Hid (∀ w, Calls Tryz.prog 96 #[.string s] w fun e w' => e = .returned (.int .i64 (msz s.data.toList : Nat)) ∧ w' = w) := fun w => markSize_any s w h0
  have hwl : wsz s.data.toList ≤ s.size := by
    unfold wsz
    split
    · rw [Lib.size_eq]; exact wgo_le _ _ (Nat.le_refl _)
    · exact Nat.zero_le _
  have hml : msz s.data.toList ≤ s.size := by
    unfold msz
    split
    · rename_i hp
      rw [Lib.size_eq]
      rcases hp with hp | hp | hp <;> exact pre_len hp
    · split <;> omega
  have tkw : ∀ m, s.extract 0 m = str (s.data.toList.take m) := fun m => ext5 s m
  have hC : cutL s.data.toList = if (scn s.data.toList).e = 2 then .bad 2 else if (scn s.data.toList).e = 0 ∧ wgo (scn s.data.toList).r = 0 then ⟨⟨2, 0, [], (scn s.data.toList).k, (scn s.data.toList).n, (scn s.data.toList).s⟩, s.data.toList.length - (scn s.data.toList).r.length, 0⟩ else if 0 < wsz s.data.toList then ⟨⟨1, 0, s.data.toList.take (wsz s.data.toList), 0, 0, []⟩, wsz s.data.toList, 0⟩ else if 0 < msz s.data.toList then ⟨⟨3, 0, s.data.toList.take (msz s.data.toList), 0, 0, []⟩, msz s.data.toList, 0⟩ else .bad 3 := rfl
  generalize scn s.data.toList = x at *
  obtain ⟨k, n, S, R, e⟩ := x
  simp only [scV] at HSc hC hrl
  rw [← Lib.size_eq] at hC
  have HS : Hid (∀ w, VE w → Calls Tryz.prog 93 #[.string s] w fun e0 w' => e0 = .returned (.tuple #[vv k n (str S), .string (str R), .int .i64 e]) ∧ Below w.heap.size w w') := HSc
  have HG : Hid (∀ w, Calls Tryz.prog 94 #[.string (str R)] w fun e w' => e = .returned (.int .i64 (wgo R : Nat)) ∧ Below w.heap.size w w') := fun w => by
    have := wordGoesOn_any (str R) w
    rw [str_data] at this
    exact this
  have hRz : (str R).size = R.length := str_size R
  have hRle : (str R).size ≤ s.size := by rw [hRz]; exact hrl
  have HRz : Hid ((str R).size = R.length) := hRz
  generalize hwz : wsz s.data.toList = WZ at *
  generalize hmz : msz s.data.toList = MZ at *
  clear HSc hRz hrl hwz hmz
  have hwl' : (WZ : Int) ≤ s.size := by omega
  have hml' : (MZ : Int) ≤ s.size := by omega
  by_cases e2 : e = 2
  · subst e2
    have HX : Hid (XX = .tuple #[tv 0 0 ⟨#[]⟩ 0 0 ⟨#[]⟩, .int .i64 0, .int .i64 2]) := by
      show _ = _
      rw [← HXX.out, hC, if_pos rfl]
      rfl
    rw [HX.out]
    generalize str S = T at *
    generalize str R = Y at *
    clear hC HX HXX HRz
    go_enter Tryz.func65, Tryz.ntmps65
    go_wp2_with fail
    refine (HS.out _ (h.below (wt_below w))).mono ?_
    rintro e0 w1 ⟨rfl, hb1⟩
    have HF1 : Hid (Ft w w1) := (Ft.new w).call hb1
    have hl1 := HF1.out.l
    have hne1 : w1.heap.size ≠ w.heap.size := by omega
    obtain ⟨⟨c0, c1, c2, c3, c4, c5⟩, ff, -, -⟩ := HF1.out
    clear hb1
    go_wp2
    try simp only [Exit.inBlock, Exit.then]
    refine bodyPost_ret (results_t3 rfl _ _ w.heap.size rfl ((HF1.out.z.set _ _ _ _ _ _).alloc _)) rfl ⟨rfl, (set6_below HF1.out.b _ _ _ _ _ _).alloc ?_ _⟩
    have := HF1.out.b.size
    simpa using this
  have n2 : (e == 2) = false := by rw [beq_eq_false_iff_ne]; exact e2
  rw [if_neg e2] at hC
  by_cases hv : e = 0 ∧ wgo R = 0
  · rw [if_pos hv] at hC
    obtain ⟨rfl, hw⟩ := hv
    rw [hw] at HG
    have HX : Hid (XX = .tuple #[tv 2 0 ⟨#[]⟩ k n (str S), .int .i64 ((s.size : Int) - (str R).size), .int .i64 0]) := by
      show _ = _
      rw [← HXX.out, hC, HRz.out]
      have : ((s.size - R.length : Nat) : Int) = (s.size : Int) - R.length := by have := HRz.out; omega
      simp only [ctV, this]
      rfl
    rw [HX.out]
    generalize str S = T at *
    generalize str R = Y at *
    clear hC HX HXX HRz hw e2 n2
    go_enter Tryz.func65, Tryz.ntmps65
    go_wp2_with fail
    refine (HS.out _ (h.below (wt_below w))).mono ?_
    rintro e0 w1 ⟨rfl, hb1⟩
    have HF1 : Hid (Ft w w1) := (Ft.new w).call hb1
    have HA1 : Hid (Ft w (w1.alloc (.cells #[.int .i64 k, .int .i64 n, .string T] 52))) := HF1.out.call ((Below.refl _ _).alloc (Nat.le_refl _) _)
    have HQ1 : Hid (∀ j, (w1.alloc (.cells #[.int .i64 k, .int .i64 n, .string T] 52)).cell? ⟨w1.heap.size, j, none⟩ = #[Value.int .i64 k, .int .i64 n, .string T][j]?) := fun j => by simp
    have hlq : Hid (w1.heap.size < (w1.alloc (.cells #[.int .i64 k, .int .i64 n, .string T] 52)).heap.size) := by show _ < _; simp
    clear hb1
    go_wp2_with fail
    generalize w1.alloc (.cells #[.int .i64 k, .int .i64 n, .string T] 52) = W1 at *
    generalize w1.heap.size = b1 at *
    refine (HG.out _).mono ?_
    rintro e0 w2 ⟨rfl, hb2⟩
    have HF2 : Hid (Ft w w2) := HA1.out.call hb2
    have v0 : w2.cell? ⟨b1, 0, none⟩ = some _ := (hb2.cell (p := ⟨b1, 0, none⟩) hlq.out).trans (HQ1.out 0)
    have v1 : w2.cell? ⟨b1, 1, none⟩ = some _ := (hb2.cell (p := ⟨b1, 1, none⟩) hlq.out).trans (HQ1.out 1)
    have v2 : w2.cell? ⟨b1, 2, none⟩ = some _ := (hb2.cell (p := ⟨b1, 2, none⟩) hlq.out).trans (HQ1.out 2)
    clear hb2
    obtain ⟨⟨c0, c1, c2, c3, c4, c5⟩, ff, -, -⟩ := HF2.out
    go_wp2
    try simp only [Exit.inBlock, Exit.then]
    exact bodyPost_ret (results_t3 rfl _ _ w.heap.size rfl (HF2.out.z.set _ _ _ _ _ _)) rfl ⟨rfl, set6_below HF2.out.b _ _ _ _ _ _⟩
  rw [if_neg hv] at hC
  have cv : (e = 0 ∧ ((wgo R : Int) == 0) = false ∧ 0 < wgo R) ∨ ((e == 0) = false) := by
    by_cases h0e : e = 0
    · have : wgo R ≠ 0 := fun e => hv ⟨h0e, e⟩
      exact .inl ⟨h0e, by rw [beq_eq_false_iff_ne]; omega, by omega⟩
    · exact .inr (by rw [beq_eq_false_iff_ne]; exact h0e)
  clear hv
  by_cases hw : 0 < WZ
  · have HX : Hid (XX = .tuple #[tv 1 0 (s.extract 0 WZ) 0 0 ⟨#[]⟩, .int .i64 (WZ : Int), .int .i64 0]) := by
      show _ = _
      rw [← HXX.out, hC, if_pos hw, tkw]
      rfl
    rw [HX.out]
    generalize str S = T at *
    generalize str R = Y at *
    generalize wgo R = G at *
    clear hC HX HXX HRz tkw
    rcases cv with ⟨rfl, cv, cv2⟩ | cv
    · clear e2 n2
      go_enter Tryz.func65, Tryz.ntmps65
      go_wp2_with fail
      refine (HS.out _ (h.below (wt_below w))).mono ?_
      rintro e0 w1 ⟨rfl, hb1⟩
      have HF1 : Hid (Ft w w1) := (Ft.new w).call hb1
      have HA1 : Hid (Ft w (w1.alloc (.cells #[.int .i64 k, .int .i64 n, .string T] 52))) := HF1.out.call ((Below.refl _ _).alloc (Nat.le_refl _) _)
      have HQ1 : Hid (∀ j, (w1.alloc (.cells #[.int .i64 k, .int .i64 n, .string T] 52)).cell? ⟨w1.heap.size, j, none⟩ = #[Value.int .i64 k, .int .i64 n, .string T][j]?) := fun j => by simp
      have hlq : Hid (w1.heap.size < (w1.alloc (.cells #[.int .i64 k, .int .i64 n, .string T] 52)).heap.size) := by show _ < _; simp
      clear hb1
      go_wp2_with fail
      generalize w1.alloc (.cells #[.int .i64 k, .int .i64 n, .string T] 52) = W1 at *
      generalize w1.heap.size = b1 at *
      refine (HG.out _).mono ?_
      rintro e0 w2 ⟨rfl, hb2⟩
      have HF2 : Hid (Ft w w2) := HA1.out.call hb2
      have v0 : w2.cell? ⟨b1, 0, none⟩ = some _ := (hb2.cell (p := ⟨b1, 0, none⟩) hlq.out).trans (HQ1.out 0)
      have v1 : w2.cell? ⟨b1, 1, none⟩ = some _ := (hb2.cell (p := ⟨b1, 1, none⟩) hlq.out).trans (HQ1.out 1)
      have v2 : w2.cell? ⟨b1, 2, none⟩ = some _ := (hb2.cell (p := ⟨b1, 2, none⟩) hlq.out).trans (HQ1.out 2)
      clear hb2
      go_wp2_with fail
      refine (HW.out _ (h.below HF2.out.b).u).mono ?_
      rintro e0 w3 ⟨rfl, hb3⟩
      have HF3 : Hid (Ft w w3) := HF2.out.call hb3
      obtain ⟨⟨c0, c1, c2, c3, c4, c5⟩, ff, -, -⟩ := HF3.out
      clear hb3
      go_wp2
      try simp only [Exit.inBlock, Exit.then]
      exact bodyPost_ret (results_t3 rfl _ _ w.heap.size rfl (HF3.out.z.set _ _ _ _ _ _)) rfl ⟨rfl, set6_below HF3.out.b _ _ _ _ _ _⟩
    · clear e2
      go_enter Tryz.func65, Tryz.ntmps65
      go_wp2_with fail
      refine (HS.out _ (h.below (wt_below w))).mono ?_
      rintro e0 w1 ⟨rfl, hb1⟩
      have HF1 : Hid (Ft w w1) := (Ft.new w).call hb1
      have HA1 : Hid (Ft w (w1.alloc (.cells #[.int .i64 k, .int .i64 n, .string T] 52))) := HF1.out.call ((Below.refl _ _).alloc (Nat.le_refl _) _)
      have HQ1 : Hid (∀ j, (w1.alloc (.cells #[.int .i64 k, .int .i64 n, .string T] 52)).cell? ⟨w1.heap.size, j, none⟩ = #[Value.int .i64 k, .int .i64 n, .string T][j]?) := fun j => by simp
      have hlq : Hid (w1.heap.size < (w1.alloc (.cells #[.int .i64 k, .int .i64 n, .string T] 52)).heap.size) := by show _ < _; simp
      clear hb1
      have HF2 : Hid (Ft w (w1.alloc (.cells #[.int .i64 k, .int .i64 n, .string T] 52))) := HA1.out
      go_wp2_with fail
      refine (HW.out _ (h.below HF2.out.b).u).mono ?_
      rintro e0 w3 ⟨rfl, hb3⟩
      have HF3 : Hid (Ft w w3) := HF2.out.call hb3
      obtain ⟨⟨c0, c1, c2, c3, c4, c5⟩, ff, -, -⟩ := HF3.out
      clear hb3
      go_wp2
      try simp only [Exit.inBlock, Exit.then]
      exact bodyPost_ret (results_t3 rfl _ _ w.heap.size rfl (HF3.out.z.set _ _ _ _ _ _)) rfl ⟨rfl, set6_below HF3.out.b _ _ _ _ _ _⟩
  rw [if_neg hw] at hC
  by_cases hm : 0 < MZ
  · have HX : Hid (XX = .tuple #[tv 3 0 (s.extract 0 MZ) 0 0 ⟨#[]⟩, .int .i64 (MZ : Int), .int .i64 0]) := by
      show _ = _
      rw [← HXX.out, hC, if_pos hm, tkw]
      rfl
    rw [HX.out]
    generalize str S = T at *
    generalize str R = Y at *
    generalize wgo R = G at *
    clear hC HX HXX HRz tkw
    rcases cv with ⟨rfl, cv, cv2⟩ | cv
    · clear e2 n2
      go_enter Tryz.func65, Tryz.ntmps65
      go_wp2_with fail
      refine (HS.out _ (h.below (wt_below w))).mono ?_
      rintro e0 w1 ⟨rfl, hb1⟩
      have HF1 : Hid (Ft w w1) := (Ft.new w).call hb1
      have HA1 : Hid (Ft w (w1.alloc (.cells #[.int .i64 k, .int .i64 n, .string T] 52))) := HF1.out.call ((Below.refl _ _).alloc (Nat.le_refl _) _)
      have HQ1 : Hid (∀ j, (w1.alloc (.cells #[.int .i64 k, .int .i64 n, .string T] 52)).cell? ⟨w1.heap.size, j, none⟩ = #[Value.int .i64 k, .int .i64 n, .string T][j]?) := fun j => by simp
      have hlq : Hid (w1.heap.size < (w1.alloc (.cells #[.int .i64 k, .int .i64 n, .string T] 52)).heap.size) := by show _ < _; simp
      clear hb1
      go_wp2_with fail
      generalize w1.alloc (.cells #[.int .i64 k, .int .i64 n, .string T] 52) = W1 at *
      generalize w1.heap.size = b1 at *
      refine (HG.out _).mono ?_
      rintro e0 w2 ⟨rfl, hb2⟩
      have HF2 : Hid (Ft w w2) := HA1.out.call hb2
      have v0 : w2.cell? ⟨b1, 0, none⟩ = some _ := (hb2.cell (p := ⟨b1, 0, none⟩) hlq.out).trans (HQ1.out 0)
      have v1 : w2.cell? ⟨b1, 1, none⟩ = some _ := (hb2.cell (p := ⟨b1, 1, none⟩) hlq.out).trans (HQ1.out 1)
      have v2 : w2.cell? ⟨b1, 2, none⟩ = some _ := (hb2.cell (p := ⟨b1, 2, none⟩) hlq.out).trans (HQ1.out 2)
      clear hb2
      go_wp2_with fail
      refine (HW.out _ (h.below HF2.out.b).u).mono ?_
      rintro e0 w3 ⟨rfl, hb3⟩
      have HF3 : Hid (Ft w w3) := HF2.out.call hb3
      obtain ⟨⟨c0, c1, c2, c3, c4, c5⟩, ff, -, -⟩ := HF3.out
      clear hb3
      go_wp2_with fail
      refine (HM.out _).mono ?_
      rintro e0 w4 ⟨rfl, hw4⟩
      subst hw4
      go_wp2
      try simp only [Exit.inBlock, Exit.then]
      exact bodyPost_ret (results_t3 rfl _ _ w.heap.size rfl (HF3.out.z.set _ _ _ _ _ _)) rfl ⟨rfl, set6_below HF3.out.b _ _ _ _ _ _⟩
    · clear e2
      go_enter Tryz.func65, Tryz.ntmps65
      go_wp2_with fail
      refine (HS.out _ (h.below (wt_below w))).mono ?_
      rintro e0 w1 ⟨rfl, hb1⟩
      have HF1 : Hid (Ft w w1) := (Ft.new w).call hb1
      have HA1 : Hid (Ft w (w1.alloc (.cells #[.int .i64 k, .int .i64 n, .string T] 52))) := HF1.out.call ((Below.refl _ _).alloc (Nat.le_refl _) _)
      have HQ1 : Hid (∀ j, (w1.alloc (.cells #[.int .i64 k, .int .i64 n, .string T] 52)).cell? ⟨w1.heap.size, j, none⟩ = #[Value.int .i64 k, .int .i64 n, .string T][j]?) := fun j => by simp
      have hlq : Hid (w1.heap.size < (w1.alloc (.cells #[.int .i64 k, .int .i64 n, .string T] 52)).heap.size) := by show _ < _; simp
      clear hb1
      have HF2 : Hid (Ft w (w1.alloc (.cells #[.int .i64 k, .int .i64 n, .string T] 52))) := HA1.out
      go_wp2_with fail
      refine (HW.out _ (h.below HF2.out.b).u).mono ?_
      rintro e0 w3 ⟨rfl, hb3⟩
      have HF3 : Hid (Ft w w3) := HF2.out.call hb3
      obtain ⟨⟨c0, c1, c2, c3, c4, c5⟩, ff, -, -⟩ := HF3.out
      clear hb3
      go_wp2_with fail
      refine (HM.out _).mono ?_
      rintro e0 w4 ⟨rfl, hw4⟩
      subst hw4
      go_wp2
      try simp only [Exit.inBlock, Exit.then]
      exact bodyPost_ret (results_t3 rfl _ _ w.heap.size rfl (HF3.out.z.set _ _ _ _ _ _)) rfl ⟨rfl, set6_below HF3.out.b _ _ _ _ _ _⟩
  rw [if_neg hm] at hC
  have HX : Hid (XX = .tuple #[tv 0 0 ⟨#[]⟩ 0 0 ⟨#[]⟩, .int .i64 0, .int .i64 3]) := by
    show _ = _
    rw [← HXX.out, hC]
    rfl
  rw [HX.out]
  generalize str S = T at *
  generalize str R = Y at *
  generalize wgo R = G at *
  clear hC HX HXX HRz tkw
  rcases cv with ⟨rfl, cv, cv2⟩ | cv
  · clear e2 n2
    go_enter Tryz.func65, Tryz.ntmps65
    go_wp2_with fail
    refine (HS.out _ (h.below (wt_below w))).mono ?_
    rintro e0 w1 ⟨rfl, hb1⟩
    have HF1 : Hid (Ft w w1) := (Ft.new w).call hb1
    have HA1 : Hid (Ft w (w1.alloc (.cells #[.int .i64 k, .int .i64 n, .string T] 52))) := HF1.out.call ((Below.refl _ _).alloc (Nat.le_refl _) _)
    have HQ1 : Hid (∀ j, (w1.alloc (.cells #[.int .i64 k, .int .i64 n, .string T] 52)).cell? ⟨w1.heap.size, j, none⟩ = #[Value.int .i64 k, .int .i64 n, .string T][j]?) := fun j => by simp
    have hlq : Hid (w1.heap.size < (w1.alloc (.cells #[.int .i64 k, .int .i64 n, .string T] 52)).heap.size) := by show _ < _; simp
    clear hb1
    go_wp2_with fail
    generalize w1.alloc (.cells #[.int .i64 k, .int .i64 n, .string T] 52) = W1 at *
    generalize w1.heap.size = b1 at *
    refine (HG.out _).mono ?_
    rintro e0 w2 ⟨rfl, hb2⟩
    have HF2 : Hid (Ft w w2) := HA1.out.call hb2
    have v0 : w2.cell? ⟨b1, 0, none⟩ = some _ := (hb2.cell (p := ⟨b1, 0, none⟩) hlq.out).trans (HQ1.out 0)
    have v1 : w2.cell? ⟨b1, 1, none⟩ = some _ := (hb2.cell (p := ⟨b1, 1, none⟩) hlq.out).trans (HQ1.out 1)
    have v2 : w2.cell? ⟨b1, 2, none⟩ = some _ := (hb2.cell (p := ⟨b1, 2, none⟩) hlq.out).trans (HQ1.out 2)
    clear hb2
    go_wp2_with fail
    refine (HW.out _ (h.below HF2.out.b).u).mono ?_
    rintro e0 w3 ⟨rfl, hb3⟩
    have HF3 : Hid (Ft w w3) := HF2.out.call hb3
    obtain ⟨⟨c0, c1, c2, c3, c4, c5⟩, ff, -, -⟩ := HF3.out
    clear hb3
    go_wp2_with fail
    refine (HM.out _).mono ?_
    rintro e0 w4 ⟨rfl, hw4⟩
    subst hw4
    go_wp2
    try simp only [Exit.inBlock, Exit.then]
    exact bodyPost_ret (results_t3 rfl _ _ w.heap.size rfl (HF3.out.z.set _ _ _ _ _ _)) rfl ⟨rfl, set6_below HF3.out.b _ _ _ _ _ _⟩
  · clear e2
    go_enter Tryz.func65, Tryz.ntmps65
    go_wp2_with fail
    refine (HS.out _ (h.below (wt_below w))).mono ?_
    rintro e0 w1 ⟨rfl, hb1⟩
    have HF1 : Hid (Ft w w1) := (Ft.new w).call hb1
    have HA1 : Hid (Ft w (w1.alloc (.cells #[.int .i64 k, .int .i64 n, .string T] 52))) := HF1.out.call ((Below.refl _ _).alloc (Nat.le_refl _) _)
    have HQ1 : Hid (∀ j, (w1.alloc (.cells #[.int .i64 k, .int .i64 n, .string T] 52)).cell? ⟨w1.heap.size, j, none⟩ = #[Value.int .i64 k, .int .i64 n, .string T][j]?) := fun j => by simp
    have hlq : Hid (w1.heap.size < (w1.alloc (.cells #[.int .i64 k, .int .i64 n, .string T] 52)).heap.size) := by show _ < _; simp
    clear hb1
    have HF2 : Hid (Ft w (w1.alloc (.cells #[.int .i64 k, .int .i64 n, .string T] 52))) := HA1.out
    go_wp2_with fail
    refine (HW.out _ (h.below HF2.out.b).u).mono ?_
    rintro e0 w3 ⟨rfl, hb3⟩
    have HF3 : Hid (Ft w w3) := HF2.out.call hb3
    obtain ⟨⟨c0, c1, c2, c3, c4, c5⟩, ff, -, -⟩ := HF3.out
    clear hb3
    go_wp2_with fail
    refine (HM.out _).mono ?_
    rintro e0 w4 ⟨rfl, hw4⟩
    subst hw4
    go_wp2
    try simp only [Exit.inBlock, Exit.then]
    exact bodyPost_ret (results_t3 rfl _ _ w.heap.size rfl (HF3.out.z.set _ _ _ _ _ _)) rfl ⟨rfl, set6_below HF3.out.b _ _ _ _ _ _⟩
end Go.Proofs.YtjamkfkbajhefaaGreatDoor.V
/- A struct put behind a row of the call's own. -/
namespace Go.Proofs.YtjamkfkbajhefaaGreatDoor.V
open Go.RowKit

theorem wplk6 {P : Program} (wr : World) {ops : Array Oper} {rest : List Oper} {o : Oper} {a : Act} {Q : Exit → Act → World → Prop} (hgd : o.guard = none) (s x : Operand) (t e : TypeId)
    (ho : o.op = .call { callee := .builtin .append, args := #[s, x], argTypes := #[t, t] })
    (i : TypeInfo) (z : Value) (size bytes : Nat) (ht : P.underlying t = some (.slice e)) (hi : P.info? e = some i) (hz : i.zero = some z)
    (hsize : i.size = size) (hby : i.bytes = bytes) (hzs : z.cells.size = size) (hsz : 0 < size)
    (base : Nat) (v : Value) (n : Nat) (xs : List Value) (hs : a.eval s = v) (hown : wr.ownsRow base e size v n xs)
    (es : List Value) (hes : es.length = size) (C : Array Value) (hC : C = es.toArray) (hx : a.eval x = .slice (some ⟨wr.heap.size, 0, none⟩) 1 1) (h1 : ∀ u ∈ es, u.oneCell' = true)
    (hbytes : (n + 1) * bytes ≤ 140737488355328) (h63 : n + 1 ≤ maxLen) (hbase : base ≤ wr.heap.size)
    (h : ∀ v' w', w'.ownsRow base e size v' (n + 1) (xs ++ es) → Below base wr w' → wpList P ops Q rest (a.put o.dst v') w') :
    wpList P ops Q (o :: rest) a (wr.alloc (.cells C e)) := by
  subst hC
  refine wpList_append_own _ hgd s x t ho base e i z size bytes ht hi hz hsize hby hzs hsz v n xs hs (hown.alloc _) ⟨wr.heap.size, 0, none⟩ 1 1 es hx (by omega) ?_ h1 h63 hbytes ?_ ?_
  · intro j u hj
    have : (⟨wr.heap.size, 0, none⟩ : Addr).add j = ⟨wr.heap.size, j, none⟩ := by unfold Addr.add; split <;> simp_all
    rw [this]
    simpa using hj
  · simp; omega
  · intro v' w' h2 h3 h4
    refine h v' w' h2 ?_
    exact ((Below.refl _ _).alloc hbase _).grown h3 (by simp; omega) (fun k hk => (hown.lt k hk).1)

/-- The same, the new block told by its number. -/
theorem wpln6 {P : Program} (wr : World) {ops : Array Oper} {rest : List Oper} {o : Oper} {a : Act} {Q : Exit → Act → World → Prop} (hgd : o.guard = none) (s x : Operand) (t e : TypeId)
    (ho : o.op = .call { callee := .builtin .append, args := #[s, x], argTypes := #[t, t] })
    (i : TypeInfo) (z : Value) (size bytes : Nat) (ht : P.underlying t = some (.slice e)) (hi : P.info? e = some i) (hz : i.zero = some z)
    (hsize : i.size = size) (hby : i.bytes = bytes) (hzs : z.cells.size = size) (hsz : 0 < size)
    (base : Nat) (v : Value) (n : Nat) (xs : List Value) (hs : a.eval s = v) (hown : wr.ownsRow base e size v n xs)
    (es : List Value) (hes : es.length = size) (C : Array Value) (hC : C = es.toArray) (N : Nat) (hN : N = wr.heap.size) (hx : a.eval x = .slice (some ⟨N, 0, none⟩) 1 1) (h1 : ∀ u ∈ es, u.oneCell' = true)
    (hbytes : (n + 1) * bytes ≤ 140737488355328) (h63 : n + 1 ≤ maxLen) (hbase : base ≤ wr.heap.size)
    (h : ∀ v' w', w'.ownsRow base e size v' (n + 1) (xs ++ es) → Below base wr w' → wpList P ops Q rest (a.put o.dst v') w') :
    wpList P ops Q (o :: rest) a (wr.alloc (.cells C e)) := by
  subst hN
  exact wplk6 wr hgd s x t e ho i z size bytes ht hi hz hsize hby hzs hsz base v n xs hs hown es hes C hC hx h1 hbytes h63 hbase h

end Go.Proofs.YtjamkfkbajhefaaGreatDoor.V
