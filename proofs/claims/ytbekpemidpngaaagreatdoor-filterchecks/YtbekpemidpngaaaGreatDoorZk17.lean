/- showValues, showPred, Show: walks. -/
import Derived.Test.YtbekpemidpngaaaGreatDoorZk16
import Derived.Test.YtbekpemidpngaaaGreatDoorZk11
import Derived.Test.YtbekpemidpngaaaGreatDoorZk9
import Derived.Lib.Strings
namespace Go.Proofs.YtbekpemidpngaaaGreatDoor
open Go.RowKit

theorem info_strF : (Tryz.prog.info? 9).map (fun i => (i.zero, i.size, i.bytes)) = some (some (.string ⟨#[]⟩), 1, 16) := by kernel_rfl
/-- A value's literal. -/
def shw (x : It) : List UInt8 := (V.shwV x.k x.n x.s).data.toList
theorem str_shw (x : It) : str (shw x) = V.shwV x.k x.n x.s := V.str_of _
def showV (l : List It) : List UInt8 := Lib.join (l.map shw) [32, 44, 32]
def showPB (y : Pd) : ByteArray :=
  if y.o = 1 then ⟨#[104, 97, 115, 32]⟩ ++ y.n
  else if y.o = 9 then ((((y.n ++ ⟨#[32]⟩) ++ ⟨#[105, 110]⟩) ++ ⟨#[32, 123, 32]⟩) ++ str (showV y.l)) ++ ⟨#[32, 125]⟩
  else (((y.n ++ ⟨#[32]⟩) ++ opW y.o) ++ ⟨#[32]⟩) ++ (match y.l with | x :: _ => V.shwV x.k x.n x.s | [] => ⟨#[]⟩)
def shP (y : Pd) : List UInt8 := (showPB y).data.toList
theorem str_shP (y : Pd) : str (shP y) = showPB y := V.str_of _
/-- A filter's text. -/
def showFl (D : List Pd) : ByteArray := if chkFl D = true then (if D.length = 0 then ⟨#[97, 110, 121]⟩ else str (Lib.join (D.map shP) [32, 97, 110, 100, 32])) else ⟨#[]⟩
theorem sT_v (l : List It) (k : Nat) (hk : k < l.length) : V.sCells ((l.take (k + 1)).map shw) = V.sCells ((l.take k).map shw) ++ [.string (str (shw l[k]))] := by
  unfold V.sCells
  rw [List.take_succ_eq_append_getElem hk, List.map_append, List.map_append]
  rfl
theorem sT_p (l : List Pd) (k : Nat) (hk : k < l.length) : V.sCells ((l.take (k + 1)).map shP) = V.sCells ((l.take k).map shP) ++ [.string (str (shP l[k]))] := by
  unfold V.sCells
  rw [List.take_succ_eq_append_getElem hk, List.map_append, List.map_append]
  rfl
set_option maxRecDepth 100000 in
set_option maxHeartbeats 4000000 in
theorem showValues_any (v : Value) (l : List It) (w : World) (hr : IsRow w 3 v l.length (itCells l)) (hl : l.length ≤ 1000) (hs : ∀ x ∈ l, x.s.size ≤ 1000000) (hJ : (showV l).length ≤ 1000000) (hT : FW w) :
    Calls Tryz.prog 75 #[v] w fun e w' => e = .returned (.string (str (showV l))) ∧ Below w.heap.size w w' := by
  obtain ⟨a0, cap0, rfl⟩ := hr.form
  have HK : Hid (∀ (k : Nat) (hk : k < l.length) W, Below w.heap.size w W → Calls Tryz.prog 77 #[itV l[k]] W fun e w' => e = .returned (.string (str (shw l[k]))) ∧ Below W.heap.size W w') := fun k hk W hb => by
    have h := hT.below hb
    have := V.show_any l[k].k l[k].n l[k].s W (by have := hs _ (List.getElem_mem hk); omega) h.u h.t h.p
    rw [str_shw]
    exact this
  have HJ : Hid (∀ v W, IsRow W 1 v (l.map shw).length (V.sCells (l.map shw)) → Calls Tryz.prog 47 #[v, .string ⟨#[32, 44, 32]⟩] W fun e w' => e = .returned (.string (str (showV l))) ∧ Below W.heap.size W w') := fun v W h => V.join3_any v (l.map shw) W h (by rw [List.length_map]; omega) hJ
  have HR : Hid (∀ W, Below w.heap.size w W → IsRow W 3 (.slice a0 l.length cap0) l.length (itCells l)) := fun W hb => hr.below hb
  generalize str (showV l) = RES at *
  obtain ⟨i0, hi0, hz0, hz1, hz2⟩ := info_parts info_strF
  have hb2 : i0.bytes * l.length ≤ 281474976710656 := by rw [hz2]; omega
  have hb3 : l.length ≤ maxLen := by unfold maxLen; omega
  clear hr hs hT hJ
  go_enter Tryz.func75, Tryz.ntmps75
  go_wp2_with (at_make; go_loud (refine wpList_make_own _ rfl (.const (.int .i64 0)) (.tmp 7) 93 rfl w.heap.size 9 i0 _ 1 Tryz.underlying93 hi0 hz0 hz1 .i64 .i64 _ l.length rfl rfl rfl hb2 hb3 (by omega) ?_; intro w1 hown1 hg1))
  have hB1 : Below w.heap.size w w1 := (Below.refl _ _).grown hg1 (Nat.le_refl _) (fun k hk => by cases hk)
  clear hg1
  go_wp2_with fail
  go_loopw [3, 11] (fun o i wr => ∃ k : Nat, k ≤ l.length ∧ i = .int .i64 (k : Int) ∧ wr.ownsRow w.heap.size 9 1 o k (V.sCells ((l.take k).map shw)) ∧ Below w.heap.size w wr) (fun _ i _ => l.length - (intOf i).toNat)
  case atStart => exact ⟨0, Nat.zero_le _, rfl, hown1, hB1⟩
  case round =>
    obtain ⟨k, hkl, rfl, hown, hB⟩ := hrel
    have hsz := hB.size
    by_cases hlk : k < l.length
    · have dk : decide ((k : Int) < l.length) = true := by simp; omega
      obtain ⟨b, off, rfl, hlt, c0, c1, c2⟩ := items_at (HR.out wr hB) k hlk
      have HSh : Hid (∀ W, Below w.heap.size w W → Calls Tryz.prog 77 #[itV l[k]] W fun e w' => e = .returned (.string (str (shw l[k]))) ∧ Below W.heap.size W w') := fun W hb => HK.out k hlk W hb
      have HT : Hid (V.sCells ((l.take (k + 1)).map shw) = V.sCells ((l.take k).map shw) ++ [.string (str (shw l[k]))]) := sT_v l k hlk
      have q1 : (0 : Int) ≤ (k : Int) := by omega
      have q2 : (k : Int) < (l.length : Int) := by omega
      generalize str (shw (l[k]'hlk)) = z at *
      generalize l[k]'hlk = x at *
      obtain ⟨xk, xn, xs⟩ := x
      dsimp only at c0 c1 c2 HSh
      have HO : Hid (wr.ownsRow w.heap.size 9 1 u3 k (V.sCells ((l.take k).map shw))) := hown
      clear hown HK HJ
      have hA := al_f wr (.cells #[.int .i64 xk, .int .i64 xn, .string xs] 54)
      go_wp2_with fail
      refine (HSh.out _ (hB.trans (hA.mono hsz))).mono ?_
      rintro e w3 ⟨rfl, hb3⟩
      have hB3 : Below wr.heap.size wr w3 := hA.trans (hb3.mono (by simp))
      have hs3 := hB3.size
      have HO3 : Hid (w3.ownsRow w.heap.size 9 1 u3 k (V.sCells ((l.take k).map shw))) := own_belowE HO.out hB3
      have HW3 : Hid (Below w.heap.size w w3) := hB.trans (hB3.mono hsz)
      clear HSh HO hB hA hb3 hB3 c0 c1 c2
      go_wp2_with (at_builtin; go_loud (refine wpl_app w3 rfl (.tmp 15) (.tmp 18) 93 9 rfl i0 _ 16 Tryz.underlying93 hi0 hz0 hz1 hz2 rfl w.heap.size u3 k _ rfl HO3.out (.string z) rfl rfl (by omega) (by unfold maxLen; omega) (by omega) ?_; intro v4 w4 hown4 hb4 hne4))
      have HO4 : Hid (w4.ownsRow w.heap.size 9 1 v4 (k + 1) (V.sCells ((l.take (k + 1)).map shw))) := by show World.ownsRow _ _ _ _ _ _ _; rw [HT.out]; exact hown4
      have HB4 : Hid (Below w.heap.size w w4) := HW3.out.trans hb4
      clear hown4 hb4 HT HO3 HW3
      go_wp2
      go_roundw
      case rel => exact ⟨k + 1, by omega, by simp, HO4.out, HB4.out⟩
      case measure => simp [intOf]; omega
    · have hk' : k = l.length := by omega
      subst hk'
      have dk : decide ((l.length : Int) < l.length) = false := by simp
      rw [List.take_of_length_le (Nat.le_refl _)] at hown
      have HO : Hid (wr.ownsRow w.heap.size 9 1 u3 l.length (V.sCells (l.map shw))) := hown
      clear hown HK
      go_wp2_with fail
      refine (HJ.out u3 wr (by rw [List.length_map]; exact IsRow.own HO.out)).mono ?_
      rintro e w2 ⟨rfl, hb2⟩
      have HB : Hid (Below w.heap.size w w2) := hB.trans (hb2.mono hsz)
      clear hb2 hB
      go_wp2
      go_ret
      exact ⟨rfl, HB.out⟩
/-- Texts of a predicate are not too long to be shown. -/
def ShOk (y : Pd) : Prop := y.n.size ≤ 200000 ∧ y.l.length ≤ 1000 ∧ (∀ x ∈ y.l, x.s.size ≤ 1000000 ∧ (V.shwV x.k x.n x.s).size ≤ 1000000) ∧ (showV y.l).length ≤ 1000000 ∧ (y.o ≠ 1 → y.o ≠ 9 → y.l ≠ [])
theorem opW_len (o : Int) : (opW o).size ≤ 6 := by
  unfold opW
  repeat' split
  all_goals decide
set_option maxRecDepth 100000 in
set_option maxHeartbeats 4000000 in
theorem showPred_any (x : PR) (w : World) (hr : IsRow w 3 x.v x.y.l.length (itCells x.y.l)) (hn : ShOk x.y) (hT : FW w) :
    Calls Tryz.prog 46 #[prV x] w fun e w' => e = .returned (.string (showPB x.y)) ∧ Below w.heap.size w w' := by
  obtain ⟨⟨n, o, l⟩, a, c⟩ := x
  obtain ⟨n1, n2, n3, n4, n5⟩ := hn
  show Calls Tryz.prog 46 #[.agg #[.string n, .int .i64 o, .slice a l.length c]] w _
  dsimp only [PR.v, prV] at *
  have one : ∀ x : UInt8, (⟨#[x]⟩ : ByteArray).size = 1 := fun _ => rfl
  have two : ∀ x y : UInt8, (⟨#[x, y]⟩ : ByteArray).size = 2 := fun _ _ => rfl
  have three : ∀ x y z : UInt8, (⟨#[x, y, z]⟩ : ByteArray).size = 3 := fun _ _ _ => rfl
  have four : ∀ x y z u : UInt8, (⟨#[x, y, z, u]⟩ : ByteArray).size = 4 := fun _ _ _ _ => rfl
  have HR : Hid (∀ W, Below w.heap.size w W → IsRow W 3 (.slice a l.length c) l.length (itCells l)) := fun W hb => hr.below hb
  have HSV : Hid (∀ W, Below w.heap.size w W → Calls Tryz.prog 75 #[.slice a l.length c] W fun e w' => e = .returned (.string (str (showV l))) ∧ Below W.heap.size W w') := fun W hb => showValues_any _ l W (hr.below hb) n2 (fun x hx => (n3 x hx).1) n4 (hT.below hb)
  by_cases h1 : o = 1
  · subst h1
    have e0 : showPB ⟨n, 1, l⟩ = ⟨#[104, 97, 115, 32]⟩ ++ n := rfl
    rw [e0]
    have hsz : ¬ 9223372036854775807 < (⟨#[104, 97, 115, 32]⟩ ++ n : ByteArray).size := by rw [ByteArray.size_append, four]; omega
    have hsz2 : ¬ 9223372036854775807 < 4 + n.size := by omega
    clear hr n2 n3 n4 n5 hT HR HSV e0
    obtain ⟨w1, hw1⟩ : ∃ w1, w1 = w.alloc (.cells #[.string n, .int .i64 1, .slice a l.length c] 45) := ⟨_, rfl⟩
    have B1 : Hid (Below w.heap.size w w1) := by show Below _ _ _; rw [hw1]; exact al_b _ _
    have hn1 : w1.heap[w.heap.size]? = some (.cells #[.string n, .int .i64 1, .slice a l.length c] 45 (0, 0)) := by rw [hw1]; exact new_at _ _
    have C1 : Hid (∀ W, Below w1.heap.size w1 W → W.heap[w.heap.size]? = some (.cells #[.string n, .int .i64 1, .slice a l.length c] 45 (0, 0))) := fun W h => (h.block _ (Array.getElem?_eq_some_iff.1 hn1).1).trans hn1
    clear hn1
    have hk := C1.out w1 (Below.refl _ _)
    have c1_0 : w1.cell? ⟨w.heap.size, 0, none⟩ = some (.string n) := by rw [Lib.cell_of_heap hk]; rfl
    have c1_1 : w1.cell? ⟨w.heap.size, 1, none⟩ = some (.int .i64 1) := by rw [Lib.cell_of_heap hk]; rfl
    have c1_2 : w1.cell? ⟨w.heap.size, 2, none⟩ = some (.slice a l.length c) := by rw [Lib.cell_of_heap hk]; rfl
    clear hk
    rw [hw1] at c1_0 c1_1 c1_2
    go_enter Tryz.func46, Tryz.ntmps46
    go_wp2
    go_ret
    rw [← hw1]
    exact ⟨rfl, B1.out⟩
  by_cases h9 : o = 9
  · subst h9
    have e0 : showPB ⟨n, 9, l⟩ = ((((n ++ ⟨#[32]⟩) ++ ⟨#[105, 110]⟩) ++ ⟨#[32, 123, 32]⟩) ++ str (showV l)) ++ ⟨#[32, 125]⟩ := rfl
    have hSl : (str (showV l)).size ≤ 1000000 := by
      have := V.str_size (showV l)
      have e : (str (showV l)).size = (showV l).length := this
      omega
    rw [e0]
    generalize str (showV l) = SV at *
    clear hr n2 n3 n4 n5 hT HR e0
    obtain ⟨w1, hw1⟩ : ∃ w1, w1 = w.alloc (.cells #[.string n, .int .i64 9, .slice a l.length c] 45) := ⟨_, rfl⟩
    have B1 : Hid (Below w.heap.size w w1) := by show Below _ _ _; rw [hw1]; exact al_b _ _
    have hn1 : w1.heap[w.heap.size]? = some (.cells #[.string n, .int .i64 9, .slice a l.length c] 45 (0, 0)) := by rw [hw1]; exact new_at _ _
    have C1 : Hid (∀ W, Below w1.heap.size w1 W → W.heap[w.heap.size]? = some (.cells #[.string n, .int .i64 9, .slice a l.length c] 45 (0, 0))) := fun W h => (h.block _ (Array.getElem?_eq_some_iff.1 hn1).1).trans hn1
    clear hn1
    have hk := C1.out w1 (Below.refl _ _)
    have c1_0 : w1.cell? ⟨w.heap.size, 0, none⟩ = some (.string n) := by rw [Lib.cell_of_heap hk]; rfl
    have c1_1 : w1.cell? ⟨w.heap.size, 1, none⟩ = some (.int .i64 9) := by rw [Lib.cell_of_heap hk]; rfl
    have c1_2 : w1.cell? ⟨w.heap.size, 2, none⟩ = some (.slice a l.length c) := by rw [Lib.cell_of_heap hk]; rfl
    clear hk
    rw [hw1] at c1_0 c1_1 c1_2
    go_enter Tryz.func46, Tryz.ntmps46
    go_wp2_with fail
    rw [← hw1]
    clear hw1 c1_0 c1_1 c1_2
    refine wp_region_quiet (C := fun w' => Below w1.heap.size w1 w') (by kernel_rfl) (by kernel_rfl) ((Below.refl _ _).drew) ?_
    dsimp only
    repeat (first
      | go_big_quiet_skip
      | (go_big_quiet_want
         apply Exists.intro
         refine ⟨fun W' hW' => ?_, ?_⟩
         · have hw : Below w1.heap.size w1 W' := hW'
           have hk := C1.out W' hw
           have k0 : W'.cell? ⟨w.heap.size, 0, none⟩ = some (.string n) := by rw [Lib.cell_of_heap hk]; rfl
           have k1 : W'.cell? ⟨w.heap.size, 1, none⟩ = some (.int .i64 9) := by rw [Lib.cell_of_heap hk]; rfl
           have k2 : W'.cell? ⟨w.heap.size, 2, none⟩ = some (.slice a l.length c) := by rw [Lib.cell_of_heap hk]; rfl
           clear hk
           go_simp
           first
             | done
             | rfl
             | (go_at_call 75; (with_reducible refine Calls.mono (HSV.out W' (B1.out.trans (hw.mono B1.out.size))) ?_); rintro e w'' ⟨rfl, hb⟩; exact ⟨rfl, hw.trans (hb.mono hw.size)⟩)
             | (rw [if_neg (by (try simp only [ByteArray.size_append, one, two, three]); omega)]; exact ⟨rfl, rfl⟩)
         go_big_quiet_on
         try simp only [Act.put, List.setIfInBounds_toArray, List.set_cons_zero, List.set_cons_succ]))
    refine wpQuiet_nil ?_
    intro w2 hq2
    have HB : Hid (Below w.heap.size w w2) := B1.out.trans (Below.mono hq2 B1.out.size)
    clear hq2
    go_wp2
    go_ret
    exact ⟨rfl, HB.out⟩
  obtain ⟨x0, r, rfl⟩ : ∃ x r, l = x :: r := by
    cases l with
    | nil => exact absurd rfl (n5 h1 h9)
    | cons x r => exact ⟨x, r, rfl⟩
  have e0 : showPB ⟨n, o, x0 :: r⟩ = (((n ++ ⟨#[32]⟩) ++ opW o) ++ ⟨#[32]⟩) ++ V.shwV x0.k x0.n x0.s := by unfold showPB; dsimp only; rw [if_neg h1, if_neg h9]
  have HSh : Hid (∀ W, Below w.heap.size w W → Calls Tryz.prog 77 #[itV x0] W fun e w' => e = .returned (.string (V.shwV x0.k x0.n x0.s)) ∧ Below W.heap.size W w') := fun W hb => by
    have h := hT.below hb
    exact V.show_any x0.k x0.n x0.s W (by have := (n3 x0 (by simp)).1; omega) h.u h.t h.p
  have HOp : Hid (∀ W, Calls Tryz.prog 76 #[.int .i64 o] W fun e w' => e = .returned (.string (opW o)) ∧ w' = W) := fun W => opWord_any o W
  have hSl := (n3 x0 (by simp)).2
  have hOl := opW_len o
  obtain ⟨b0, o0, hab, hlt, c0', c1', c2'⟩ := items_at (HR.out w (Below.refl _ _)) 0 (by simp)
  subst hab
  simp only [Nat.zero_mul, Nat.add_zero, List.getElem_cons_zero] at c0' c1' c2'
  have HY : Hid (∀ W, Below w.heap.size w W → W.cell? ⟨b0, o0, none⟩ = some (.int .i64 x0.k) ∧ W.cell? ⟨b0, o0 + 1, none⟩ = some (.int .i64 x0.n) ∧ W.cell? ⟨b0, o0 + 2, none⟩ = some (.string x0.s)) := fun W hb => ⟨(hb.cell (p := ⟨b0, _, none⟩) hlt).trans c0', (hb.cell (p := ⟨b0, _, none⟩) hlt).trans c1', (hb.cell (p := ⟨b0, _, none⟩) hlt).trans c2'⟩
  have hlen : 0 < (x0 :: r).length := by simp
  rw [e0]
  clear hr n2 n3 n4 n5 hT HR HSV e0 hlt c0' c1' c2'
  obtain ⟨xk, xn, xs⟩ := x0
  dsimp only at HY HSh hSl ⊢
  generalize V.shwV xk xn xs = SV at *
  generalize opW o = U at *
  have hlen2 : (0 : Int) < (((⟨xk, xn, xs⟩ : It) :: r).length : Int) := by rw [List.length_cons]; omega
  generalize ((⟨xk, xn, xs⟩ : It) :: r).length = LN at *
  have d1 : decide (o = 1) = false := decide_eq_false h1
  have d9 : decide (o = 9) = false := decide_eq_false h9
  obtain ⟨w1, hw1⟩ : ∃ w1, w1 = w.alloc (.cells #[.string n, .int .i64 o, .slice (some ⟨b0, o0, none⟩) LN c] 45) := ⟨_, rfl⟩
  have B1 : Hid (Below w.heap.size w w1) := by show Below _ _ _; rw [hw1]; exact al_b _ _
  have hn1 : w1.heap[w.heap.size]? = some (.cells #[.string n, .int .i64 o, .slice (some ⟨b0, o0, none⟩) LN c] 45 (0, 0)) := by rw [hw1]; exact new_at _ _
  have C1 : Hid (∀ W, Below w1.heap.size w1 W → W.heap[w.heap.size]? = some (.cells #[.string n, .int .i64 o, .slice (some ⟨b0, o0, none⟩) LN c] 45 (0, 0))) := fun W h => (h.block _ (Array.getElem?_eq_some_iff.1 hn1).1).trans hn1
  clear hn1
  have hk := C1.out w1 (Below.refl _ _)
  have c1_0 : w1.cell? ⟨w.heap.size, 0, none⟩ = some (.string n) := by rw [Lib.cell_of_heap hk]; rfl
  have c1_1 : w1.cell? ⟨w.heap.size, 1, none⟩ = some (.int .i64 o) := by rw [Lib.cell_of_heap hk]; rfl
  have c1_2 : w1.cell? ⟨w.heap.size, 2, none⟩ = some (.slice (some ⟨b0, o0, none⟩) LN c) := by rw [Lib.cell_of_heap hk]; rfl
  clear hk
  rw [hw1] at c1_0 c1_1 c1_2
  go_enter Tryz.func46, Tryz.ntmps46
  go_wp2_with fail
  rw [← hw1]
  clear hw1 c1_0 c1_1 c1_2
  refine wp_region_quiet (C := fun w' => Below w1.heap.size w1 w') (by kernel_rfl) (by kernel_rfl) ((Below.refl _ _).drew) ?_
  dsimp only
  repeat (first
    | go_big_quiet_skip
    | (go_big_quiet_want
       apply Exists.intro
       refine ⟨fun W' hW' => ?_, ?_⟩
       · have hw : Below w1.heap.size w1 W' := hW'
         have hk := C1.out W' hw
         have k0 : W'.cell? ⟨w.heap.size, 0, none⟩ = some (.string n) := by rw [Lib.cell_of_heap hk]; rfl
         have k1 : W'.cell? ⟨w.heap.size, 1, none⟩ = some (.int .i64 o) := by rw [Lib.cell_of_heap hk]; rfl
         have k2 : W'.cell? ⟨w.heap.size, 2, none⟩ = some (.slice (some ⟨b0, o0, none⟩) LN c) := by rw [Lib.cell_of_heap hk]; rfl
         obtain ⟨g0, g1, g2⟩ := HY.out W' (B1.out.trans (hw.mono B1.out.size))
         clear hk
         go_simp
         first
           | done
           | rfl
           | (go_at_call 76; (with_reducible refine Calls.mono (HOp.out W') ?_); rintro e w'' ⟨rfl, hb⟩; subst hb; exact ⟨rfl, hw⟩)
           | (go_at_call 77; (with_reducible refine Calls.mono (HSh.out W' (B1.out.trans (hw.mono B1.out.size))) ?_); rintro e w'' ⟨rfl, hb⟩; exact ⟨rfl, hw.trans (hb.mono hw.size)⟩)
           | (rw [if_neg (by (try simp only [ByteArray.size_append, one, two, three]); omega)]; exact ⟨rfl, rfl⟩)
       go_big_quiet_on
       try simp only [Act.put, List.setIfInBounds_toArray, List.set_cons_zero, List.set_cons_succ]))
  refine wpQuiet_nil ?_
  intro w2 hq2
  have HB : Hid (Below w.heap.size w w2) := B1.out.trans (Below.mono hq2 B1.out.size)
  clear hq2
  go_wp2
  go_ret
  exact ⟨rfl, HB.out⟩
set_option maxRecDepth 100000 in
set_option maxHeartbeats 4000000 in
theorem showFl_any (v : Value) (F : List PR) (D : List Pd) (w : World) (hr : IsFl w v F) (hD : F.map (·.y) = D) (hl : F.length ≤ 1000) (hn : ∀ y ∈ D, NmP y) (hs : chkFl D = true → ∀ y ∈ D, ShOk y) (hJ : chkFl D = true → (Lib.join (D.map shP) [32, 97, 110, 100, 32]).length ≤ 1000000) (hT : FW w) :
    Calls Tryz.prog 27 #[v] w fun e w' => e = .returned (.string (showFl D)) ∧ Below w.heap.size w w' := by
  have HCk : Hid (Calls Tryz.prog 10 #[v] w fun e w' => e = .returned (.bool (chkFl D)) ∧ Below w.heap.size w w') := checkP_any v F D w hr hD (by omega) hn hT.u
  obtain ⟨a0, cap0, rfl⟩ := hr.1.form
  cases hc : chkFl D with
  | false =>
    have e0 : showFl D = ⟨#[]⟩ := by unfold showFl; rw [hc]; rfl
    rw [hc] at HCk
    rw [e0]
    clear hr hs hJ hT hn
    go_enter Tryz.func27, Tryz.ntmps27
    go_wp2_with fail
    refine HCk.out.mono ?_
    rintro e w1 ⟨rfl, hb1⟩
    have HB : Hid (Below w.heap.size w w1) := hb1
    clear hb1
    go_wp2
    go_ret
    exact ⟨rfl, HB.out⟩
  | true =>
    rw [hc] at HCk
    have hs' := hs hc
    have hJ' := hJ hc
    have hDl : D.length = F.length := by rw [← hD, List.length_map]
    by_cases h0 : F.length = 0
    · have e0 : showFl D = ⟨#[97, 110, 121]⟩ := by unfold showFl; rw [if_pos hc, if_pos (by omega)]
      have d0 : ((F.length : Int) == 0) = true := by rw [h0]; rfl
      have d0b : decide ((F.length : Int) = 0) = true := decide_eq_true (by omega)
      rw [e0]
      clear hr hs hJ hT hn hs' hJ' e0 hc hDl hD h0
      go_enter Tryz.func27, Tryz.ntmps27
      go_wp2_with fail
      refine HCk.out.mono ?_
      rintro e w1 ⟨rfl, hb1⟩
      have HB : Hid (Below w.heap.size w w1) := hb1
      clear hb1
      go_wp2
      go_ret
      exact ⟨rfl, HB.out⟩
    have e0 : showFl D = str (Lib.join (D.map shP) [32, 97, 110, 100, 32]) := by unfold showFl; rw [if_pos hc, if_neg (by omega)]
    have d0 : ((F.length : Int) == 0) = false := by rw [beq_eq_false_iff_ne]; omega
    have d0b : decide ((F.length : Int) = 0) = false := decide_eq_false (by omega)
    have HK : Hid (∀ (k : Nat) (hk : k < F.length) W, Below w.heap.size w W → Calls Tryz.prog 46 #[prV F[k]] W fun e w' => e = .returned (.string (str (shP F[k].y))) ∧ Below W.heap.size W w') := fun k hk W hb => by
      rw [str_shP]
      exact showPred_any F[k] W ((hr.2 _ (List.getElem_mem hk)).below hb) (hs' _ (by rw [← hD]; exact List.mem_map.2 ⟨F[k], List.getElem_mem hk, rfl⟩)) (hT.below hb)
    have HJ : Hid (∀ v W, IsRow W 1 v (D.map shP).length (V.sCells (D.map shP)) → Calls Tryz.prog 47 #[v, .string ⟨#[32, 97, 110, 100, 32]⟩] W fun e w' => e = .returned (.string (str (Lib.join (D.map shP) [32, 97, 110, 100, 32]))) ∧ Below W.heap.size W w') := fun v W h => V.join5_any v (D.map shP) W h (by rw [List.length_map]; omega) hJ'
    have HR : Hid (∀ W, Below w.heap.size w W → IsRow W 3 (.slice a0 F.length cap0) F.length (pCells F)) := fun W hb => hr.1.below hb
    have HDk : Hid (∀ (k : Nat) (hk : k < F.length), ∃ hk' : k < D.length, D[k] = F[k].y) := fun k hk => by subst hD; exact ⟨by simpa using hk, by simp⟩
    have HDl : Hid (D.length = F.length) := hDl
    rw [e0]
    generalize str (Lib.join (D.map shP) [32, 97, 110, 100, 32]) = RES at *
    clear hr hn e0 hc hs hJ hT hs' hJ' h0 hDl hD
    obtain ⟨i0, hi0, hz0, hz1, hz2⟩ := info_parts info_strF
    have hb2 : i0.bytes * F.length ≤ 281474976710656 := by rw [hz2]; omega
    have hb3 : F.length ≤ maxLen := by unfold maxLen; omega
    go_enter Tryz.func27, Tryz.ntmps27
    go_wp2_with fail
    refine HCk.out.mono ?_
    rintro e w0 ⟨rfl, hb0⟩
    have hs0 := hb0.size
    clear HCk
    go_wp2_with (at_make; go_loud (refine wpList_make_own _ rfl (.const (.int .i64 0)) (.tmp 13) 93 rfl w.heap.size 9 i0 _ 1 Tryz.underlying93 hi0 hz0 hz1 .i64 .i64 _ F.length rfl rfl rfl hb2 hb3 (by omega) ?_; intro w1 hown1 hg1))
    have hB1 : Below w.heap.size w w1 := hb0.trans ((Below.refl _ _).grown hg1 hs0 (fun k hk => by cases hk))
    clear hg1 hb0 hs0
    go_wp2_with fail
    go_loopw [3, 17] (fun o i wr => ∃ k : Nat, k ≤ F.length ∧ i = .int .i64 (k : Int) ∧ wr.ownsRow w.heap.size 9 1 o k (V.sCells ((D.take k).map shP)) ∧ Below w.heap.size w wr) (fun _ i _ => F.length - (intOf i).toNat)
    case atStart => exact ⟨0, Nat.zero_le _, rfl, hown1, hB1⟩
    case round =>
      obtain ⟨k, hkl, rfl, hown, hB⟩ := hrel
      have hsz := hB.size
      by_cases hlk : k < F.length
      · have dk : decide ((k : Int) < F.length) = true := by simp; omega
        obtain ⟨b, off, rfl, hlt, c0, c1, c2⟩ := p_at (HR.out wr hB) k hlk
        have HSh : Hid (∀ W, Below w.heap.size w W → Calls Tryz.prog 46 #[prV F[k]] W fun e w' => e = .returned (.string (str (shP F[k].y))) ∧ Below W.heap.size W w') := fun W hb => HK.out k hlk W hb
        have HT : Hid (V.sCells ((D.take (k + 1)).map shP) = V.sCells ((D.take k).map shP) ++ [.string (str (shP F[k].y))]) := by
          obtain ⟨hk', e⟩ := HDk.out k hlk
          show _ = _
          rw [← e]
          exact sT_p D k hk'
        have q1 : (0 : Int) ≤ (k : Int) := by omega
        have q2 : (k : Int) < (F.length : Int) := by omega
        generalize str (shP (F[k]'hlk).y) = z at *
        generalize F[k]'hlk = x at *
        obtain ⟨⟨pn, po, pl⟩, pa, pc⟩ := x
        dsimp only [prV, PR.v] at c0 c1 c2 HSh
        have HO : Hid (wr.ownsRow w.heap.size 9 1 u3 k (V.sCells ((D.take k).map shP))) := hown
        clear hown HK HJ
        have hA := al_f wr (.cells #[.string pn, .int .i64 po, .slice pa pl.length pc] 45)
        go_wp2_with fail
        refine (HSh.out _ (hB.trans (hA.mono hsz))).mono ?_
        rintro e w3 ⟨rfl, hb3⟩
        have hB3 : Below wr.heap.size wr w3 := hA.trans (hb3.mono (by simp))
        have hs3 := hB3.size
        have HO3 : Hid (w3.ownsRow w.heap.size 9 1 u3 k (V.sCells ((D.take k).map shP))) := own_belowE HO.out hB3
        have HW3 : Hid (Below w.heap.size w w3) := hB.trans (hB3.mono hsz)
        clear HSh HO hB hA hb3 hB3 c0 c1 c2
        go_wp2_with (at_builtin; go_loud (refine wpl_app w3 rfl (.tmp 21) (.tmp 24) 93 9 rfl i0 _ 16 Tryz.underlying93 hi0 hz0 hz1 hz2 rfl w.heap.size u3 k _ rfl HO3.out (.string z) rfl rfl (by omega) (by unfold maxLen; omega) (by omega) ?_; intro v4 w4 hown4 hb4 hne4))
        have HO4 : Hid (w4.ownsRow w.heap.size 9 1 v4 (k + 1) (V.sCells ((D.take (k + 1)).map shP))) := by show World.ownsRow _ _ _ _ _ _ _; rw [HT.out]; exact hown4
        have HB4 : Hid (Below w.heap.size w w4) := HW3.out.trans hb4
        clear hown4 hb4 HT HO3 HW3
        go_wp2
        go_roundw
        case rel => exact ⟨k + 1, by omega, by simp, HO4.out, HB4.out⟩
        case measure => simp [intOf]; omega
      · have hk' : k = F.length := by omega
        subst hk'
        have dk : decide ((F.length : Int) < F.length) = false := by simp
        rw [List.take_of_length_le (by rw [HDl.out]; exact Nat.le_refl _)] at hown
        have HO : Hid (wr.ownsRow w.heap.size 9 1 u3 F.length (V.sCells (D.map shP))) := hown
        clear hown HK
        go_wp2_with fail
        refine (HJ.out u3 wr (by rw [List.length_map, HDl.out]; exact IsRow.own HO.out)).mono ?_
        rintro e w2 ⟨rfl, hb2⟩
        have HB : Hid (Below w.heap.size w w2) := hB.trans (hb2.mono hsz)
        clear hb2 hB
        go_wp2
        go_ret
        exact ⟨rfl, HB.out⟩
end Go.Proofs.YtbekpemidpngaaaGreatDoor
/- Literals, read: which value stands at the front of a text, what stands behind it, or the error. Plain, of no program. -/
namespace Go.Proofs.YtbekpemidpngaaaGreatDoor.V
open Go.Lib
set_option maxRecDepth 100000

/-- What reading a literal answers: the value's kind, number and bytes; what stands behind it; the error. -/
structure Sc where
  k : Int
  n : Int
  s : List UInt8
  r : List UInt8
  e : Int
abbrev Sc.bad (e : Int) : Sc := ⟨0, 0, [], [], e⟩

def isD (b : UInt8) : Bool := decide (48 ≤ b.toNat ∧ b.toNat ≤ 57)
/-- The digits at the front. -/
def digs (l : List UInt8) : List UInt8 := l.takeWhile isD
def numOf (l : List UInt8) : Nat := l.foldl (fun n b => 10 * n + (b.toNat - 48)) 0
def scI (neg : Bool) (l : List UInt8) : Sc :=
  if digs l = [] ∨ ((digs l).head? = some 48 ∧ (neg = true ∨ 1 < (digs l).length)) then .bad 3
  else if 16 < (digs l).length ∨ 9007199254740991 < numOf (digs l) then .bad 2
  else ⟨1, if neg = true then -(numOf (digs l) : Int) else numOf (digs l), [], l.drop (digs l).length, 0⟩

/-- A digit of 0 to 9, a to f. -/
def hxd (b : UInt8) : Option Nat := if 48 ≤ b.toNat ∧ b.toNat ≤ 57 then some (b.toNat - 48) else if 97 ≤ b.toNat ∧ b.toNat ≤ 102 then some (b.toNat - 87) else none
/-- The bytes that pairs of digits say, up to the closing mark, and what stands behind that. -/
def hxs : List UInt8 → Option (List UInt8 × List UInt8)
  | [] => none
  | [a] => if a = 39 then some ([], []) else none
  | a :: b :: t => if a = 39 then some ([], b :: t) else
    match hxd a, hxd b with
    | some x, some y => (hxs t).map fun p => (UInt8.ofNat (16 * x + y) :: p.1, p.2)
    | _, _ => none
/-- The same, of the digits alone. -/
def hxp : List UInt8 → Option (List UInt8)
  | [] => some []
  | [_] => none
  | a :: b :: t =>
    match hxd a, hxd b with
    | some x, some y => (hxp t).map fun p => UInt8.ofNat (16 * x + y) :: p
    | _, _ => none
def scX (l : List UInt8) : Sc :=
  match hxs l with
  | none => .bad 3
  | some p => if 200 < p.1.length then .bad 2 else ⟨4, 0, p.1, p.2, 0⟩

/-- The rune whose writing with a back stroke stands at the front. -/
def escL (l : List UInt8) : Option Nat := (List.range 128).find? fun c => decide ((shR c).head? = some 92) && (shR c).isPrefixOf l
/-- The rune at the front of what stands within a text's literal, and how many bytes it is written in. -/
def runeL (l : List UInt8) : Option (Nat × Nat) :=
  if l.head? = some 92 then (escL l).map fun c => (c, (shR c).length)
  else if l = [] ∨ ((decodeL l).1 = 65533 ∧ (decodeL l).2 = 1) ∨ (decodeL l).1 < 32 ∨ (decodeL l).1 = 127 then none else some (decodeL l)
def txGo : Nat → List UInt8 → List UInt8 → Option (List UInt8 × List UInt8)
  | 0, _, _ => none
  | n + 1, acc, l => if l.head? = some 34 then some (acc, l.drop 1) else
    match runeL l with
    | none => none
    | some p => txGo n (acc ++ enc p.1) (l.drop p.2)
/-- The bytes that a text's literal says, behind others, up to the closing mark, and what stands behind that. -/
def txs (acc l : List UInt8) : Option (List UInt8 × List UInt8) := txGo (l.length + 1) acc l
def scT (l : List UInt8) : Sc :=
  match txs [] l with
  | none => .bad 3
  | some p => if 200 < p.1.length then .bad 2 else ⟨2, 0, p.1, p.2, 0⟩

/-- Does a word go on at the front? -/
def goesL (l : List UInt8) : Bool := letterN (decodeL l).1 || (decide (48 ≤ (decodeL l).1 ∧ (decodeL l).1 ≤ 57) || ((decodeL l).1 == 95 || (decodeL l).1 == 45))
def scB (n : Int) (l : List UInt8) : Sc := if goesL l = true then .bad 3 else ⟨3, n, [], l, 0⟩
def scn (l : List UInt8) : Sc :=
  if hasPrefix l [34] = true then scT (l.drop 1)
  else if hasPrefix l [120, 39] = true then scX (l.drop 2)
  else if hasPrefix l [116, 114, 117, 101] = true then scB 1 (l.drop 4)
  else if hasPrefix l [102, 97, 108, 115, 101] = true then scB 0 (l.drop 5)
  else if hasPrefix l [45] = true then scI true (l.drop 1) else scI false l

/-! ### digits -/
theorem isD_mem : ∀ b : UInt8, isD b = [48, 49, 50, 51, 52, 53, 54, 55, 56, 57].contains b := by
  intro b
  have key : ∀ n : Fin 256, isD (UInt8.ofNat n.val) = [48, 49, 50, 51, 52, 53, 54, 55, 56, 57].contains (UInt8.ofNat n.val) := by decide +kernel
  have := key ⟨b.toNat, UInt8.toNat_lt b⟩
  simpa using this
theorem digs_drop (l : List UInt8) : l.drop (digs l).length = l.dropWhile isD := by
  unfold digs
  induction l with
  | nil => rfl
  | cons b t ih =>
    by_cases h : isD b = true
    · rw [List.takeWhile_cons_of_pos h, List.dropWhile_cons_of_pos h]
      exact ih
    · rw [List.takeWhile_cons_of_neg h, List.dropWhile_cons_of_neg h]
      rfl
theorem digs_app (l : List UInt8) : digs l ++ l.dropWhile isD = l := List.takeWhile_append_dropWhile
theorem digs_all (l : List UInt8) : ∀ b ∈ digs l, isD b = true := fun b hb => by
  unfold digs at hb
  have h := List.all_takeWhile (p := isD) (l := l)
  exact List.all_eq_true.1 h b hb
theorem numOf_snoc (l : List UInt8) (b : UInt8) : numOf (l ++ [b]) = 10 * numOf l + (b.toNat - 48) := by
  unfold numOf
  rw [List.foldl_append]
  rfl
theorem numOf_lt : ∀ (m : Nat) (l : List UInt8), l.length = m → (∀ b ∈ l, isD b = true) → numOf l < 10 ^ m
  | 0, l, h, _ => by
    obtain rfl : l = [] := List.eq_nil_of_length_eq_zero h
    decide
  | m + 1, l, h, hd => by
    obtain ⟨i, b, rfl⟩ : ∃ i b, l = i ++ [b] := by
      have hne : l ≠ [] := fun e => by subst e; simp at h
      exact ⟨l.dropLast, l.getLast hne, (List.dropLast_concat_getLast hne).symm⟩
    have h1 := numOf_lt m i (by simpa using h) (fun x hx => hd x (List.mem_append_left _ hx))
    have h2 := hd b (by simp)
    simp only [isD, decide_eq_true_eq] at h2
    rw [numOf_snoc, Nat.pow_succ]
    omega
end Go.Proofs.YtbekpemidpngaaaGreatDoor.V
