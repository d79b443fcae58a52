/- filter, where its predicates are read: a walk. -/
import Derived.Test.YtjamkfkbajhefaaGreatDoorZk10
import Derived.Deep.AppendLies
import Derived.Test.YtjamkfkbajhefaaGreatDoorZk8
import Derived.Lib.Strings
import Derived.Lib.Bytealg
namespace Go.Proofs.YtjamkfkbajhefaaGreatDoor.F
open Go.RowKit

/-- A predicate. -/
structure Pd where
  n : ByteArray
  o : Int
  l : List It
/-- A predicate, where its values lie. -/
structure PR where
  y : Pd
  a : Option Addr
  c : Nat
abbrev PR.v (x : PR) : Value := .slice x.a x.y.l.length x.c
def enP (x : PR) : List Value := [.string x.y.n, .int .i64 x.y.o, x.v]
def pCells (F : List PR) : List Value := F.flatMap enP
theorem pCells_snoc (F : List PR) (x : PR) : pCells (F ++ [x]) = pCells F ++ enP x := by simp [pCells]
/-- A filter in memory. -/
def IsFl (w : World) (v : Value) (F : List PR) : Prop := IsRow w 3 v F.length (pCells F) ∧ ∀ x ∈ F, IsRow w 3 x.v x.y.l.length (itCells x.y.l)
theorem IsFl.below {w w' : World} {v : Value} {F : List PR} (h : IsFl w v F) (hb : Below w.heap.size w w') : IsFl w' v F := ⟨h.1.below hb, fun x hx => (h.2 x hx).below hb⟩
theorem row_grownBy {w w' : World} {r : Option Nat} (h : w.grownBy w' r) {sz : Nat} {a : Option Addr} {n c : Nat} {xs : List Value} (hr : IsRow w sz (.slice a n c) n xs) (hn : ∀ d, a = some d → r ≠ some d.block) : IsRow w' sz (.slice a n c) n xs := by
  refine ⟨hr.1, ?_⟩
  rcases hr.2 with q | ⟨b, off, cap, hv, hlt, hc, hm, hcell⟩
  · exact .inl q
  · simp only [Value.slice.injEq] at hv
    obtain ⟨h1, -, h2⟩ := hv
    subst h1 h2
    refine .inr ⟨b, off, c, rfl, Nat.lt_of_lt_of_le hlt h.size, hc, hm, fun j u hu => ?_⟩
    have hb := h.block b hlt (fun e => hn _ rfl e.symm)
    have := hcell j u hu
    unfold World.cell? at this ⊢
    rw [hb]
    exact this
theorem row_none {w w' : World} {sz : Nat} {a : Option Addr} {c : Nat} {xs : List Value} (hr : IsRow w sz (.slice a 0 c) 0 xs) : IsRow w' sz (.slice a 0 c) 0 xs := ⟨hr.1, .inl ⟨rfl, _, _, rfl⟩⟩
/-- A predicate's values are there, and apart from the reader and from a row. -/
def ElOk (B : Nat) (u : Option Nat) (W : World) (x : PR) : Prop := IsRow W 3 x.v x.y.l.length (itCells x.y.l) ∧ (x.y.l ≠ [] → ∀ d, x.a = some d → B < d.block ∧ u ≠ some d.block ∧ d.block < W.heap.size)
theorem ElOk.sr {R B : Nat} {u : Option Nat} {W W' : World} {x : PR} (h : ElOk B u W x) (hs : Sr R W W') (hR : R < B) : ElOk B u W' x := by
  obtain ⟨y, a, c⟩ := x
  by_cases hl : y.l = []
  · refine ⟨?_, fun h => absurd hl h⟩
    have h1 := h.1
    dsimp only [PR.v] at h1 ⊢
    rw [hl] at h1 ⊢
    exact row_none h1
  · exact ⟨hs.row h.1 (fun d hd => by have := (h.2 hl d hd).1; omega), fun _ d hd => ⟨(h.2 hl d hd).1, (h.2 hl d hd).2.1, Nat.lt_of_lt_of_le (h.2 hl d hd).2.2 hs.size⟩⟩
theorem ElOk.grown {B g : Nat} {u : Option Nat} {W W' : World} {x : PR} (h : ElOk B u W x) (hg : W.grownBy W' u) (hat : u = some g ∨ g = W.heap.size) : ElOk B (some g) W' x := by
  obtain ⟨y, a, c⟩ := x
  by_cases hl : y.l = []
  · refine ⟨?_, fun h => absurd hl h⟩
    have h1 := h.1
    dsimp only [PR.v] at h1 ⊢
    rw [hl] at h1 ⊢
    exact row_none h1
  · refine ⟨row_grownBy hg h.1 (fun d hd => (h.2 hl d hd).2.1), fun _ d hd => ?_⟩
    obtain ⟨h1, h2, h3⟩ := h.2 hl d hd
    refine ⟨h1, ?_, Nat.lt_of_lt_of_le h3 hg.size⟩
    rcases hat with rfl | rfl
    · exact h2
    · simp only [ne_eq, Option.some.injEq]
      omega
theorem ElOk.new {B0 : Nat} {u : Option Nat} {B : Nat} {W : World} {y : Pd} {a : Option Addr} {c : Nat} (hr : IsRow W 3 (.slice a y.l.length c) y.l.length (itCells y.l)) (hf : FrA B a) (hR : B0 < B) (hu : ∀ g, u = some g → g < B) : ElOk B0 u W ⟨y, a, c⟩ := by
  refine ⟨hr, fun hl d hd => ?_⟩
  have h1 := hf d hd
  refine ⟨by omega, fun e => ?_, ?_⟩
  · have := hu _ e
    omega
  · obtain ⟨b, off, cap, hv, hlt, -⟩ := hr.open (List.length_pos_iff.2 hl)
    simp only [Value.slice.injEq] at hv
    rw [hv.1] at hd
    cases hd
    exact hlt
theorem info_pr : (Tryz.prog.info? 59).map (fun i => (i.zero, i.size, i.bytes)) = some (some (.agg #[.string ⟨#[]⟩, .int .i64 0, .slice none 0 0]), 3, 48) := by kernel_rfl
def slcN : Value → Nat
  | .slice _ n _ => n
  | _ => 0
def FlQ (w0 : World) (R : Nat) (T : List Ft) (z : Int) (D : List Pd) (x y : Int) (w : World) (e : Ending) (w' : World) : Prop := ∃ a c F, e = .returned (.tuple #[.slice a D.length c, ftV x y]) ∧ IsFl w' (.slice a D.length c) F ∧ F.map (·.y) = D ∧ Sr R w w' ∧ Rd w0 R T z w'
set_option maxRecDepth 100000 in
set_option maxHeartbeats 4000000 in
theorem filter_ok (w0 : World) (R : Nat) (l : List Ft) (z : Int) (w : World) (h0 : Sr R w0 w) (h : Rd w0 R l z w) (hR : R < w0.heap.size) (hl : l.length ≤ 1000000) (hT : ∀ W, Sr R w0 W → FW W)
    (n : Nat) (hn1 : 1 ≤ n) (hn2 : n ≤ 12) (pc : Nat → Pc) (ls ms : Nat → List Ft) (D : Nat → Pd) (at_ : Nat → Int) (hq0 : pcF l z = pc 0) (hl0 : ls 0 = l.tail) (hok0 : PcOk (pc 0)) (hany : isW (pc 0) ⟨#[97, 110, 121]⟩ = false)
    (hP : ∀ j, j < n → ∀ W, Sr R w0 W → Rd w0 R (ls j) z W → Calls Tryz.prog 69 #[.pointer (some ⟨R, 0, none⟩), (pc j).v, .bool false] W fun e w' => PrQ w0 R (ms j) z (D j).n (D j).o ((D j).l, at_ j, 0) W e w')
    (hms : ∀ j, j < n → (ms j).length ≤ 1000000 ∧ PcOk (pcF (ms j) z)) (hand : ∀ j, j + 1 < n → isW (pcF (ms j) z) ⟨#[97, 110, 100]⟩ = true ∧ pc (j + 1) = pcF (ms j).tail z ∧ ls (j + 1) = (ms j).tail.tail) (hend : isW (pcF (ms (n - 1)) z) ⟨#[97, 110, 100]⟩ = false) :
    Calls Tryz.prog 37 #[.pointer (some ⟨R, 0, none⟩)] w fun e w' => FlQ w0 R (ms (n - 1)).tail z ((List.range n).map D) (endE (pcF (ms (n - 1)) z)).1 (endE (pcF (ms (n - 1)) z)).2 w e w' := by
  obtain ⟨i0, hi0, hz0, hz1, hz2⟩ := info_parts info_pr
  have HRl : Hid (R < w.heap.size) := Nat.lt_of_lt_of_le hR h0.size
  have HNx : Hid (∀ m W, m.length ≤ 1000000 → Sr R w0 W → Rd w0 R m z W → Calls Tryz.prog 66 #[.pointer (some ⟨R, 0, none⟩)] W fun e w' => e = .returned (pcF m z).v ∧ Sr R W w' ∧ Rd w0 R m.tail z w') := fun m W hm a b => next_any w0 R m z W a b hm
  have HIs : Hid (∀ (x : Pc) (u : ByteArray) W, PcOk x → u.size ≤ 1000000 → Sr R w0 W → Calls Tryz.prog 67 #[x.v, .string u] W fun e w' => e = .returned (.bool (isW x u)) ∧ Below W.heap.size W w') := fun x u W hx hu a => isWord_any x u W hx hu (hT W a).u
  have HEn : Hid (∀ (x : Pc) W, Calls Tryz.prog 68 #[x.v] W fun e w' => e = .returned (ftV (endE x).1 (endE x).2) ∧ Below W.heap.size W w') := fun x W => ended_any x W
  have HP : Hid (∀ j, j < n → ∀ W, Sr R w0 W → Rd w0 R (ls j) z W → Calls Tryz.prog 69 #[.pointer (some ⟨R, 0, none⟩), (pc j).v, .bool false] W fun e w' => PrQ w0 R (ms j) z (D j).n (D j).o ((D j).l, at_ j, 0) W e w') := hP
  have HMs : Hid (∀ j, j < n → (ms j).length ≤ 1000000 ∧ PcOk (pcF (ms j) z)) := hms
  have HAn : Hid (∀ j, j + 1 < n → isW (pcF (ms j) z) ⟨#[97, 110, 100]⟩ = true ∧ pc (j + 1) = pcF (ms j).tail z ∧ ls (j + 1) = (ms j).tail.tail) := hand
  have HEd : Hid (isW (pcF (ms (n - 1)) z) ⟨#[97, 110, 100]⟩ = false) := hend
  have H0 : Hid (Sr R w0 w) := h0
  have HR0 : Hid (Rd w0 R l z w) := h
  have HL0 : Hid (l.length ≤ 1000000 ∧ pcF l z = pc 0 ∧ ls 0 = l.tail ∧ PcOk (pc 0) ∧ isW (pc 0) ⟨#[97, 110, 121]⟩ = false) := ⟨hl, hq0, hl0, hok0, hany⟩
  obtain ⟨DD, hDD⟩ : ∃ DD, Hid ((List.range n).map D = DD) := ⟨_, rfl⟩
  have HDl : Hid (DD.length = n) := by show _ = _; rw [← hDD.out]; simp
  obtain ⟨LP, hLP⟩ : ∃ LP, Hid (pcF (ms (n - 1)) z = LP) := ⟨_, rfl⟩
  obtain ⟨TL, hTL⟩ : ∃ TL, Hid ((ms (n - 1)).tail = TL) := ⟨_, rfl⟩
  rw [hDD.out, hLP.out, hTL.out]
  obtain ⟨ea, hEa⟩ : ∃ x, Hid ((endE LP).1 = x) := ⟨_, rfl⟩
  obtain ⟨ee, hEe⟩ : ∃ x, Hid ((endE LP).2 = x) := ⟨_, rfl⟩
  rw [hEa.out, hEe.out]
  clear h0 h hR hl hT hq0 hl0 hok0 hany hP hms hand hend
  obtain ⟨w1, hw1⟩ : ∃ w1, w1 = w.alloc (.cells #[.int .i64 0, .int .i64 0] 83) := ⟨_, rfl⟩
  have B1 : Hid (Sr R w w1) := by show Sr _ _ _; rw [hw1]; exact Sr.of (al_f _ _)
  have hn1 : w1.heap[w.heap.size]? = some (.cells #[.int .i64 0, .int .i64 0] 83 (0, 0)) := by rw [hw1]; exact nw_at _ _
  have N1 : Hid (R < w.heap.size) := HRl.out
  have C1 : Hid (∀ W, Sr R w1 W → W.heap[w.heap.size]? = some (.cells #[.int .i64 0, .int .i64 0] 83 (0, 0))) := fun W h => h.box hn1 (Nat.ne_of_gt N1.out)
  clear hn1
  have HR1 : Hid (Rd w0 R l z w1) := by show Rd _ _ _ _ _; rw [hw1]; exact HR0.out.al _
  have hx1 : Hid (w1.heap.size = w.heap.size + 1) := by show _ = _; rw [hw1]; simp
  have HRb : Hid (R < w1.heap.size) := Nat.lt_of_lt_of_le HRl.out B1.out.size
  go_enter Tryz.func37, Tryz.ntmps37
  go_wp2_with fail
  rw [← hw1]
  clear hw1
  refine (HNx.out l _ HL0.out.1 (H0.out.trans B1.out) HR1.out).mono ?_
  rintro e w2 ⟨rfl, hb, hrd⟩
  have B2 : Hid (Sr R w1 w2) := hb
  clear hb 
  have HRd2 : Hid (Rd w0 R (ls 0) z w2) := by show Rd _ _ _ _ _; rw [HL0.out.2.2.1]; exact hrd
  clear hrd
  rw [HL0.out.2.1]
  go_wp2_with fail
  have HI0 := HIs.out (pc 0) ⟨#[97, 110, 121]⟩ w2 HL0.out.2.2.2.1 (by decide) (H0.out.trans (B1.out.trans B2.out))
  rw [HL0.out.2.2.2.2] at HI0
  refine HI0.mono ?_
  clear HI0
  rintro e w3 ⟨rfl, hb⟩
  have HRd3 : Hid (Rd w0 R (ls 0) z w3) := HRd2.out.below hb
  have B3 : Hid (Sr R w2 w3) := Sr.of hb
  clear hb
  have HS3 : Hid (Sr R w1 w3) := (B2.out.trans B3.out)
  clear HRd2 HR1 HR0 B2 B3
  go_wp2_with fail
  go_loopw [2, 4] (fun u p wr => ∃ k F, k < n ∧ F.length = k ∧ Hid (F.map (·.y) = (List.range k).map D) ∧ p = (pc k).v ∧ Hid (wr.ownsRow w1.heap.size 59 3 u k (pCells F)) ∧ Hid (∀ x ∈ F, ElOk w.heap.size u.ownBlock wr x) ∧ Hid (Sr R w1 wr) ∧ Hid (Rd w0 R (ls k) z wr)) (fun u _ _ => n - slcN u)
  case atStart => exact ⟨0, [], by omega, rfl, rfl, rfl, World.ownsRow_nil _ _ _ _, (fun x hx => by cases hx), HS3.out, HRd3.out⟩
  case round =>
    obtain ⟨k, F, hk, hFk, HMp, rfl, HO, HE, HB, HRd⟩ := hrel
    clear HS3 HRd3
    obtain ⟨ua, uc, huf⟩ := (IsRow.own HO.out).form
    subst huf
    have HOb : Hid (∀ g, (Value.slice ua k uc).ownBlock = some g → w1.heap.size ≤ g ∧ g < wr.heap.size) := fun g hg => HO.out.lt g hg
    have HBw : Hid (Sr R w wr) := B1.out.trans HB.out
    have d12 : decide ((k : Int) = 12) = false := decide_eq_false (by omega)
    have d12b : ((k : Int) == 12) = false := by simp; omega
    have HPk : Hid (∀ W, Sr R w0 W → Rd w0 R (ls k) z W → Calls Tryz.prog 69 #[.pointer (some ⟨R, 0, none⟩), (pc k).v, .bool false] W fun e w' => PrQ w0 R (ms k) z (D k).n (D k).o ((D k).l, at_ k, 0) W e w') := HP.out k hk
    obtain ⟨Y, hY⟩ : ∃ Y, Hid (D k = Y) := ⟨_, rfl⟩
    rw [hY.out] at HPk
    obtain ⟨Dn, Do, Dl⟩ := Y
    dsimp only at HPk
    go_wp2_with fail
    refine (HPk.out _ (H0.out.trans HBw.out) HRd.out).mono ?_
    rintro e w5 ⟨aa, ca, rfl, hr, hfa, hb, hrd⟩
    have HRd5 : Hid (Rd w0 R (ms k) z w5) := hrd
    have B5 : Hid (Sr R wr w5) := hb
    have HEn5 : Hid (ElOk w.heap.size (Value.slice ua k uc).ownBlock w5 ⟨⟨Dn, Do, Dl⟩, aa, ca⟩) := ElOk.new (y := ⟨Dn, Do, Dl⟩) hr hfa (by have h1 := HB.out.size; have h2 := hx1.out; omega) (fun g hg => (HOb.out g hg).2)
    have HE5 : Hid (∀ x ∈ F, ElOk w.heap.size (Value.slice ua k uc).ownBlock w5 x) := fun x hx => (HE.out x hx).sr hb HRl.out
    have HO5 : Hid (w5.ownsRow w1.heap.size 59 3 (.slice ua k uc) k (pCells F)) := own_sr HO.out hb HRb.out
    have HB5 : Hid (Sr R w1 w5) := HB.out.trans hb
    clear hr hfa hb hrd HPk HE HO HRd HB
    obtain ⟨w6, hw6⟩ : ∃ w6, w6 = w5.alloc (.cells #[.string Dn, .int .i64 Do, .slice aa Dl.length ca] 59) := ⟨_, rfl⟩
    obtain ⟨w7, hw7⟩ : ∃ w7, w7 = w6.alloc (.cells #[.int .i64 (at_ k), .int .i64 0] 83) := ⟨_, rfl⟩
    have hb6 : Below w5.heap.size w5 w6 := by rw [hw6]; exact al_f _ _
    have hb7 : Below w6.heap.size w6 w7 := by rw [hw7]; exact al_f _ _
    have hk6 : w7.heap[w5.heap.size]? = some (.cells #[.string Dn, .int .i64 Do, .slice aa Dl.length ca] 59 (0, 0)) := by
      have h6 : w6.heap[w5.heap.size]? = some (.cells #[.string Dn, .int .i64 Do, .slice aa Dl.length ca] 59 (0, 0)) := by rw [hw6]; exact nw_at _ _
      exact (hb7.block _ (Array.getElem?_eq_some_iff.1 h6).1).trans h6
    have hk7 : w7.heap[w5.heap.size + 1]? = some (.cells #[.int .i64 (at_ k), .int .i64 0] 83 (0, 0)) := by rw [hw7, show w5.heap.size + 1 = w6.heap.size by (rw [hw6]; simp)]; exact nw_at _ _
    have hB57 : Below w5.heap.size w5 w7 := hb6.trans (hb7.mono hb6.size)
    have HRd7 : Hid (Rd w0 R (ms k) z w7) := HRd5.out.below hB57
    have HEn7 : Hid (ElOk w.heap.size (Value.slice ua k uc).ownBlock w7 ⟨⟨Dn, Do, Dl⟩, aa, ca⟩) := HEn5.out.sr (Sr.of hB57) HRl.out
    have HE7 : Hid (∀ x ∈ F, ElOk w.heap.size (Value.slice ua k uc).ownBlock w7 x) := fun x hx => (HE5.out x hx).sr (Sr.of hB57) HRl.out
    have HO7 : Hid (w7.ownsRow w1.heap.size 59 3 (.slice ua k uc) k (pCells F)) := own_sr HO5.out (Sr.of hB57) HRb.out
    have HB7 : Hid (Sr R w1 w7) := HB5.out.trans (Sr.of hB57)
    have c6_0 : w7.cell? ⟨w5.heap.size, 0, none⟩ = some (.string Dn) := by rw [Lib.cell_of_heap hk6]; rfl
    have c6_1 : w7.cell? ⟨w5.heap.size, 1, none⟩ = some (.int .i64 Do) := by rw [Lib.cell_of_heap hk6]; rfl
    have c6_2 : w7.cell? ⟨w5.heap.size, 2, none⟩ = some (.slice aa Dl.length ca) := by rw [Lib.cell_of_heap hk6]; rfl
    have c7_0 : w7.cell? ⟨w5.heap.size + 1, 0, none⟩ = some (.int .i64 (at_ k)) := by rw [Lib.cell_of_heap hk7]; rfl
    have c7_1 : w7.cell? ⟨w5.heap.size + 1, 1, none⟩ = some (.int .i64 0) := by rw [Lib.cell_of_heap hk7]; rfl
    have HK6 : Hid (w7.heap[w5.heap.size]? = some (.cells #[.string Dn, .int .i64 Do, .slice aa Dl.length ca] 59 (0, 0))) := hk6
    clear hb6 hb7 hk6 hk7 hB57 HRd5 HEn5 HE5 HO5 HB5
    rw [hw7, hw6] at c7_0 c7_1
    go_upto_region 7 with fail
    rw [← hw6, ← hw7]
    clear hw6 hw7 c7_0 c7_1
    have hle7 : w1.heap.size ≤ w7.heap.size := HB7.out.size
    have HAl : Hid (w7.alloc (.cells #[.string Dn, .int .i64 Do, .slice aa Dl.length ca] 59) = w7.alloc (.cells #[.string Dn, .int .i64 Do, .slice aa Dl.length ca] 59)) := rfl
    go_wp2_with (at_builtin; go_loud (refine wpList_append_lies _ rfl (.tmp 27) (.tmp 29) 23 rfl w1.heap.size 59 i0 _ 3 48 Tryz.underlying23 hi0 hz0 hz1 hz2 rfl (by decide) (.slice ua k uc) k (pCells F) rfl (HO7.out.alloc _) ⟨w7.heap.size, 0, none⟩ 1 1 [.string Dn, .int .i64 Do, .slice aa Dl.length ca] rfl rfl (World.news_of_block (cs := #[.string Dn, .int .i64 Do, .slice aa Dl.length ca]) (t := 59) (fr := (0, 0)) (nw_at w7 _)) (by intro u hu; simp at hu; rcases hu with rfl | rfl | rfl <;> rfl) (by omega) (by unfold maxLen; omega) (by omega) (by simp; omega) (w7.heap.size + 1) (by simp) ?_); intro gg cap wa hown hgr hat hlt)
    have HO8 : Hid (wa.ownsRow w1.heap.size 59 3 (.slice (some ⟨gg, 0, none⟩) (k + 1) cap) (k + 1) (pCells (F ++ [⟨⟨Dn, Do, Dl⟩, aa, ca⟩]))) := by
      show World.ownsRow _ _ _ _ _ _ _
      rw [pCells_snoc]
      exact hown
    have hat' : (Value.slice ua k uc).ownBlock = some gg ∨ gg = (w7.alloc (.cells #[.string Dn, .int .i64 Do, .slice aa Dl.length ca] 59)).heap.size := by
      rcases hat with q | q
      · exact .inl q
      · exact .inr (by rw [q]; simp)
    have HE8 : Hid (∀ x ∈ F ++ [⟨⟨Dn, Do, Dl⟩, aa, ca⟩], ElOk w.heap.size (some gg) wa x) := fun x hx => by
      have h9 : ElOk w.heap.size (Value.slice ua k uc).ownBlock w7 x := by
        rcases List.mem_append.1 hx with hx | hx
        · exact HE7.out x hx
        · have e := List.mem_singleton.1 hx
          subst e
          exact HEn7.out
      exact (h9.sr (Sr.of (al_f w7 _)) HRl.out).grown hgr hat'
    have HB8 : Hid (Sr R w1 wa) := by
      have h1 : Sr R w1 (w7.alloc (.cells #[.string Dn, .int .i64 Do, .slice aa Dl.length ca] 59)) := HB7.out.al _
      refine Sr.app h1 ⟨hgr.os, hgr.tape, hgr.output, hgr.size, fun i hi => hgr.block i (Nat.lt_of_lt_of_le hi h1.size) (fun e => ?_)⟩
      have := (HOb.out i e.symm).1
      omega
    have HRd8 : Hid (Rd w0 R (ms k) z wa) := by
      have hlt1 : R < w7.heap.size := Nat.lt_of_lt_of_le HRb.out hle7
      refine (HRd7.out.al (.cells #[.string Dn, .int .i64 Do, .slice aa Dl.length ca] 59)).keep (hgr.block R (by simp; omega) (fun e => ?_))
      have := (HOb.out R e.symm).1
      have h2 := HRb.out
      omega
    have HMp8 : Hid ((F ++ [(⟨⟨Dn, Do, Dl⟩, aa, ca⟩ : PR)]).map (·.y) = (List.range (k + 1)).map D) := by
      show _ = _
      rw [List.map_append, HMp.out, List.range_succ, List.map_append]
      simp [hY.out]
    have HL8 : Hid ((F ++ [(⟨⟨Dn, Do, Dl⟩, aa, ca⟩ : PR)]).length = k + 1) := by show _ = _; simp [hFk]
    clear hown hgr hat hat' hlt hle7 HE7 HEn7 HO7 HB7 HRd7 HK6 HAl c6_0 c6_1 c6_2 HMp hFk HOb HBw
    generalize F ++ [(⟨⟨Dn, Do, Dl⟩, aa, ca⟩ : PR)] = FF at *
    have HBw8 : Hid (Sr R w wa) := B1.out.trans HB8.out
    refine (HNx.out (ms k) _ (HMs.out k hk).1 (H0.out.trans HBw8.out) HRd8.out).mono ?_
    rintro e w9 ⟨rfl, hb, hrd⟩
    have HO9 : Hid (w9.ownsRow w1.heap.size 59 3 (.slice (some ⟨gg, 0, none⟩) (k + 1) cap) (k + 1) (pCells FF)) := own_sr HO8.out hb HRb.out
    have HE9 : Hid (∀ x ∈ FF, ElOk w.heap.size (some gg) w9 x) := fun x hx => (HE8.out x hx).sr hb HRl.out
    have HB9 : Hid (Sr R w1 w9) := HB8.out.trans hb
    have HRd9 : Hid (Rd w0 R (ms k).tail z w9) := hrd
    have HBw9 : Hid (Sr R w w9) := HBw8.out.trans hb
    clear hb hrd HO8 HE8 HB8 HRd8 HBw8
    go_wp2_with fail
    refine (HIs.out (pcF (ms k) z) ⟨#[97, 110, 100]⟩ w9 (HMs.out k hk).2 (by decide) (H0.out.trans HBw9.out)).mono ?_
    rintro e w10 ⟨rfl, hb⟩
    have HO10 : Hid (w10.ownsRow w1.heap.size 59 3 (.slice (some ⟨gg, 0, none⟩) (k + 1) cap) (k + 1) (pCells FF)) := own_sr HO9.out (Sr.of hb) HRb.out
    have HE10 : Hid (∀ x ∈ FF, ElOk w.heap.size (some gg) w10 x) := fun x hx => (HE9.out x hx).sr (Sr.of hb) HRl.out
    have HB10 : Hid (Sr R w1 w10) := HB9.out.trans (Sr.of hb)
    have HRd10 : Hid (Rd w0 R (ms k).tail z w10) := HRd9.out.below hb
    have HBw10 : Hid (Sr R w w10) := HBw9.out.trans (Sr.of hb)
    clear hb HO9 HE9 HB9 HRd9 HBw9
    by_cases hkn : k + 1 < n
    · obtain ⟨a1, a2, a3⟩ := HAn.out k hkn
      rw [a1]
      have HA3 : Hid (pc (k + 1) = pcF (ms k).tail z ∧ ls (k + 1) = (ms k).tail.tail) := ⟨a2, a3⟩
      clear a1 a2 a3
      have hml : (ms k).tail.length ≤ 1000000 := by
        have := (HMs.out k hk).1
        simp
        omega
      go_wp2_with fail
      refine (HNx.out (ms k).tail _ hml (H0.out.trans HBw10.out) HRd10.out).mono ?_
      rintro e w11 ⟨rfl, hb, hrd⟩
      have HEnd : Hid (∃ k' F', k' < n ∧ F'.length = k' ∧ Hid (F'.map (·.y) = (List.range k').map D) ∧ (pcF (ms k).tail z).v = (pc k').v ∧ Hid (w11.ownsRow w1.heap.size 59 3 (.slice (some ⟨gg, 0, none⟩) (k + 1) cap) k' (pCells F')) ∧ Hid (∀ x ∈ F', ElOk w.heap.size (Value.slice (some ⟨gg, 0, none⟩) (k + 1) cap).ownBlock w11 x) ∧ Hid (Sr R w1 w11) ∧ Hid (Rd w0 R (ls k') z w11)) :=
        ⟨k + 1, FF, hkn, HL8.out, HMp8.out, by rw [HA3.out.1], own_sr HO10.out hb HRb.out, fun x hx => (HE10.out x hx).sr hb HRl.out, HB10.out.trans hb, by show Rd _ _ _ _ _; rw [HA3.out.2]; exact hrd⟩
      clear hb hrd
      go_wp2
      go_roundw
      case rel => exact HEnd.out
      case measure => simp [slcN]; omega
    · obtain rfl : k = n - 1 := by omega
      have hn' : n - 1 + 1 = n := by omega
      rw [HEd.out, hLP.out]
      go_wp2_with fail
      have HEL := HEn.out LP w10
      rw [hEa.out, hEe.out] at HEL
      refine HEL.mono ?_
      clear HEL
      rintro e w11 ⟨rfl, hb⟩
      have HF11 : Hid (F2 w.heap.size 0 0 w11) := F2.of (C1.out w11 (HB10.out.trans (Sr.of hb)))
      have HS11 : Hid (Sr R w w11) := HBw10.out.trans (Sr.of hb)
      have HR11 : Hid (Rd w0 R TL z w11) := by show Rd _ _ _ _ _; rw [← hTL.out]; exact HRd10.out.below hb
      have HO11 : Hid (w11.ownsRow w1.heap.size 59 3 (.slice (some ⟨gg, 0, none⟩) (n - 1 + 1) cap) (n - 1 + 1) (pCells FF)) := own_sr HO10.out (Sr.of hb) HRb.out
      have HE11 : Hid (∀ x ∈ FF, ElOk w.heap.size (some gg) w11 x) := fun x hx => (HE10.out x hx).sr (Sr.of hb) HRl.out
      clear hb HO10 HE10 HB10 HRd10 HBw10
      have HMp9 : Hid (FF.map (·.y) = DD) := by show _ = _; rw [HMp8.out, hn', hDD.out]
      have HL9 : Hid (DD.length = n - 1 + 1) := by show _ = _; rw [HDl.out, hn']
      have HEnd : Hid (FlQ w0 R TL z DD ea ee w (.returned (.tuple #[.slice (some ⟨gg, 0, none⟩) (n - 1 + 1) cap, ftV ea ee])) ((w11.setCell ⟨w.heap.size, 0, none⟩ (.int .i64 ea)).setCell ⟨w.heap.size, 1, none⟩ (.int .i64 ee))) := by
        have hgne : gg ≠ w.heap.size := by
          have h1 := (HO11.out.lt gg rfl).1
          have h2 := hx1.out
          omega
        have s1 : Sr w.heap.size w11 (w11.setCell ⟨w.heap.size, 0, none⟩ (.int .i64 ea)) := Sr.setf _ _ _
        have s2 : Sr w.heap.size (w11.setCell ⟨w.heap.size, 0, none⟩ (.int .i64 ea)) ((w11.setCell ⟨w.heap.size, 0, none⟩ (.int .i64 ea)).setCell ⟨w.heap.size, 1, none⟩ (.int .i64 ee)) := Sr.setf _ _ _
        refine ⟨some ⟨gg, 0, none⟩, cap, FF, by rw [HL9.out], ⟨?_, fun x hx => ?_⟩, HMp9.out, (HS11.out.set (.inr (Nat.le_refl _)) 0 _).set (.inr (Nat.le_refl _)) 1 _, (HR11.out.set HRl.out 0 _).set HRl.out 1 _⟩
        · have hl : FF.length = DD.length := by rw [HL9.out]; exact HL8.out
          rw [hl, HL9.out]
          exact (s1.trans s2).row (IsRow.own HO11.out) (fun d hd => by cases hd; exact hgne)
        · have h9 := HE11.out x hx
          obtain ⟨y, a, c⟩ := x
          by_cases hl : y.l = []
          · have h1 := h9.1
            dsimp only [PR.v] at h1 ⊢
            rw [hl] at h1 ⊢
            exact row_none h1
          · refine (s1.trans s2).row h9.1 (fun d hd => ?_)
            have := (h9.2 hl d hd).1
            omega
      obtain ⟨f0, f1, ff, -⟩ := HF11.out
      go_wp2
      refine bodyPost_ret (v := .tuple #[.slice (some ⟨gg, 0, none⟩) (n - 1 + 1) cap, ftV ea ee]) ?_ rfl HEnd.out
      rw [results_tc rfl]; go_simp
end Go.Proofs.YtjamkfkbajhefaaGreatDoor.F
/- Literals, read: which value stands at the front of a text, what stands behind it, or the error. Plain, of no program. -/
namespace Go.Proofs.YtjamkfkbajhefaaGreatDoor.V
open Go.Lib
set_option maxRecDepth 100000

/-- What reading a literal answers: the value's kind, number and bytes; what stands behind it; the error. -/
structure Sc where
  k : Int
  n : Int
  s : List UInt8
  r : List UInt8
  e : Int
abbrev Sc.bad (e : Int) : Sc := ⟨0, 0, [], [], e⟩

def isD (b : UInt8) : Bool := decide (48 ≤ b.toNat ∧ b.toNat ≤ 57)
/-- The digits at the front. -/
def digs (l : List UInt8) : List UInt8 := l.takeWhile isD
def numOf (l : List UInt8) : Nat := l.foldl (fun n b => 10 * n + (b.toNat - 48)) 0
def scI (neg : Bool) (l : List UInt8) : Sc :=
  if digs l = [] ∨ ((digs l).head? = some 48 ∧ (neg = true ∨ 1 < (digs l).length)) then .bad 3
  else if 16 < (digs l).length ∨ 9007199254740991 < numOf (digs l) then .bad 2
  else ⟨1, if neg = true then -(numOf (digs l) : Int) else numOf (digs l), [], l.drop (digs l).length, 0⟩

/-- A digit of 0 to 9, a to f. -/
def hxd (b : UInt8) : Option Nat := if 48 ≤ b.toNat ∧ b.toNat ≤ 57 then some (b.toNat - 48) else if 97 ≤ b.toNat ∧ b.toNat ≤ 102 then some (b.toNat - 87) else none
/-- The bytes that pairs of digits say, up to the closing mark, and what stands behind that. -/
def hxs : List UInt8 → Option (List UInt8 × List UInt8)
  | [] => none
  | [a] => if a = 39 then some ([], []) else none
  | a :: b :: t => if a = 39 then some ([], b :: t) else
    match hxd a, hxd b with
    | some x, some y => (hxs t).map fun p => (UInt8.ofNat (16 * x + y) :: p.1, p.2)
    | _, _ => none
/-- The same, of the digits alone. -/
def hxp : List UInt8 → Option (List UInt8)
  | [] => some []
  | [_] => none
  | a :: b :: t =>
    match hxd a, hxd b with
    | some x, some y => (hxp t).map fun p => UInt8.ofNat (16 * x + y) :: p
    | _, _ => none
def scX (l : List UInt8) : Sc :=
  match hxs l with
  | none => .bad 3
  | some p => if 200 < p.1.length then .bad 2 else ⟨4, 0, p.1, p.2, 0⟩

/-- The rune whose writing with a back stroke stands at the front. -/
def escL (l : List UInt8) : Option Nat := (List.range 128).find? fun c => decide ((shR c).head? = some 92) && (shR c).isPrefixOf l
/-- The rune at the front of what stands within a text's literal, and how many bytes it is written in. -/
def runeL (l : List UInt8) : Option (Nat × Nat) :=
  if l.head? = some 92 then (escL l).map fun c => (c, (shR c).length)
  else if l = [] ∨ ((decodeL l).1 = 65533 ∧ (decodeL l).2 = 1) ∨ (decodeL l).1 < 32 ∨ (decodeL l).1 = 127 then none else some (decodeL l)
def txGo : Nat → List UInt8 → List UInt8 → Option (List UInt8 × List UInt8)
  | 0, _, _ => none
  | n + 1, acc, l => if l.head? = some 34 then some (acc, l.drop 1) else
    match runeL l with
    | none => none
    | some p => txGo n (acc ++ enc p.1) (l.drop p.2)
/-- The bytes that a text's literal says, behind others, up to the closing mark, and what stands behind that. -/
def txs (acc l : List UInt8) : Option (List UInt8 × List UInt8) := txGo (l.length + 1) acc l
def scT (l : List UInt8) : Sc :=
  match txs [] l with
  | none => .bad 3
  | some p => if 200 < p.1.length then .bad 2 else ⟨2, 0, p.1, p.2, 0⟩

/-- Does a word go on at the front? -/
def goesL (l : List UInt8) : Bool := letterN (decodeL l).1 || (decide (48 ≤ (decodeL l).1 ∧ (decodeL l).1 ≤ 57) || ((decodeL l).1 == 95 || (decodeL l).1 == 45))
def scB (n : Int) (l : List UInt8) : Sc := if goesL l = true then .bad 3 else ⟨3, n, [], l, 0⟩
def scn (l : List UInt8) : Sc :=
  if hasPrefix l [34] = true then scT (l.drop 1)
  else if hasPrefix l [120, 39] = true then scX (l.drop 2)
  else if hasPrefix l [116, 114, 117, 101] = true then scB 1 (l.drop 4)
  else if hasPrefix l [102, 97, 108, 115, 101] = true then scB 0 (l.drop 5)
  else if hasPrefix l [45] = true then scI true (l.drop 1) else scI false l

/-! ### digits -/
theorem isD_mem : ∀ b : UInt8, isD b = [48, 49, 50, 51, 52, 53, 54, 55, 56, 57].contains b := by
  intro b
  have key : ∀ n : Fin 256, isD (UInt8.ofNat n.val) = [48, 49, 50, 51, 52, 53, 54, 55, 56, 57].contains (UInt8.ofNat n.val) := by decide +kernel
  have := key ⟨b.toNat, UInt8.toNat_lt b⟩
  simpa using this
theorem digs_drop (l : List UInt8) : l.drop (digs l).length = l.dropWhile isD := by
  unfold digs
  induction l with
  | nil => rfl
  | cons b t ih =>
    by_cases h : isD b = true
    · rw [List.takeWhile_cons_of_pos h, List.dropWhile_cons_of_pos h]
      exact ih
    · rw [List.takeWhile_cons_of_neg h, List.dropWhile_cons_of_neg h]
      rfl
theorem digs_app (l : List UInt8) : digs l ++ l.dropWhile isD = l := List.takeWhile_append_dropWhile
theorem digs_all (l : List UInt8) : ∀ b ∈ digs l, isD b = true := fun b hb => by
  unfold digs at hb
  have h := List.all_takeWhile (p := isD) (l := l)
  exact List.all_eq_true.1 h b hb
theorem numOf_snoc (l : List UInt8) (b : UInt8) : numOf (l ++ [b]) = 10 * numOf l + (b.toNat - 48) := by
  unfold numOf
  rw [List.foldl_append]
  rfl
theorem numOf_lt : ∀ (m : Nat) (l : List UInt8), l.length = m → (∀ b ∈ l, isD b = true) → numOf l < 10 ^ m
  | 0, l, h, _ => by
    obtain rfl : l = [] := List.eq_nil_of_length_eq_zero h
    decide
  | m + 1, l, h, hd => by
    obtain ⟨i, b, rfl⟩ : ∃ i b, l = i ++ [b] := by
      have hne : l ≠ [] := fun e => by subst e; simp at h
      exact ⟨l.dropLast, l.getLast hne, (List.dropLast_concat_getLast hne).symm⟩
    have h1 := numOf_lt m i (by simpa using h) (fun x hx => hd x (List.mem_append_left _ hx))
    have h2 := hd b (by simp)
    simp only [isD, decide_eq_true_eq] at h2
    rw [numOf_snoc, Nat.pow_succ]
    omega
end Go.Proofs.YtjamkfkbajhefaaGreatDoor.V
/- Runes within a text's literal: how they are written, and read. Plain, of no program. -/
namespace Go.Proofs.YtjamkfkbajhefaaGreatDoor.V
open Go.Lib
set_option maxRecDepth 100000

theorem esc_uniq : ∀ a b : Fin 128, (shR a.val).head? = some 92 → (shR b.val).head? = some 92 → (shR a.val).isPrefixOf (shR b.val) = true → a = b := by decide +kernel
theorem escL_spec {l : List UInt8} {c : Nat} (h : escL l = some c) : c < 128 ∧ (shR c).head? = some 92 ∧ shR c <+: l := by
  have h1 := List.find?_some h
  have h2 := List.mem_of_find?_eq_some h
  simp only [Bool.and_eq_true, decide_eq_true_eq] at h1
  exact ⟨List.mem_range.1 h2, h1.1, List.isPrefixOf_iff_prefix.1 h1.2⟩
theorem escL_of {l : List UInt8} {c : Nat} (h1 : c < 128) (h2 : (shR c).head? = some 92) (h3 : shR c <+: l) : escL l = some c := by
  have hs : (escL l).isSome := by
    rw [escL, List.find?_isSome]
    exact ⟨c, List.mem_range.2 h1, by simp [h2, List.isPrefixOf_iff_prefix.2 h3]⟩
  obtain ⟨d, hd⟩ := Option.isSome_iff_exists.1 hs
  obtain ⟨d1, d2, d3⟩ := escL_spec hd
  rcases Nat.le_total (shR c).length (shR d).length with hl | hl
  · have := esc_uniq ⟨c, h1⟩ ⟨d, d1⟩ h2 d2 (List.isPrefixOf_iff_prefix.2 (List.prefix_of_prefix_length_le h3 d3 hl))
    rw [hd]
    exact congrArg some (congrArg Fin.val this).symm
  · have := esc_uniq ⟨d, d1⟩ ⟨c, h1⟩ d2 h2 (List.isPrefixOf_iff_prefix.2 (List.prefix_of_prefix_length_le d3 h3 hl))
    rw [hd]
    exact congrArg some (congrArg Fin.val this)
theorem escL_no {l : List UInt8} (h : ∀ c, c < 128 → (shR c).head? = some 92 → ¬ shR c <+: l) : escL l = none := by
  cases e : escL l with
  | none => rfl
  | some c => obtain ⟨a, b, d⟩ := escL_spec e; exact absurd d (h c a b)
theorem esc_q (t : List UInt8) : escL (92 :: 34 :: t) = some 34 := escL_of (by decide) (by decide +kernel) ⟨t, rfl⟩
theorem esc_b (t : List UInt8) : escL (92 :: 92 :: t) = some 92 := escL_of (by decide) (by decide +kernel) ⟨t, rfl⟩
theorem esc_n (t : List UInt8) : escL (92 :: 110 :: t) = some 10 := escL_of (by decide) (by decide +kernel) ⟨t, rfl⟩
theorem esc_t (t : List UInt8) : escL (92 :: 116 :: t) = some 9 := escL_of (by decide) (by decide +kernel) ⟨t, rfl⟩
theorem esc_r (t : List UInt8) : escL (92 :: 114 :: t) = some 13 := escL_of (by decide) (by decide +kernel) ⟨t, rfl⟩
theorem esc_one : escL [92] = none := by decide +kernel
theorem esc_snd : ∀ c : Fin 128, (shR c.val).head? = some 92 → shR c.val = 92 :: (shR c.val).getD 1 0 :: (shR c.val).drop 2 ∧ ((shR c.val).getD 1 0 = 34 ∨ (shR c.val).getD 1 0 = 92 ∨ (shR c.val).getD 1 0 = 110 ∨ (shR c.val).getD 1 0 = 116 ∨ (shR c.val).getD 1 0 = 114 ∨ (shR c.val).getD 1 0 = 117) := by decide +kernel
theorem esc_other {b : UInt8} {t : List UInt8} (h1 : b ≠ 34) (h2 : b ≠ 92) (h3 : b ≠ 110) (h4 : b ≠ 116) (h5 : b ≠ 114) (h6 : b ≠ 117) : escL (92 :: b :: t) = none := by
  refine escL_no fun c hc hh hp => ?_
  obtain ⟨e, h⟩ := esc_snd ⟨c, hc⟩ hh
  simp only at e h
  rw [e] at hp
  obtain ⟨u, hu⟩ := hp
  simp only [List.cons_append, List.cons.injEq] at hu
  obtain ⟨-, e2, -⟩ := hu
  rw [e2] at h
  rcases h with h | h | h | h | h | h
  · exact h1 h
  · exact h2 h
  · exact h3 h
  · exact h4 h
  · exact h5 h
  · exact h6 h

/-- A digit of base 16, as it is parsed. -/
def puD (b : UInt8) : Option Nat := if 48 ≤ b.toNat ∧ b.toNat ≤ 57 then some (b.toNat - 48) else if 97 ≤ (b.toNat ||| 32) ∧ (b.toNat ||| 32) ≤ 102 then some ((b.toNat ||| 32) - 87) else none
def puL : List UInt8 → Option Nat
  | [x] => puD x
  | [x, y] => match puD x, puD y with
    | some a, some b => some (16 * a + b)
    | _, _ => none
  | _ => none
theorem puD_lt {b : UInt8} {n : Nat} (h : puD b = some n) : n < 16 := by
  unfold puD at h
  split at h
  · cases h; omega
  split at h
  · cases h; omega
  · cases h
theorem puL_lt {l : List UInt8} {n : Nat} (h : puL l = some n) : n < 256 := by
  unfold puL at h
  split at h
  · have := puD_lt h; omega
  · rename_i x y
    split at h
    · rename_i a b ha hb
      have := puD_lt ha
      have := puD_lt hb
      cases h
      omega
    · cases h
  · cases h
theorem num_form : ∀ c : Fin 128, (shR c.val).head? = some 92 → (shR c.val).getD 1 0 = 117 →
    (shR c.val = [92, 117, 123, (shR c.val).getD 3 0, 125] ∧ (shR c.val).getD 3 0 ≠ 125 ∧ puL [(shR c.val).getD 3 0] = some c.val) ∨
    (shR c.val = [92, 117, 123, (shR c.val).getD 3 0, (shR c.val).getD 4 0, 125] ∧ (shR c.val).getD 3 0 ≠ 125 ∧ (shR c.val).getD 4 0 ≠ 125 ∧ puL [(shR c.val).getD 3 0, (shR c.val).getD 4 0] = some c.val) := by decide +kernel
theorem num_small : ∀ n : Fin 256, (shR n.val).head? = some 92 → n.val < 128 := by decide +kernel
/-- A rune that stands there by its number. -/
theorem num_at {l u : List UInt8} (hl : l = 92 :: 117 :: u) {c : Nat} (h : escL l = some c) :
    (∃ x t, l = 92 :: 117 :: 123 :: x :: 125 :: t ∧ x ≠ 125 ∧ puL [x] = some c ∧ shR c = [92, 117, 123, x, 125]) ∨
    (∃ x y t, l = 92 :: 117 :: 123 :: x :: y :: 125 :: t ∧ x ≠ 125 ∧ y ≠ 125 ∧ puL [x, y] = some c ∧ shR c = [92, 117, 123, x, y, 125]) := by
  obtain ⟨hc, hh, ⟨t, ht⟩⟩ := escL_spec h
  have e1 := (esc_snd ⟨c, hc⟩ hh).1
  simp only at e1
  have h1 : (shR c).getD 1 0 = 117 := by
    rw [hl, e1] at ht
    simp only [List.cons_append, List.cons.injEq] at ht
    exact ht.2.1
  rcases num_form ⟨c, hc⟩ hh h1 with ⟨e, a, b⟩ | ⟨e, a, b, d⟩
  · simp only at e a b
    exact .inl ⟨_, t, by rw [← ht, e]; rfl, a, b, e⟩
  · simp only at e a b d
    exact .inr ⟨_, _, t, by rw [← ht, e]; rfl, a, b, d, e⟩
theorem ix4 {u : List UInt8} {a b : UInt8} {t : List UInt8} (ha : a ≠ 125) (hb : b ≠ 125) (hu : u = a :: b :: 125 :: t) : indexByte ((92 :: 117 :: u).take 6) 125 = 4 := by
  subst hu
  cases t <;> simp [indexByte, ha, hb]
theorem ix5 {u : List UInt8} {a b c : UInt8} {t : List UInt8} (ha : a ≠ 125) (hb : b ≠ 125) (hc : c ≠ 125) (hu : u = a :: b :: c :: 125 :: t) : indexByte ((92 :: 117 :: u).take 6) 125 = 5 := by
  subst hu
  simp [indexByte, ha, hb, hc]
/-- Where the closing brace stands. -/
theorem ix_cases (u : List UInt8) : indexByte ((92 :: 117 :: u).take 6) 125 < 4 ∨
    (indexByte ((92 :: 117 :: u).take 6) 125 = 4 ∧ ∃ a b t, u = a :: b :: 125 :: t) ∨
    (indexByte ((92 :: 117 :: u).take 6) 125 = 5 ∧ ∃ a b c t, u = a :: b :: c :: 125 :: t) := by
  match u with
  | [] => exact .inl (by decide)
  | [a] => left; simp only [List.take, indexByte]; repeat' split
           all_goals simp_all
  | [a, b] => left; simp only [List.take, indexByte]; repeat' split
              all_goals simp_all
  | [a, b, c] =>
    by_cases ha : a = 125
    · left; simp [ha, indexByte]
    by_cases hb : b = 125
    · left; simp [ha, hb, indexByte]
    by_cases hc : c = 125
    · right; left; subst hc; exact ⟨ix4 ha hb rfl, a, b, [], rfl⟩
    · left; simp [ha, hb, hc, indexByte]
  | a :: b :: c :: d :: t =>
    by_cases ha : a = 125
    · left; simp [ha, indexByte]
    by_cases hb : b = 125
    · left; simp [ha, hb, indexByte]
    by_cases hc : c = 125
    · right; left; subst hc; exact ⟨ix4 ha hb rfl, a, b, _, rfl⟩
    by_cases hd : d = 125
    · right; right; subst hd; exact ⟨ix5 ha hb hc rfl, a, b, c, t, rfl⟩
    · left; simp [ha, hb, hc, hd, indexByte]
theorem esc_num_no {u : List UInt8} (h : indexByte ((92 :: 117 :: u).take 6) 125 < 4) : escL (92 :: 117 :: u) = none := by
  cases e : escL (92 :: 117 :: u) with
  | none => rfl
  | some c =>
    rcases num_at rfl e with ⟨x, t, hl, hx, _, _⟩ | ⟨x, y, t, hl, hx, hy, _, _⟩
    · simp only [List.cons.injEq, true_and] at hl
      rw [ix4 (by decide) hx hl] at h
      omega
    · simp only [List.cons.injEq, true_and] at hl
      rw [ix5 (by decide) hx hy hl] at h
      omega
theorem esc_num1 {a b : UInt8} {t : List UInt8} (hi : indexByte ((92 :: 117 :: a :: b :: 125 :: t).take 6) 125 = 4) : escL (92 :: 117 :: a :: b :: 125 :: t) = (puL [b]).bind fun n => if shR n = [92, 117, a, b, 125] then some n else none := by
  cases e : escL (92 :: 117 :: a :: b :: 125 :: t) with
  | some c =>
    rcases num_at rfl e with ⟨x, t', hl, hx, hp, hs⟩ | ⟨x, y, t', hl, hx, hy, hp, hs⟩
    · simp only [List.cons.injEq, true_and] at hl
      obtain ⟨rfl, rfl, -⟩ := hl
      rw [hp]
      simp [hs]
    · have := ix5 (by decide) hx hy (show a :: b :: 125 :: t = 123 :: x :: y :: 125 :: t' by simpa using hl)
      rw [this] at hi
      omega
  | none =>
    cases hp : puL [b] with
    | none => rfl
    | some n =>
      show none = if _ then _ else _
      rw [if_neg]
      intro hs
      have hlt := num_small ⟨n, puL_lt hp⟩ (by show (shR n).head? = _; rw [hs]; rfl)
      rw [escL_of hlt (by rw [hs]; rfl) (by rw [hs]; exact ⟨t, rfl⟩)] at e
      cases e
theorem esc_num2 {a b c : UInt8} {t : List UInt8} (hi : indexByte ((92 :: 117 :: a :: b :: c :: 125 :: t).take 6) 125 = 5) : escL (92 :: 117 :: a :: b :: c :: 125 :: t) = (puL [b, c]).bind fun n => if shR n = [92, 117, a, b, c, 125] then some n else none := by
  cases e : escL (92 :: 117 :: a :: b :: c :: 125 :: t) with
  | some d =>
    rcases num_at rfl e with ⟨x, t', hl, hx, hp, hs⟩ | ⟨x, y, t', hl, hx, hy, hp, hs⟩
    · have := ix4 (by decide) hx (show a :: b :: c :: 125 :: t = 123 :: x :: 125 :: t' by simpa using hl)
      rw [this] at hi
      omega
    · simp only [List.cons.injEq, true_and] at hl
      obtain ⟨rfl, rfl, rfl, -⟩ := hl
      rw [hp]
      simp [hs]
  | none =>
    cases hp : puL [b, c] with
    | none => rfl
    | some n =>
      show none = if _ then _ else _
      rw [if_neg]
      intro hs
      have hlt := num_small ⟨n, puL_lt hp⟩ (by show (shR n).head? = _; rw [hs]; rfl)
      rw [escL_of hlt (by rw [hs]; rfl) (by rw [hs]; exact ⟨t, rfl⟩)] at e
      cases e

/-! ### a rune within a text -/
theorem shR_plain {c : Nat} (h1 : 32 ≤ c) (h2 : c ≠ 127) (h3 : c ≠ 34) (h4 : c ≠ 92) : shR c = enc c := by
  unfold shR
  rw [if_neg h3, if_neg h4, if_neg (by omega), if_neg (by omega), if_neg (by omega), if_neg (by omega), if_neg (by omega)]
theorem dec_ascii {b : UInt8} {t : List UInt8} (h : b.toNat < 128) : decodeL (b :: t) = (b.toNat, 1) := by
  rw [decodeL_N]
  unfold decodeN
  simp only [List.getD_cons_zero]
  rw [if_pos h]
theorem dec_small {l : List UInt8} {c : Nat} (hne : l ≠ []) (hc : (decodeL l).1 = c) (h : c < 128) : ∃ b t, l = b :: t ∧ b.toNat = c := by
  cases l with
  | nil => exact absurd rfl hne
  | cons b t =>
    refine ⟨b, t, rfl, ?_⟩
    by_cases hb : b.toNat < 128
    · rw [dec_ascii hb] at hc; exact hc
    · exfalso
      rw [decodeL_N] at hc
      unfold decodeN at hc
      simp only [List.getD_cons_zero] at hc
      rw [if_neg hb] at hc
      split at hc
      · split at hc <;> simp only at hc <;> omega
      split at hc
      · split at hc <;> simp only at hc <;> omega
      split at hc
      · split at hc <;> simp only at hc <;> omega
      · simp only at hc; omega
/-- What decodes well is what the rune encodes to. -/
theorem enc_dec {l : List UInt8} (hne : l ≠ []) (h : ¬ ((decodeL l).1 = 65533 ∧ (decodeL l).2 = 1)) : enc (decodeL l).1 = l.take (decodeL l).2 := by
  have he := encode_decode l hne h
  rw [← he]
  have hs := decodeL_scal l
  generalize (decodeL l).1 = c at hs
  by_cases h1 : c < 128
  · rw [enc1 h1, encodeRune, encodeRuneZ_one (by omega) (by omega)]; simp
  by_cases h2 : c < 2048
  · rw [enc2 (by omega) h2, encodeRune, encodeRuneZ_two (by omega) (by omega)]
    simp only [List.map_cons, List.map_nil]
    congr 1
  by_cases h3 : c < 65536
  · rw [enc3 (by omega) h3 hs, encodeRune, encodeRuneZ_three (by unfold scal at hs; omega)]
    simp only [List.map_cons, List.map_nil]
    congr 1
  · rw [enc4 (by omega) hs, encodeRune, encodeRuneZ_four (by omega) (by unfold scal at hs; omega)]
    simp only [List.map_cons, List.map_nil]
    congr 1
/-- What is said of a rune that was read: it is written so. -/
theorem runeL_spec {l : List UInt8} {c d : Nat} (h : runeL l = some (c, d)) (hq : l.head? ≠ some 34) : shR c = l.take d ∧ 1 ≤ d ∧ d ≤ l.length ∧ scal c ∧ (enc c).length ≤ d := by
  unfold runeL at h
  split at h
  · rename_i h92
    cases e : escL l with
    | none => rw [e] at h; cases h
    | some x =>
      rw [e] at h
      simp only [Option.map_some, Option.some.injEq, Prod.mk.injEq] at h
      obtain ⟨rfl, rfl⟩ := h
      obtain ⟨a, b, p⟩ := escL_spec e
      have hl := p.length_le
      have h1 : 1 ≤ (shR x).length := by
        cases hh : shR x with
        | nil => rw [hh] at b; cases b
        | cons _ _ => simp
      exact ⟨List.prefix_iff_eq_take.1 p, h1, hl, .inl (by omega), by rw [enc1 a]; exact h1⟩
  · rename_i h92
    split at h
    · cases h
    · rename_i hn
      simp only [not_or] at hn
      obtain ⟨hne, hbad, h32, h127⟩ := hn
      simp only [Option.some.injEq] at h
      have ed : enc c = l.take d := by have := enc_dec hne hbad; rw [h] at this; exact this
      have hw := decodeL_width l
      have hle := decodeL_le l hne
      rw [h] at hw hle h32 h127
      simp only at hw hle h32 h127
      have h34 : c ≠ 34 := fun e => by
        obtain ⟨b, t, rfl, hb⟩ := dec_small (c := 34) hne (by rw [h]; exact e) (by decide)
        exact hq (by simp only [List.head?_cons]; exact congrArg some (UInt8.toNat_inj.1 hb))
      have h92' : c ≠ 92 := fun e => by
        obtain ⟨b, t, rfl, hb⟩ := dec_small (c := 92) hne (by rw [h]; exact e) (by decide)
        exact h92 (by simp only [List.head?_cons]; exact congrArg some (UInt8.toNat_inj.1 hb))
      have hsc := decodeL_scal l
      rw [h] at hsc
      refine ⟨by rw [shR_plain (by omega) h127 h34 h92', ed], by omega, hle, hsc, ?_⟩
      rw [ed, List.length_take]
      omega
theorem txGo_fuel : ∀ (n m : Nat) (acc l : List UInt8), l.length < n → l.length < m → txGo n acc l = txGo m acc l
  | 0, _, _, _, h, _ => absurd h (by omega)
  | _ + 1, 0, _, _, _, h => absurd h (by omega)
  | n + 1, m + 1, acc, l, hn, hm => by
    unfold txGo
    by_cases hq : l.head? = some 34
    · rw [if_pos hq, if_pos hq]
    · rw [if_neg hq, if_neg hq]
      cases e : runeL l with
      | none => rfl
      | some p =>
        obtain ⟨c, d⟩ := p
        obtain ⟨-, h1, h2, -, -⟩ := runeL_spec e hq
        exact txGo_fuel n m _ _ (by rw [List.length_drop]; omega) (by rw [List.length_drop]; omega)
theorem txs_end {acc l : List UInt8} (h : l.head? = some 34) : txs acc l = some (acc, l.drop 1) := by
  unfold txs txGo
  rw [if_pos h]
theorem txs_none {acc l : List UInt8} (h : l.head? ≠ some 34) (hr : runeL l = none) : txs acc l = none := by
  unfold txs txGo
  rw [if_neg h, hr]
theorem txs_step {acc l : List UInt8} {c d : Nat} (h : l.head? ≠ some 34) (hr : runeL l = some (c, d)) : txs acc l = txs (acc ++ enc c) (l.drop d) := by
  obtain ⟨-, h1, h2, -, -⟩ := runeL_spec hr h
  conv => lhs; unfold txs txGo
  rw [if_neg h, hr]
  exact txGo_fuel _ _ _ _ (by rw [List.length_drop]; omega) (Nat.lt_succ_self _)
end Go.Proofs.YtjamkfkbajhefaaGreatDoor.V
