/- filter, where its predicates are read: a walk. -/
import Derived.Test.YtbekpemidpngaaaGreatDoorZk13
import Derived.Deep.AppendLies
namespace Go.Proofs.YtbekpemidpngaaaGreatDoor
open Go.RowKit

/-- A predicate. -/
structure Pd where
  n : ByteArray
  o : Int
  l : List It
/-- A predicate, where its values lie. -/
structure PR where
  y : Pd
  a : Option Addr
  c : Nat
abbrev PR.v (x : PR) : Value := .slice x.a x.y.l.length x.c
def enP (x : PR) : List Value := [.string x.y.n, .int .i64 x.y.o, x.v]
def pCells (F : List PR) : List Value := F.flatMap enP
theorem pCells_snoc (F : List PR) (x : PR) : pCells (F ++ [x]) = pCells F ++ enP x := by simp [pCells]
/-- A filter in memory. -/
def IsFl (w : World) (v : Value) (F : List PR) : Prop := IsRow w 3 v F.length (pCells F) ∧ ∀ x ∈ F, IsRow w 3 x.v x.y.l.length (itCells x.y.l)
theorem IsFl.below {w w' : World} {v : Value} {F : List PR} (h : IsFl w v F) (hb : Below w.heap.size w w') : IsFl w' v F := ⟨h.1.below hb, fun x hx => (h.2 x hx).below hb⟩
theorem row_grownBy {w w' : World} {r : Option Nat} (h : w.grownBy w' r) {sz : Nat} {a : Option Addr} {n c : Nat} {xs : List Value} (hr : IsRow w sz (.slice a n c) n xs) (hn : ∀ d, a = some d → r ≠ some d.block) : IsRow w' sz (.slice a n c) n xs := by
  refine ⟨hr.1, ?_⟩
  rcases hr.2 with q | ⟨b, off, cap, hv, hlt, hc, hm, hcell⟩
  · exact .inl q
  · simp only [Value.slice.injEq] at hv
    obtain ⟨h1, -, h2⟩ := hv
    subst h1 h2
    refine .inr ⟨b, off, c, rfl, Nat.lt_of_lt_of_le hlt h.size, hc, hm, fun j u hu => ?_⟩
    have hb := h.block b hlt (fun e => hn _ rfl e.symm)
    have := hcell j u hu
    unfold World.cell? at this ⊢
    rw [hb]
    exact this
theorem row_none {w w' : World} {sz : Nat} {a : Option Addr} {c : Nat} {xs : List Value} (hr : IsRow w sz (.slice a 0 c) 0 xs) : IsRow w' sz (.slice a 0 c) 0 xs := ⟨hr.1, .inl ⟨rfl, _, _, rfl⟩⟩
/-- A predicate's values are there, and apart from the reader and from a row. -/
def ElOk (B : Nat) (u : Option Nat) (W : World) (x : PR) : Prop := IsRow W 3 x.v x.y.l.length (itCells x.y.l) ∧ (x.y.l ≠ [] → ∀ d, x.a = some d → B < d.block ∧ u ≠ some d.block ∧ d.block < W.heap.size)
theorem ElOk.sr {R B : Nat} {u : Option Nat} {W W' : World} {x : PR} (h : ElOk B u W x) (hs : Sr R W W') (hR : R < B) : ElOk B u W' x := by
  obtain ⟨y, a, c⟩ := x
  by_cases hl : y.l = []
  · refine ⟨?_, fun h => absurd hl h⟩
    have h1 := h.1
    dsimp only [PR.v] at h1 ⊢
    rw [hl] at h1 ⊢
    exact row_none h1
  · exact ⟨hs.row h.1 (fun d hd => by have := (h.2 hl d hd).1; omega), fun _ d hd => ⟨(h.2 hl d hd).1, (h.2 hl d hd).2.1, Nat.lt_of_lt_of_le (h.2 hl d hd).2.2 hs.size⟩⟩
theorem ElOk.grown {B g : Nat} {u : Option Nat} {W W' : World} {x : PR} (h : ElOk B u W x) (hg : W.grownBy W' u) (hat : u = some g ∨ g = W.heap.size) : ElOk B (some g) W' x := by
  obtain ⟨y, a, c⟩ := x
  by_cases hl : y.l = []
  · refine ⟨?_, fun h => absurd hl h⟩
    have h1 := h.1
    dsimp only [PR.v] at h1 ⊢
    rw [hl] at h1 ⊢
    exact row_none h1
  · refine ⟨row_grownBy hg h.1 (fun d hd => (h.2 hl d hd).2.1), fun _ d hd => ?_⟩
    obtain ⟨h1, h2, h3⟩ := h.2 hl d hd
    refine ⟨h1, ?_, Nat.lt_of_lt_of_le h3 hg.size⟩
    rcases hat with rfl | rfl
    · exact h2
    · simp only [ne_eq, Option.some.injEq]
      omega
theorem ElOk.new {B0 : Nat} {u : Option Nat} {B : Nat} {W : World} {y : Pd} {a : Option Addr} {c : Nat} (hr : IsRow W 3 (.slice a y.l.length c) y.l.length (itCells y.l)) (hf : FrA B a) (hR : B0 < B) (hu : ∀ g, u = some g → g < B) : ElOk B0 u W ⟨y, a, c⟩ := by
  refine ⟨hr, fun hl d hd => ?_⟩
  have h1 := hf d hd
  refine ⟨by omega, fun e => ?_, ?_⟩
  · have := hu _ e
    omega
  · obtain ⟨b, off, cap, hv, hlt, -⟩ := hr.open (List.length_pos_iff.2 hl)
    simp only [Value.slice.injEq] at hv
    rw [hv.1] at hd
    cases hd
    exact hlt
theorem info_pr : (Tryz.prog.info? 45).map (fun i => (i.zero, i.size, i.bytes)) = some (some (.agg #[.string ⟨#[]⟩, .int .i64 0, .slice none 0 0]), 3, 48) := by kernel_rfl
def slcN : Value → Nat
  | .slice _ n _ => n
  | _ => 0
def FlQ (w0 : World) (R : Nat) (T : List Ft) (z : Int) (D : List Pd) (x y : Int) (w : World) (e : Ending) (w' : World) : Prop := ∃ a c F, e = .returned (.tuple #[.slice a D.length c, ftV x y]) ∧ IsFl w' (.slice a D.length c) F ∧ F.map (·.y) = D ∧ Sr R w w' ∧ Rd w0 R T z w'
set_option maxRecDepth 100000 in
set_option maxHeartbeats 4000000 in
theorem filter_ok (w0 : World) (R : Nat) (l : List Ft) (z : Int) (w : World) (h0 : Sr R w0 w) (h : Rd w0 R l z w) (hR : R < w0.heap.size) (hl : l.length ≤ 1000000) (hT : ∀ W, Sr R w0 W → FW W)
    (n : Nat) (hn1 : 1 ≤ n) (hn2 : n ≤ 12) (pc : Nat → Pc) (ls ms : Nat → List Ft) (D : Nat → Pd) (at_ : Nat → Int) (hq0 : pcF l z = pc 0) (hl0 : ls 0 = l.tail) (hok0 : PcOk (pc 0)) (hany : isW (pc 0) ⟨#[97, 110, 121]⟩ = false)
    (hP : ∀ j, j < n → ∀ W, Sr R w0 W → Rd w0 R (ls j) z W → Calls Tryz.prog 74 #[.pointer (some ⟨R, 0, none⟩), (pc j).v, .bool false] W fun e w' => PrQ w0 R (ms j) z (D j).n (D j).o ((D j).l, at_ j, 0) W e w')
    (hms : ∀ j, j < n → (ms j).length ≤ 1000000 ∧ PcOk (pcF (ms j) z)) (hand : ∀ j, j + 1 < n → isW (pcF (ms j) z) ⟨#[97, 110, 100]⟩ = true ∧ pc (j + 1) = pcF (ms j).tail z ∧ ls (j + 1) = (ms j).tail.tail) (hend : isW (pcF (ms (n - 1)) z) ⟨#[97, 110, 100]⟩ = false) :
    Calls Tryz.prog 45 #[.pointer (some ⟨R, 0, none⟩)] w fun e w' => FlQ w0 R (ms (n - 1)).tail z ((List.range n).map D) (endE (pcF (ms (n - 1)) z)).1 (endE (pcF (ms (n - 1)) z)).2 w e w' := by
  obtain ⟨i0, hi0, hz0, hz1, hz2⟩ := info_parts info_pr
  have HRl : Hid (R < w.heap.size) := Nat.lt_of_lt_of_le hR h0.size
  have HNx : Hid (∀ m W, m.length ≤ 1000000 → Sr R w0 W → Rd w0 R m z W → Calls Tryz.prog 71 #[.pointer (some ⟨R, 0, none⟩)] W fun e w' => e = .returned (pcF m z).v ∧ Sr R W w' ∧ Rd w0 R m.tail z w') := fun m W hm a b => next_any w0 R m z W a b hm
  have HIs : Hid (∀ (x : Pc) (u : ByteArray) W, PcOk x → u.size ≤ 1000000 → Sr R w0 W → Calls Tryz.prog 72 #[x.v, .string u] W fun e w' => e = .returned (.bool (isW x u)) ∧ Below W.heap.size W w') := fun x u W hx hu a => isWord_any x u W hx hu (hT W a).u
  have HEn : Hid (∀ (x : Pc) W, Calls Tryz.prog 73 #[x.v] W fun e w' => e = .returned (ftV (endE x).1 (endE x).2) ∧ Below W.heap.size W w') := fun x W => ended_any x W
  have HP : Hid (∀ j, j < n → ∀ W, Sr R w0 W → Rd w0 R (ls j) z W → Calls Tryz.prog 74 #[.pointer (some ⟨R, 0, none⟩), (pc j).v, .bool false] W fun e w' => PrQ w0 R (ms j) z (D j).n (D j).o ((D j).l, at_ j, 0) W e w') := hP
  have HMs : Hid (∀ j, j < n → (ms j).length ≤ 1000000 ∧ PcOk (pcF (ms j) z)) := hms
  have HAn : Hid (∀ j, j + 1 < n → isW (pcF (ms j) z) ⟨#[97, 110, 100]⟩ = true ∧ pc (j + 1) = pcF (ms j).tail z ∧ ls (j + 1) = (ms j).tail.tail) := hand
  have HEd : Hid (isW (pcF (ms (n - 1)) z) ⟨#[97, 110, 100]⟩ = false) := hend
  have H0 : Hid (Sr R w0 w) := h0
  have HR0 : Hid (Rd w0 R l z w) := h
  have HL0 : Hid (l.length ≤ 1000000 ∧ pcF l z = pc 0 ∧ ls 0 = l.tail ∧ PcOk (pc 0) ∧ isW (pc 0) ⟨#[97, 110, 121]⟩ = false) := ⟨hl, hq0, hl0, hok0, hany⟩
  obtain ⟨DD, hDD⟩ : ∃ DD, Hid ((List.range n).map D = DD) := ⟨_, rfl⟩
  have HDl : Hid (DD.length = n) := by show _ = _; rw [← hDD.out]; simp
  obtain ⟨LP, hLP⟩ : ∃ LP, Hid (pcF (ms (n - 1)) z = LP) := ⟨_, rfl⟩
  obtain ⟨TL, hTL⟩ : ∃ TL, Hid ((ms (n - 1)).tail = TL) := ⟨_, rfl⟩
  rw [hDD.out, hLP.out, hTL.out]
  obtain ⟨ea, hEa⟩ : ∃ x, Hid ((endE LP).1 = x) := ⟨_, rfl⟩
  obtain ⟨ee, hEe⟩ : ∃ x, Hid ((endE LP).2 = x) := ⟨_, rfl⟩
  rw [hEa.out, hEe.out]
  clear h0 h hR hl hT hq0 hl0 hok0 hany hP hms hand hend
  obtain ⟨w1, hw1⟩ : ∃ w1, w1 = w.alloc (.cells #[.int .i64 0, .int .i64 0] 90) := ⟨_, rfl⟩
  have B1 : Hid (Sr R w w1) := by show Sr _ _ _; rw [hw1]; exact Sr.of (al_f _ _)
  have hn1 : w1.heap[w.heap.size]? = some (.cells #[.int .i64 0, .int .i64 0] 90 (0, 0)) := by rw [hw1]; exact nw_at _ _
  have N1 : Hid (R < w.heap.size) := HRl.out
  have C1 : Hid (∀ W, Sr R w1 W → W.heap[w.heap.size]? = some (.cells #[.int .i64 0, .int .i64 0] 90 (0, 0))) := fun W h => h.box hn1 (Nat.ne_of_gt N1.out)
  clear hn1
  have HR1 : Hid (Rd w0 R l z w1) := by show Rd _ _ _ _ _; rw [hw1]; exact HR0.out.al _
  have hx1 : Hid (w1.heap.size = w.heap.size + 1) := by show _ = _; rw [hw1]; simp
  have HRb : Hid (R < w1.heap.size) := Nat.lt_of_lt_of_le HRl.out B1.out.size
  go_enter Tryz.func45, Tryz.ntmps45
  go_wp2_with fail
  rw [← hw1]
  clear hw1
  refine (HNx.out l _ HL0.out.1 (H0.out.trans B1.out) HR1.out).mono ?_
  rintro e w2 ⟨rfl, hb, hrd⟩
  have B2 : Hid (Sr R w1 w2) := hb
  clear hb 
  have HRd2 : Hid (Rd w0 R (ls 0) z w2) := by show Rd _ _ _ _ _; rw [HL0.out.2.2.1]; exact hrd
  clear hrd
  rw [HL0.out.2.1]
  go_wp2_with fail
  have HI0 := HIs.out (pc 0) ⟨#[97, 110, 121]⟩ w2 HL0.out.2.2.2.1 (by decide) (H0.out.trans (B1.out.trans B2.out))
  rw [HL0.out.2.2.2.2] at HI0
  refine HI0.mono ?_
  clear HI0
  rintro e w3 ⟨rfl, hb⟩
  have HRd3 : Hid (Rd w0 R (ls 0) z w3) := HRd2.out.below hb
  have B3 : Hid (Sr R w2 w3) := Sr.of hb
  clear hb
  have HS3 : Hid (Sr R w1 w3) := (B2.out.trans B3.out)
  clear HRd2 HR1 HR0 B2 B3
  go_wp2_with fail
  go_loopw [2, 4] (fun u p wr => ∃ k F, k < n ∧ F.length = k ∧ Hid (F.map (·.y) = (List.range k).map D) ∧ p = (pc k).v ∧ Hid (wr.ownsRow w1.heap.size 45 3 u k (pCells F)) ∧ Hid (∀ x ∈ F, ElOk w.heap.size u.ownBlock wr x) ∧ Hid (Sr R w1 wr) ∧ Hid (Rd w0 R (ls k) z wr)) (fun u _ _ => n - slcN u)
  case atStart => exact ⟨0, [], by omega, rfl, rfl, rfl, World.ownsRow_nil _ _ _ _, (fun x hx => by cases hx), HS3.out, HRd3.out⟩
  case round =>
    obtain ⟨k, F, hk, hFk, HMp, rfl, HO, HE, HB, HRd⟩ := hrel
    clear HS3 HRd3
    obtain ⟨ua, uc, huf⟩ := (IsRow.own HO.out).form
    subst huf
    have HOb : Hid (∀ g, (Value.slice ua k uc).ownBlock = some g → w1.heap.size ≤ g ∧ g < wr.heap.size) := fun g hg => HO.out.lt g hg
    have HBw : Hid (Sr R w wr) := B1.out.trans HB.out
    have d12 : decide ((k : Int) = 12) = false := decide_eq_false (by omega)
    have d12b : ((k : Int) == 12) = false := by simp; omega
    have HPk : Hid (∀ W, Sr R w0 W → Rd w0 R (ls k) z W → Calls Tryz.prog 74 #[.pointer (some ⟨R, 0, none⟩), (pc k).v, .bool false] W fun e w' => PrQ w0 R (ms k) z (D k).n (D k).o ((D k).l, at_ k, 0) W e w') := HP.out k hk
    obtain ⟨Y, hY⟩ : ∃ Y, Hid (D k = Y) := ⟨_, rfl⟩
    rw [hY.out] at HPk
    obtain ⟨Dn, Do, Dl⟩ := Y
    dsimp only at HPk
    go_wp2_with fail
    refine (HPk.out _ (H0.out.trans HBw.out) HRd.out).mono ?_
    rintro e w5 ⟨aa, ca, rfl, hr, hfa, hb, hrd⟩
    have HRd5 : Hid (Rd w0 R (ms k) z w5) := hrd
    have B5 : Hid (Sr R wr w5) := hb
    have HEn5 : Hid (ElOk w.heap.size (Value.slice ua k uc).ownBlock w5 ⟨⟨Dn, Do, Dl⟩, aa, ca⟩) := ElOk.new (y := ⟨Dn, Do, Dl⟩) hr hfa (by have h1 := HB.out.size; have h2 := hx1.out; omega) (fun g hg => (HOb.out g hg).2)
    have HE5 : Hid (∀ x ∈ F, ElOk w.heap.size (Value.slice ua k uc).ownBlock w5 x) := fun x hx => (HE.out x hx).sr hb HRl.out
    have HO5 : Hid (w5.ownsRow w1.heap.size 45 3 (.slice ua k uc) k (pCells F)) := own_sr HO.out hb HRb.out
    have HB5 : Hid (Sr R w1 w5) := HB.out.trans hb
    clear hr hfa hb hrd HPk HE HO HRd HB
    obtain ⟨w6, hw6⟩ : ∃ w6, w6 = w5.alloc (.cells #[.string Dn, .int .i64 Do, .slice aa Dl.length ca] 45) := ⟨_, rfl⟩
    obtain ⟨w7, hw7⟩ : ∃ w7, w7 = w6.alloc (.cells #[.int .i64 (at_ k), .int .i64 0] 90) := ⟨_, rfl⟩
    have hb6 : Below w5.heap.size w5 w6 := by rw [hw6]; exact al_f _ _
    have hb7 : Below w6.heap.size w6 w7 := by rw [hw7]; exact al_f _ _
    have hk6 : w7.heap[w5.heap.size]? = some (.cells #[.string Dn, .int .i64 Do, .slice aa Dl.length ca] 45 (0, 0)) := by
      have h6 : w6.heap[w5.heap.size]? = some (.cells #[.string Dn, .int .i64 Do, .slice aa Dl.length ca] 45 (0, 0)) := by rw [hw6]; exact nw_at _ _
      exact (hb7.block _ (Array.getElem?_eq_some_iff.1 h6).1).trans h6
    have hk7 : w7.heap[w5.heap.size + 1]? = some (.cells #[.int .i64 (at_ k), .int .i64 0] 90 (0, 0)) := by rw [hw7, show w5.heap.size + 1 = w6.heap.size by (rw [hw6]; simp)]; exact nw_at _ _
    have hB57 : Below w5.heap.size w5 w7 := hb6.trans (hb7.mono hb6.size)
    have HRd7 : Hid (Rd w0 R (ms k) z w7) := HRd5.out.below hB57
    have HEn7 : Hid (ElOk w.heap.size (Value.slice ua k uc).ownBlock w7 ⟨⟨Dn, Do, Dl⟩, aa, ca⟩) := HEn5.out.sr (Sr.of hB57) HRl.out
    have HE7 : Hid (∀ x ∈ F, ElOk w.heap.size (Value.slice ua k uc).ownBlock w7 x) := fun x hx => (HE5.out x hx).sr (Sr.of hB57) HRl.out
    have HO7 : Hid (w7.ownsRow w1.heap.size 45 3 (.slice ua k uc) k (pCells F)) := own_sr HO5.out (Sr.of hB57) HRb.out
    have HB7 : Hid (Sr R w1 w7) := HB5.out.trans (Sr.of hB57)
    have c6_0 : w7.cell? ⟨w5.heap.size, 0, none⟩ = some (.string Dn) := by rw [Lib.cell_of_heap hk6]; rfl
    have c6_1 : w7.cell? ⟨w5.heap.size, 1, none⟩ = some (.int .i64 Do) := by rw [Lib.cell_of_heap hk6]; rfl
    have c6_2 : w7.cell? ⟨w5.heap.size, 2, none⟩ = some (.slice aa Dl.length ca) := by rw [Lib.cell_of_heap hk6]; rfl
    have c7_0 : w7.cell? ⟨w5.heap.size + 1, 0, none⟩ = some (.int .i64 (at_ k)) := by rw [Lib.cell_of_heap hk7]; rfl
    have c7_1 : w7.cell? ⟨w5.heap.size + 1, 1, none⟩ = some (.int .i64 0) := by rw [Lib.cell_of_heap hk7]; rfl
    have HK6 : Hid (w7.heap[w5.heap.size]? = some (.cells #[.string Dn, .int .i64 Do, .slice aa Dl.length ca] 45 (0, 0))) := hk6
    clear hb6 hb7 hk6 hk7 hB57 HRd5 HEn5 HE5 HO5 HB5
    rw [hw7, hw6] at c7_0 c7_1
    go_upto_region 7 with fail
    rw [← hw6, ← hw7]
    clear hw6 hw7 c7_0 c7_1
    have hle7 : w1.heap.size ≤ w7.heap.size := HB7.out.size
    have HAl : Hid (w7.alloc (.cells #[.string Dn, .int .i64 Do, .slice aa Dl.length ca] 45) = w7.alloc (.cells #[.string Dn, .int .i64 Do, .slice aa Dl.length ca] 45)) := rfl
    go_wp2_with (at_builtin; go_loud (refine wpList_append_lies _ rfl (.tmp 27) (.tmp 29) 22 rfl w1.heap.size 45 i0 _ 3 48 Tryz.underlying22 hi0 hz0 hz1 hz2 rfl (by decide) (.slice ua k uc) k (pCells F) rfl (HO7.out.alloc _) ⟨w7.heap.size, 0, none⟩ 1 1 [.string Dn, .int .i64 Do, .slice aa Dl.length ca] rfl rfl (World.news_of_block (cs := #[.string Dn, .int .i64 Do, .slice aa Dl.length ca]) (t := 45) (fr := (0, 0)) (nw_at w7 _)) (by intro u hu; simp at hu; rcases hu with rfl | rfl | rfl <;> rfl) (by omega) (by unfold maxLen; omega) (by omega) (by simp; omega) (w7.heap.size + 1) (by simp) ?_); intro gg cap wa hown hgr hat hlt)
    have HO8 : Hid (wa.ownsRow w1.heap.size 45 3 (.slice (some ⟨gg, 0, none⟩) (k + 1) cap) (k + 1) (pCells (F ++ [⟨⟨Dn, Do, Dl⟩, aa, ca⟩]))) := by
      show World.ownsRow _ _ _ _ _ _ _
      rw [pCells_snoc]
      exact hown
    have hat' : (Value.slice ua k uc).ownBlock = some gg ∨ gg = (w7.alloc (.cells #[.string Dn, .int .i64 Do, .slice aa Dl.length ca] 45)).heap.size := by
      rcases hat with q | q
      · exact .inl q
      · exact .inr (by rw [q]; simp)
    have HE8 : Hid (∀ x ∈ F ++ [⟨⟨Dn, Do, Dl⟩, aa, ca⟩], ElOk w.heap.size (some gg) wa x) := fun x hx => by
      have h9 : ElOk w.heap.size (Value.slice ua k uc).ownBlock w7 x := by
        rcases List.mem_append.1 hx with hx | hx
        · exact HE7.out x hx
        · have e := List.mem_singleton.1 hx
          subst e
          exact HEn7.out
      exact (h9.sr (Sr.of (al_f w7 _)) HRl.out).grown hgr hat'
    have HB8 : Hid (Sr R w1 wa) := by
      have h1 : Sr R w1 (w7.alloc (.cells #[.string Dn, .int .i64 Do, .slice aa Dl.length ca] 45)) := HB7.out.al _
      refine Sr.app h1 ⟨hgr.os, hgr.tape, hgr.output, hgr.size, fun i hi => hgr.block i (Nat.lt_of_lt_of_le hi h1.size) (fun e => ?_)⟩
      have := (HOb.out i e.symm).1
      omega
    have HRd8 : Hid (Rd w0 R (ms k) z wa) := by
      have hlt1 : R < w7.heap.size := Nat.lt_of_lt_of_le HRb.out hle7
      refine (HRd7.out.al (.cells #[.string Dn, .int .i64 Do, .slice aa Dl.length ca] 45)).keep (hgr.block R (by simp; omega) (fun e => ?_))
      have := (HOb.out R e.symm).1
      have h2 := HRb.out
      omega
    have HMp8 : Hid ((F ++ [(⟨⟨Dn, Do, Dl⟩, aa, ca⟩ : PR)]).map (·.y) = (List.range (k + 1)).map D) := by
      show _ = _
      rw [List.map_append, HMp.out, List.range_succ, List.map_append]
      simp [hY.out]
    have HL8 : Hid ((F ++ [(⟨⟨Dn, Do, Dl⟩, aa, ca⟩ : PR)]).length = k + 1) := by show _ = _; simp [hFk]
    clear hown hgr hat hat' hlt hle7 HE7 HEn7 HO7 HB7 HRd7 HK6 HAl c6_0 c6_1 c6_2 HMp hFk HOb HBw
    generalize F ++ [(⟨⟨Dn, Do, Dl⟩, aa, ca⟩ : PR)] = FF at *
    have HBw8 : Hid (Sr R w wa) := B1.out.trans HB8.out
    refine (HNx.out (ms k) _ (HMs.out k hk).1 (H0.out.trans HBw8.out) HRd8.out).mono ?_
    rintro e w9 ⟨rfl, hb, hrd⟩
    have HO9 : Hid (w9.ownsRow w1.heap.size 45 3 (.slice (some ⟨gg, 0, none⟩) (k + 1) cap) (k + 1) (pCells FF)) := own_sr HO8.out hb HRb.out
    have HE9 : Hid (∀ x ∈ FF, ElOk w.heap.size (some gg) w9 x) := fun x hx => (HE8.out x hx).sr hb HRl.out
    have HB9 : Hid (Sr R w1 w9) := HB8.out.trans hb
    have HRd9 : Hid (Rd w0 R (ms k).tail z w9) := hrd
    have HBw9 : Hid (Sr R w w9) := HBw8.out.trans hb
    clear hb hrd HO8 HE8 HB8 HRd8 HBw8
    go_wp2_with fail
    refine (HIs.out (pcF (ms k) z) ⟨#[97, 110, 100]⟩ w9 (HMs.out k hk).2 (by decide) (H0.out.trans HBw9.out)).mono ?_
    rintro e w10 ⟨rfl, hb⟩
    have HO10 : Hid (w10.ownsRow w1.heap.size 45 3 (.slice (some ⟨gg, 0, none⟩) (k + 1) cap) (k + 1) (pCells FF)) := own_sr HO9.out (Sr.of hb) HRb.out
    have HE10 : Hid (∀ x ∈ FF, ElOk w.heap.size (some gg) w10 x) := fun x hx => (HE9.out x hx).sr (Sr.of hb) HRl.out
    have HB10 : Hid (Sr R w1 w10) := HB9.out.trans (Sr.of hb)
    have HRd10 : Hid (Rd w0 R (ms k).tail z w10) := HRd9.out.below hb
    have HBw10 : Hid (Sr R w w10) := HBw9.out.trans (Sr.of hb)
    clear hb HO9 HE9 HB9 HRd9 HBw9
    by_cases hkn : k + 1 < n
    · obtain ⟨a1, a2, a3⟩ := HAn.out k hkn
      rw [a1]
      have HA3 : Hid (pc (k + 1) = pcF (ms k).tail z ∧ ls (k + 1) = (ms k).tail.tail) := ⟨a2, a3⟩
      clear a1 a2 a3
      have hml : (ms k).tail.length ≤ 1000000 := by
        have := (HMs.out k hk).1
        simp
        omega
      go_wp2_with fail
      refine (HNx.out (ms k).tail _ hml (H0.out.trans HBw10.out) HRd10.out).mono ?_
      rintro e w11 ⟨rfl, hb, hrd⟩
      have HEnd : Hid (∃ k' F', k' < n ∧ F'.length = k' ∧ Hid (F'.map (·.y) = (List.range k').map D) ∧ (pcF (ms k).tail z).v = (pc k').v ∧ Hid (w11.ownsRow w1.heap.size 45 3 (.slice (some ⟨gg, 0, none⟩) (k + 1) cap) k' (pCells F')) ∧ Hid (∀ x ∈ F', ElOk w.heap.size (Value.slice (some ⟨gg, 0, none⟩) (k + 1) cap).ownBlock w11 x) ∧ Hid (Sr R w1 w11) ∧ Hid (Rd w0 R (ls k') z w11)) :=
        ⟨k + 1, FF, hkn, HL8.out, HMp8.out, by rw [HA3.out.1], own_sr HO10.out hb HRb.out, fun x hx => (HE10.out x hx).sr hb HRl.out, HB10.out.trans hb, by show Rd _ _ _ _ _; rw [HA3.out.2]; exact hrd⟩
      clear hb hrd
      go_wp2
      go_roundw
      case rel => exact HEnd.out
      case measure => simp [slcN]; omega
    · obtain rfl : k = n - 1 := by omega
      have hn' : n - 1 + 1 = n := by omega
      rw [HEd.out, hLP.out]
      go_wp2_with fail
      have HEL := HEn.out LP w10
      rw [hEa.out, hEe.out] at HEL
      refine HEL.mono ?_
      clear HEL
      rintro e w11 ⟨rfl, hb⟩
      have HF11 : Hid (F2 w.heap.size 0 0 w11) := F2.of (C1.out w11 (HB10.out.trans (Sr.of hb)))
      have HS11 : Hid (Sr R w w11) := HBw10.out.trans (Sr.of hb)
      have HR11 : Hid (Rd w0 R TL z w11) := by show Rd _ _ _ _ _; rw [← hTL.out]; exact HRd10.out.below hb
      have HO11 : Hid (w11.ownsRow w1.heap.size 45 3 (.slice (some ⟨gg, 0, none⟩) (n - 1 + 1) cap) (n - 1 + 1) (pCells FF)) := own_sr HO10.out (Sr.of hb) HRb.out
      have HE11 : Hid (∀ x ∈ FF, ElOk w.heap.size (some gg) w11 x) := fun x hx => (HE10.out x hx).sr (Sr.of hb) HRl.out
      clear hb HO10 HE10 HB10 HRd10 HBw10
      have HMp9 : Hid (FF.map (·.y) = DD) := by show _ = _; rw [HMp8.out, hn', hDD.out]
      have HL9 : Hid (DD.length = n - 1 + 1) := by show _ = _; rw [HDl.out, hn']
      have HEnd : Hid (FlQ w0 R TL z DD ea ee w (.returned (.tuple #[.slice (some ⟨gg, 0, none⟩) (n - 1 + 1) cap, ftV ea ee])) ((w11.setCell ⟨w.heap.size, 0, none⟩ (.int .i64 ea)).setCell ⟨w.heap.size, 1, none⟩ (.int .i64 ee))) := by
        have hgne : gg ≠ w.heap.size := by
          have h1 := (HO11.out.lt gg rfl).1
          have h2 := hx1.out
          omega
        have s1 : Sr w.heap.size w11 (w11.setCell ⟨w.heap.size, 0, none⟩ (.int .i64 ea)) := Sr.setf _ _ _
        have s2 : Sr w.heap.size (w11.setCell ⟨w.heap.size, 0, none⟩ (.int .i64 ea)) ((w11.setCell ⟨w.heap.size, 0, none⟩ (.int .i64 ea)).setCell ⟨w.heap.size, 1, none⟩ (.int .i64 ee)) := Sr.setf _ _ _
        refine ⟨some ⟨gg, 0, none⟩, cap, FF, by rw [HL9.out], ⟨?_, fun x hx => ?_⟩, HMp9.out, (HS11.out.set (.inr (Nat.le_refl _)) 0 _).set (.inr (Nat.le_refl _)) 1 _, (HR11.out.set HRl.out 0 _).set HRl.out 1 _⟩
        · have hl : FF.length = DD.length := by rw [HL9.out]; exact HL8.out
          rw [hl, HL9.out]
          exact (s1.trans s2).row (IsRow.own HO11.out) (fun d hd => by cases hd; exact hgne)
        · have h9 := HE11.out x hx
          obtain ⟨y, a, c⟩ := x
          by_cases hl : y.l = []
          · have h1 := h9.1
            dsimp only [PR.v] at h1 ⊢
            rw [hl] at h1 ⊢
            exact row_none h1
          · refine (s1.trans s2).row h9.1 (fun d hd => ?_)
            have := (h9.2 hl d hd).1
            omega
      obtain ⟨f0, f1, ff, -⟩ := HF11.out
      go_wp2
      refine bodyPost_ret (v := .tuple #[.slice (some ⟨gg, 0, none⟩) (n - 1 + 1) cap, ftV ea ee]) ?_ rfl HEnd.out
      rw [results_tc rfl]; go_simp
end Go.Proofs.YtbekpemidpngaaaGreatDoor
