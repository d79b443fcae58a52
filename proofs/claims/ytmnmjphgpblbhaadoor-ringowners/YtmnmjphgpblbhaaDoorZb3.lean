/- ring.owner, ring.place: walks. -/
import Derived.Test.YtmnmjphgpblbhaaDoorZb2
import Derived.Shelf.SlicesQ.IndexFunc
import Derived.Deep.QuietTactic
import Derived.BigQuiet
namespace Go.Proofs.YtmnmjphgpblbhaaDoor
open Go.RowKit

theorem al_belowJ (w : World) (o : Obj) : Below w.heap.size w (w.alloc o) := (Below.refl _ _).alloc (Nat.le_refl _) _
set_option maxRecDepth 100000 in
theorem owner_fn (key : Int) (B : Nat) (w : World) (hB : B < w.heap.size) (hk : w.cell? ⟨B, 0, none⟩ = some (.int .u64 key)) :
    PredBelow Tryd.prog 49 #[.pointer (some ⟨B, 0, none⟩)] (fun x => .agg (enS x).toArray) (fun x : Int × Int => decide (key ≤ x.2)) w := by
  intro W x hb
  have hk2 : W.cell? ⟨B, 0, none⟩ = some (.int .u64 key) := (hb.cell (p := ⟨B, 0, none⟩) hB).trans hk
  have hs := hb.size
  have HB : Hid (Below w.heap.size w (W.alloc (.cells #[.int .i64 x.1, .int .u64 x.2] 51))) := hb.trans ((al_belowJ W _).mono hs)
  show Calls Tryd.prog 49 #[.agg #[.int .i64 x.1, .int .u64 x.2], .pointer (some ⟨B, 0, none⟩)] W _
  have hB2 : B < W.heap.size := by omega
  clear hb
  go_enter Tryd.func49, Tryd.ntmps49
  go_wp2
  go_ret
  exact ⟨rfl, HB.out⟩
set_option maxRecDepth 100000 in
theorem place_fn (node : Int) (B : Nat) (w : World) (hB : B < w.heap.size) (hk : w.cell? ⟨B, 0, none⟩ = some (.int .i64 node)) :
    PredBelow Tryd.prog 53 #[.pointer (some ⟨B, 0, none⟩)] (fun x => .agg (enS x).toArray) (fun x : Int × Int => x.1 == node) w := by
  intro W x hb
  have hk2 : W.cell? ⟨B, 0, none⟩ = some (.int .i64 node) := (hb.cell (p := ⟨B, 0, none⟩) hB).trans hk
  have hs := hb.size
  have HB : Hid (Below w.heap.size w (W.alloc (.cells #[.int .i64 x.1, .int .u64 x.2] 51))) := hb.trans ((al_belowJ W _).mono hs)
  show Calls Tryd.prog 53 #[.agg #[.int .i64 x.1, .int .u64 x.2], .pointer (some ⟨B, 0, none⟩)] W _
  have hB2 : B < W.heap.size := by omega
  clear hb
  go_enter Tryd.func53, Tryd.ntmps53
  go_wp2
  go_ret
  exact ⟨rfl, HB.out⟩
theorem index_none (a : Option Addr) (cap : Nat) (f : Value) (w : World) : Calls Tryd.prog 48 #[.slice a 0 cap, f] w fun e w' => e = .returned (.int .i64 (-1)) ∧ w' = w := by
  go_enter Tryd.func48, Tryd.ntmps48
  go_wp2_with fail
  refine wp_loop_rounds 1 ?_
  rw [rounds_succ]
  go_wp2
  go_ret
  exact ⟨rfl, rfl⟩
theorem index_any (p : Int × Int → Bool) (g : Nat) (lb : Array Value) (eg : ∀ args w, (callFunc g args).run Tryd.prog w = .ok (.enter g args) w) (v : Value) (D : List (Int × Int)) (w : World) (hr : IsRow w 2 v D.length (D.flatMap enS)) (hn : D.length ≤ 1000)
    (hp : PredBelow Tryd.prog g lb (fun x => .agg (enS x).toArray) p w) :
    Calls Tryd.prog 48 #[v, .func (.func g) #[] lb] w fun e w' => e = .returned (.int .i64 (Lib.idxBy (fun _ y => p y) D default)) ∧ Below w.heap.size w w' := by
  by_cases h0 : D.length = 0
  · obtain rfl := List.eq_nil_of_length_eq_zero h0
    obtain ⟨a, cap, rfl⟩ := hr.form
    refine (index_none a cap _ w).mono ?_
    rintro e w' ⟨rfl, rfl⟩
    exact ⟨rfl, Below.refl _ _⟩
  · obtain ⟨b, off, cap, rfl, hlt, q1, q2, hc⟩ := hr.open (by omega)
    have := AnyQ.slices_IndexFunc Tryd.idxSt 2 Tryd.isAgg51 Tryd.sizeOf51 enS (fun _ => rfl) p g lb eg b off D.length cap D w hp (Nat.le_refl _) (by omega) hlt (fun j hj i u hu => by
      have hi : i < 2 := (List.getElem?_eq_some_iff.1 hu).1
      refine hc (j * 2 + i) u ?_ |> fun h => by rw [Nat.add_assoc]; exact h
      rw [flat_get D (j * 2 + i) (by omega), show (j * 2 + i) / 2 = j by omega, show (j * 2 + i) % 2 = i by omega, ← hu]
      rw [List.getElem?_eq_getElem hi, getElem!_pos _ i hi])
    rw [List.take_length] at this
    exact this
set_option maxRecDepth 100000 in
theorem owner_any (key : Nat) (v : Value) (r : List Nat) (w : World) (hr : IsRow w 2 v r.length (stCells r)) (hs : r.Pairwise (fun a b => pt a < pt b)) (hn : r.length ≤ 1000) :
    Calls Tryd.prog 32 #[.int .u64 (key : Int), v] w fun e w' => e = .returned (.int .i64 (owI key r : Int)) ∧ Below w.heap.size w w' := by
  have eg : ∀ args w, (callFunc 49 args).run Tryd.prog w = .ok (.enter 49 args) w := enters_of Tryd.func49 (by kernel_rfl) rfl
  have hA := al_belowJ w (.cells #[.int .u64 (key : Int)] 22)
  have HX := idx_owner key r hs
  have hi := index_any (fun x : Int × Int => decide ((key : Int) ≤ x.2)) 49 #[.pointer (some ⟨w.heap.size, 0, none⟩)] eg v (r.map st) (w.alloc (.cells #[.int .u64 (key : Int)] 22)) (by rw [List.length_map]; exact hr.below hA) (by rw [List.length_map]; exact hn) (owner_fn (key : Int) w.heap.size _ (by simp) (by simp))
  generalize Lib.idxBy (fun _ (y : Int × Int) => decide ((key : Int) ≤ y.2)) (r.map st) default = X at *
  have HI : Hid (Calls Tryd.prog 48 #[v, .func (.func 49) #[] #[.pointer (some ⟨w.heap.size, 0, none⟩)]] (w.alloc (.cells #[.int .u64 (key : Int)] 22)) fun e w' => e = .returned (.int .i64 X) ∧ Below (w.heap.size + 1) (w.alloc (.cells #[.int .u64 (key : Int)] 22)) w') := hi.mono fun e w' h => ⟨h.1, h.2.mono (by simp)⟩
  clear hi eg
  have HXX : Hid (max X 0 = (owI key r : Int)) := HX
  clear HX
  go_enter Tryd.func32, Tryd.ntmps32
  go_wp2_with fail
  refine HI.out.mono ?_
  rintro e w1 ⟨rfl, hb1⟩
  have HB : Hid (Below w.heap.size w w1) := hA.trans (hb1.mono (by omega))
  clear hb1 hA
  go_wp2
  go_ret
  exact ⟨by rw [← HXX.out]; rfl, HB.out⟩
/-- The place of a node on a ring. -/
def plI (node : Int) (r : List Nat) : Int := Lib.idxBy (fun _ (y : Int × Int) => y.1 == node) (r.map st) default
set_option maxRecDepth 100000 in
theorem place_any (node : Int) (v : Value) (r : List Nat) (w : World) (hr : IsRow w 2 v r.length (stCells r)) (hn : r.length ≤ 1000) :
    Calls Tryd.prog 43 #[.int .i64 node, v] w fun e w' => e = .returned (.int .i64 (plI node r)) ∧ Below w.heap.size w w' := by
  have eg : ∀ args w, (callFunc 53 args).run Tryd.prog w = .ok (.enter 53 args) w := enters_of Tryd.func53 (by kernel_rfl) rfl
  have hA := al_belowJ w (.cells #[.int .i64 node] 3)
  have hi := index_any (fun x : Int × Int => x.1 == node) 53 #[.pointer (some ⟨w.heap.size, 0, none⟩)] eg v (r.map st) (w.alloc (.cells #[.int .i64 node] 3)) (by rw [List.length_map]; exact hr.below hA) (by rw [List.length_map]; exact hn) (place_fn node w.heap.size _ (by simp) (by simp))
  unfold plI
  generalize Lib.idxBy (fun _ (y : Int × Int) => y.1 == node) (r.map st) default = X at *
  have HI : Hid (Calls Tryd.prog 48 #[v, .func (.func 53) #[] #[.pointer (some ⟨w.heap.size, 0, none⟩)]] (w.alloc (.cells #[.int .i64 node] 3)) fun e w' => e = .returned (.int .i64 X) ∧ Below (w.heap.size + 1) (w.alloc (.cells #[.int .i64 node] 3)) w') := hi.mono fun e w' h => ⟨h.1, h.2.mono (by simp)⟩
  clear hi eg
  go_enter Tryd.func43, Tryd.ntmps43
  go_wp2_with fail
  refine HI.out.mono ?_
  rintro e w1 ⟨rfl, hb1⟩
  have HB : Hid (Below w.heap.size w w1) := hA.trans (hb1.mono (by omega))
  clear hb1 hA
  go_wp2
  go_ret
  exact ⟨rfl, HB.out⟩
end Go.Proofs.YtmnmjphgpblbhaaDoor
/- ring.Ring, ring.Owner, ring.Heirs: walks. -/
namespace Go.Proofs.YtmnmjphgpblbhaaDoor
open Go.RowKit

/-- Nodes in cells. -/
def nCells (r : List Nat) : List Value := r.map fun (n : Nat) => .int .i64 (n : Int)
theorem nCells_is (r : List Nat) : nCells r = iCells (r.map fun (n : Nat) => (n : Int)) := by simp [nCells, iCells]
/-- What hands back nodes leaves. -/
def RwPost (r : List Nat) (w : World) (e : Ending) (w' : World) : Prop :=
  ∃ v', e = .returned v' ∧ IsRow w' 1 v' r.length (nCells r) ∧ Below w.heap.size w w'
theorem nCells_take (r : List Nat) (k : Nat) (hk : k < r.length) : nCells (r.take (k + 1)) = nCells (r.take k) ++ [.int .i64 (r[k] : Int)] := by
  unfold nCells
  rw [List.take_succ_eq_append_getElem hk, List.map_append]
  rfl
theorem st_at {w : World} {a : Option Addr} {cap : Nat} {r : List Nat} (h : IsRow w 2 (.slice a r.length cap) r.length (stCells r)) (k : Nat) (hk : k < r.length) :
    ∃ b off, a = some ⟨b, off, none⟩ ∧ b < w.heap.size ∧ r.length ≤ cap ∧ w.cell? ⟨b, off + k * 2, none⟩ = some (.int .i64 (r[k] : Int)) ∧ w.cell? ⟨b, off + k * 2 + 1, none⟩ = some (.int .u64 (pt r[k] : Int)) := by
  obtain ⟨b, off, cap', hv, hlt, q1, q2, hc⟩ := h.open (by omega)
  simp only [Value.slice.injEq] at hv
  have hl : (r.map st).length = r.length := List.length_map _
  have e : (r.map st)[k]! = st r[k] := by rw [getElem!_pos (r.map st) k (by rw [hl]; exact hk)]; simp
  have g0 := flat_get (r.map st) (k * 2) (by omega)
  have g1 := flat_get (r.map st) (k * 2 + 1) (by omega)
  rw [show k * 2 / 2 = k by omega, show k * 2 % 2 = 0 by omega, e] at g0
  rw [show (k * 2 + 1) / 2 = k by omega, show (k * 2 + 1) % 2 = 1 by omega, e] at g1
  refine ⟨b, off, hv.1, hlt, by omega, ?_, ?_⟩
  · exact hc (k * 2) _ g0
  · have := hc (k * 2 + 1) _ g1
    rw [← Nat.add_assoc] at this
    exact this
theorem wpl_app1 {P : Program} (wr : World) {ops : Array Oper} {rest : List Oper} {o : Oper} {a : Act} {Q : Exit → Act → World → Prop} (hgd : o.guard = none) (s x : Operand) (t e : TypeId)
    (ho : o.op = .call { callee := .builtin .append, args := #[s, x], argTypes := #[t, t] })
    (i : TypeInfo) (z : Value) (bytes : Nat) (ht : P.underlying t = some (.slice e)) (hi : P.info? e = some i) (hz : i.zero = some z)
    (hsize : i.size = 1) (hby : i.bytes = bytes) (hzs : z.cells.size = 1)
    (base : Nat) (v : Value) (n : Nat) (xs : List Value) (hs : a.eval s = v) (hown : wr.ownsRow base e 1 v n xs)
    (el : Value) (N : Nat) (hN : N = wr.heap.size) (hx : a.eval x = .slice (some ⟨N, 0, none⟩) 1 1) (h1 : el.oneCell' = true)
    (hbytes : (n + 1) * bytes ≤ 140737488355328) (h63 : n + 1 ≤ maxLen) (hbase : base ≤ wr.heap.size)
    (h : ∀ v' w', w'.ownsRow base e 1 v' (n + 1) (xs ++ [el]) → Below base wr w' → v' ≠ .slice none 0 0 → wpList P ops Q rest (a.put o.dst v') w') :
    wpList P ops Q (o :: rest) a (wr.alloc (.cells #[el] e)) := by
  subst hN
  exact wpl_app wr hgd s x t e ho i z bytes ht hi hz hsize hby hzs base v n xs hs hown el hx h1 hbytes h63 hbase h
theorem info_in : (Tryd.prog.info? 3).map (fun i => (i.zero, i.size, i.bytes)) = some (some (.int .i64 0), 1, 8) := by kernel_rfl
theorem rg_le (l : List Int) : (rgL l).length ≤ 15 := by
  unfold rgL
  split
  · exact List.length_filter_le _ _
  · simp
set_option maxRecDepth 100000 in
set_option maxHeartbeats 1000000 in
theorem ring_any (v : Value) (l : List Int) (w : World) (hr : IsRow w 1 v l.length (iCells l)) (hl : l.length ≤ 1000) :
    Calls Tryd.prog 16 #[v] w fun e w' => RwPost (rgL l) w e w' := by
  have HS : Hid (Calls Tryd.prog 31 #[v] w fun e w' => StPost l w e w') := stands_any v l w hr hl
  have hrl := rg_le l
  generalize hR : rgL l = r at *
  clear hr
  obtain ⟨i0, hi0, hz0, hz1, hz2⟩ := info_parts info_in
  go_enter Tryd.func16, Tryd.ntmps16
  go_wp2_with fail
  refine HS.out.mono ?_
  rintro e w1 ⟨v1, rfl, hrow, hb1⟩
  rw [hR] at hrow
  clear hR HS
  obtain ⟨a1, cap1, rfl⟩ := hrow.form
  have HR : Hid (IsRow w1 2 (.slice a1 r.length cap1) r.length (stCells r)) := hrow
  have HB1 : Hid (Below w.heap.size w w1) := hb1
  have hs1 := hb1.size
  clear hrow hb1
  go_wp2_with fail
  go_loopw [2, 8] (fun o i wr => ∃ k : Nat, k ≤ r.length ∧ i = .int .i64 (k : Int) ∧ wr.ownsRow w1.heap.size 3 1 o k (nCells (r.take k)) ∧ Below w1.heap.size w1 wr) (fun _ i _ => r.length - (intOf i).toNat)
  case atStart => exact ⟨0, Nat.zero_le _, rfl, World.ownsRow_nil _ _ _ _, Below.refl _ _⟩
  case round =>
    obtain ⟨k, hk, rfl, hown, hB⟩ := hrel
    have hsz := hB.size
    by_cases hlk : k < r.length
    · have dk : decide ((k : Int) < r.length) = true := by simp; omega
      obtain ⟨b, off, rfl, hlt, -, c0, c1⟩ := st_at (HR.out.below hB) k hlk
      have HT : Hid (nCells (r.take (k + 1)) = nCells (r.take k) ++ [.int .i64 (r[k] : Int)]) := nCells_take r k hlk
      have HO : Hid ((wr.alloc (.cells #[.int .i64 (r[k] : Int), .int .u64 (pt r[k] : Int)] 51)).ownsRow w1.heap.size 3 1 u2 k (nCells (r.take k))) := own_belowJ hown (al_belowJ wr _)
      have HBa : Hid (Below w1.heap.size w1 (wr.alloc (.cells #[.int .i64 (r[k] : Int), .int .u64 (pt r[k] : Int)] 51))) := hB.trans ((al_belowJ wr _).mono hsz)
      generalize pt r[k] = y at *
      generalize r[k]'hlk = x at *
      have hsa : w1.heap.size ≤ (wr.alloc (.cells #[.int .i64 (x : Int), .int .u64 (y : Int)] 51)).heap.size := HBa.out.size
      clear hown hB
      go_wp2_with (at_builtin; go_loud (refine wpl_app1 (wr.alloc (.cells #[.int .i64 (x : Int), .int .u64 (y : Int)] 51)) rfl (.tmp 12) (.tmp 15) 23 3 rfl i0 _ 8 Tryd.underlying23 hi0 hz0 hz1 hz2 rfl w1.heap.size u2 k _ rfl HO.out (.int .i64 (x : Int)) (wr.heap.size + 1) (by simp) rfl rfl (by omega) (by unfold maxLen; omega) hsa ?_; intro v4 w4 hown4 hb4 hne4))
      have HO4 : Hid (w4.ownsRow w1.heap.size 3 1 v4 (k + 1) (nCells (r.take (k + 1)))) := by show World.ownsRow _ _ _ _ _ _ _; rw [HT.out]; exact hown4
      have HB4 : Hid (Below w1.heap.size w1 w4) := HBa.out.trans hb4
      clear hown4 hb4 HT HO hne4
      go_wp2
      go_roundw
      case rel => exact ⟨k + 1, by omega, by simp, HO4.out, HB4.out⟩
      case measure => simp [intOf]; omega
    · have hk' : k = r.length := by omega
      subst hk'
      have dk : decide ((r.length : Int) < r.length) = false := by simp
      rw [List.take_of_length_le (Nat.le_refl _)] at hown
      have HO : Hid (IsRow wr 1 u2 r.length (nCells r)) := IsRow.own hown
      have HB : Hid (Below w.heap.size w wr) := HB1.out.trans (hB.mono hs1)
      clear hown hB
      go_wp2
      go_ret
      exact ⟨_, rfl, HO.out, HB.out⟩
/-- A key's owner; 0: there is none. -/
noncomputable def ownL (key : Nat) (l : List Int) : Nat := (hsL key (rgL l)).head?.getD 0
noncomputable def hasL (l : List Int) : Bool := !(rgL l).isEmpty
set_option maxRecDepth 100000 in
theorem ownerL_any (key : Nat) (v : Value) (l : List Int) (w : World) (hr : IsRow w 1 v l.length (iCells l)) (hl : l.length ≤ 1000) :
    Calls Tryd.prog 11 #[.int .u64 (key : Int), v] w fun e w' => e = .returned (.tuple #[.int .i64 (ownL key l : Int), .bool (hasL l)]) ∧ Below w.heap.size w w' := by
  have HS : Hid (Calls Tryd.prog 31 #[v] w fun e w' => StPost l w e w') := stands_any v l w hr hl
  have hrl := rg_le l
  have hsr := rgL_sorted l
  unfold ownL hasL
  generalize hR : rgL l = r at *
  clear hr
  by_cases h0 : r.length = 0
  · obtain rfl := List.eq_nil_of_length_eq_zero h0
    go_enter Tryd.func11, Tryd.ntmps11
    go_wp2_with fail
    refine HS.out.mono ?_
    rintro e w1 ⟨v1, rfl, hrow, hb1⟩
    rw [hR] at hrow
    clear hR HS hsr
    obtain ⟨a1, cap1, rfl⟩ := hrow.form
    clear hrow
    go_wp2
    go_ret2
    exact ⟨rfl, hb1⟩
  · have hp : 0 < r.length := by omega
    have HOw : Hid (∀ v w, IsRow w 2 v r.length (stCells r) → Calls Tryd.prog 32 #[.int .u64 (key : Int), v] w fun e w' => e = .returned (.int .i64 (owI key r : Int)) ∧ Below w.heap.size w w') := fun v w h => owner_any key v r w h hsr (by omega)
    have hlt := owI_lt key r hsr hp
    have hat := owner_at key r hsr hp
    generalize owI key r = q at *
    have HV : Hid (((hsL key r).head?.getD 0 : Nat) = r[q]) := by
      show _ = _
      rw [List.head?_eq_getElem?, ← hat, List.getElem?_eq_getElem hlt]
      rfl
    have HE : Hid ((!r.isEmpty) = true) := by
      show _ = _
      cases r with
      | nil => exact absurd rfl h0
      | cons a b => rfl
    rw [HV.out, HE.out]
    have d0 : ((r.length : Int) == 0) = false := by rw [beq_eq_false_iff_ne]; omega
    clear hat HV HE
    go_enter Tryd.func11, Tryd.ntmps11
    go_wp2_with fail
    refine HS.out.mono ?_
    rintro e w1 ⟨v1, rfl, hrow, hb1⟩
    rw [hR] at hrow
    clear hR HS hsr
    obtain ⟨a1, cap1, rfl⟩ := hrow.form
    have HR : Hid (IsRow w1 2 (.slice a1 r.length cap1) r.length (stCells r)) := hrow
    clear hrow
    go_wp2_with fail
    refine (HOw.out _ _ HR.out).mono ?_
    rintro e w2 ⟨rfl, hb2⟩
    obtain ⟨b, off, rfl, hltb, -, c0, c1⟩ := st_at (HR.out.below hb2) q hlt
    have HB : Hid (Below w.heap.size w w2) := hb1.trans (hb2.mono hb1.size)
    clear hb1 hb2 HR
    go_wp2
    go_ret2
    exact ⟨rfl, HB.out⟩
set_option maxRecDepth 100000 in
set_option maxHeartbeats 1000000 in
theorem heirs_any (key : Nat) (v : Value) (l : List Int) (most : Int) (w : World) (hr : IsRow w 1 v l.length (iCells l)) (hl : l.length ≤ 1000) :
    Calls Tryd.prog 18 #[.int .u64 (key : Int), v, .int .i64 most] w fun e w' => RwPost ((hsL key (rgL l)).take most.toNat) w e w' := by
  have HS : Hid (Calls Tryd.prog 31 #[v] w fun e w' => StPost l w e w') := stands_any v l w hr hl
  have hrl := rg_le l
  have hsr := rgL_sorted l
  generalize hR : rgL l = r at *
  clear hr
  have HOw : Hid (∀ v w, IsRow w 2 v r.length (stCells r) → Calls Tryd.prog 32 #[.int .u64 (key : Int), v] w fun e w' => e = .returned (.int .i64 (owI key r : Int)) ∧ Below w.heap.size w w') := fun v w h => owner_any key v r w h hsr (by omega)
  have HAt : Hid (∀ (i : Nat), i < r.length → r[(owI key r + i) % r.length]? = (hsL key r)[i]?) := fun i hi => heir_at key r hsr i hi
  have HLn : Hid ((hsL key r).length = r.length) := hsL_len key r hsr
  have hq15 : owI key r ≤ 15 := by
    by_cases h0 : 0 < r.length
    · have := owI_lt key r hsr h0; omega
    · have : r = [] := List.eq_nil_of_length_eq_zero (by omega)
      subst this
      show (if _ then _ else _) ≤ 15
      simp
  generalize owI key r = q at *
  generalize hsL key r = H at *
  obtain ⟨M, hM⟩ : ∃ M : Nat, M = (min most (r.length : Int)).toNat := ⟨_, rfl⟩
  have HM : Hid (∀ k : Nat, decide ((k : Int) < min most (r.length : Int)) = decide (k < M)) := fun k => by
    rw [hM]
    by_cases h : (k : Int) < min most (r.length : Int)
    · rw [decide_eq_true h, decide_eq_true (by omega)]
    · rw [decide_eq_false h, decide_eq_false (by omega)]
  have hMr : M ≤ r.length := by omega
  have HTk : Hid (H.take most.toNat = H.take M) := by
    show _ = _
    by_cases h : most.toNat ≤ r.length
    · rw [show M = most.toNat by omega]
    · rw [List.take_of_length_le (by rw [HLn.out]; omega), List.take_of_length_le (by rw [HLn.out]; omega)]
  rw [HTk.out]
  clear HTk hM
  obtain ⟨i0, hi0, hz0, hz1, hz2⟩ := info_parts info_in
  go_enter Tryd.func18, Tryd.ntmps18
  go_wp2_with fail
  refine HS.out.mono ?_
  rintro e w1 ⟨v1, rfl, hrow, hb1⟩
  rw [hR] at hrow
  clear hR HS
  obtain ⟨a1, cap1, rfl⟩ := hrow.form
  have HR1 : Hid (IsRow w1 2 (.slice a1 r.length cap1) r.length (stCells r)) := hrow
  clear hrow
  go_wp2_with fail
  refine (HOw.out _ _ HR1.out).mono ?_
  rintro e w2 ⟨rfl, hb2⟩
  have HR : Hid (IsRow w2 2 (.slice a1 r.length cap1) r.length (stCells r)) := HR1.out.below hb2
  have HB2 : Hid (Below w.heap.size w w2) := hb1.trans (hb2.mono hb1.size)
  have hs2 := HB2.out.size
  clear hb1 hb2 HR1 HOw
  go_wp2_with fail
  go_loopw [6, 19] (fun o i wr => ∃ k : Nat, k ≤ M ∧ i = .int .i64 (k : Int) ∧ wr.ownsRow w2.heap.size 3 1 o k (nCells (H.take k)) ∧ Below w2.heap.size w2 wr) (fun _ i _ => M - (intOf i).toNat)
  case atStart => exact ⟨0, Nat.zero_le _, rfl, World.ownsRow_nil _ _ _ _, Below.refl _ _⟩
  case round =>
    obtain ⟨k, hk, rfl, hown, hB⟩ := hrel
    have hsz := hB.size
    have dk := HM.out k
    by_cases hlk : k < M
    · rw [decide_eq_true hlk] at dk
      have hlr : k < r.length := by omega
      have hlH : k < H.length := by rw [HLn.out]; exact hlr
      have hpl : (q + k) % r.length < r.length := Nat.mod_lt _ (by omega)
      obtain ⟨b, off, rfl, hlt, -, c0, c1⟩ := st_at (HR.out.below hB) ((q + k) % r.length) hpl
      have hx := HAt.out k hlr
      rw [List.getElem?_eq_getElem hpl, List.getElem?_eq_getElem hlH, Option.some.injEq] at hx
      rw [hx] at c0
      have HT : Hid (nCells (H.take (k + 1)) = nCells (H.take k) ++ [.int .i64 (H[k] : Int)]) := nCells_take H k hlH
      have HO : Hid (wr.ownsRow w2.heap.size 3 1 u6 k (nCells (H.take k))) := hown
      have hmod : ((q : Int) + k) % r.length = (((q + k) % r.length : Nat) : Int) := by simp
      have hmod2 : ((q : Int) + k).tmod r.length = (((q + k) % r.length : Nat) : Int) := by rw [Int.tmod_eq_emod_of_nonneg (by omega)]; exact hmod
      have hr0 : ((r.length : Int) == 0) = false := by rw [beq_eq_false_iff_ne]; omega
      generalize hmm : (q + k) % r.length = mm at *
      generalize H[k]'hlH = x at *
      clear hown hx c1 hmm
      go_wp2_with (at_builtin; go_loud (refine wpl_app1 wr rfl (.tmp 22) (.tmp 33) 23 3 rfl i0 _ 8 Tryd.underlying23 hi0 hz0 hz1 hz2 rfl w2.heap.size u6 k _ rfl HO.out (.int .i64 (x : Int)) _ rfl rfl rfl (by omega) (by unfold maxLen; omega) hsz ?_; intro v4 w4 hown4 hb4 hne4))
      have HO4 : Hid (w4.ownsRow w2.heap.size 3 1 v4 (k + 1) (nCells (H.take (k + 1)))) := by show World.ownsRow _ _ _ _ _ _ _; rw [HT.out]; exact hown4
      have HB4 : Hid (Below w2.heap.size w2 w4) := hB.trans hb4
      clear hown4 hb4 HT HO hne4 hB
      go_wp2
      go_roundw
      case rel => exact ⟨k + 1, by omega, by simp, HO4.out, HB4.out⟩
      case measure => simp [intOf]; omega
    · rw [decide_eq_false hlk] at dk
      have hk' : k = M := by omega
      subst hk'
      have HO : Hid (IsRow wr 1 u6 (H.take k).length (nCells (H.take k))) := by
        show IsRow _ _ _ _ _
        rw [List.length_take, Nat.min_eq_left (by rw [HLn.out]; omega)]
        exact IsRow.own hown
      have HB : Hid (Below w.heap.size w wr) := HB2.out.trans (hB.mono hs2)
      clear hown hB
      go_wp2
      go_ret
      exact ⟨_, rfl, HO.out, HB.out⟩
end Go.Proofs.YtmnmjphgpblbhaaDoor
/- slices.Contains of ints; ring.fingers, ring.Fingers: walks. -/
namespace Go.Proofs.YtmnmjphgpblbhaaDoor
open Go.RowKit

def IxPost (x : Int) (l : List Int) (w : World) (e : Ending) (w' : World) : Prop := ∃ X : Int, e = .returned (.int .i64 X) ∧ decide (0 ≤ X) = decide (x ∈ l) ∧ w' = w
set_option maxRecDepth 100000 in
theorem index_int (v : Value) (l : List Int) (x : Int) (w : World) (hr : IsRow w 1 v l.length (iCells l)) (hl : l.length ≤ 1000) :
    Calls Tryd.prog 65 #[v, .int .i64 x] w fun e w' => IxPost x l w e w' := by
  obtain ⟨a0, cap0, rfl⟩ := hr.form
  have HR : Hid (IsRow w 1 (.slice a0 l.length cap0) l.length (iCells l)) := hr
  clear hr
  go_enter Tryd.func65, Tryd.ntmps65
  go_wp2_with fail
  go_loopw [4, 8] (fun r i wr => r = .int .i64 0 ∧ ∃ k : Nat, k ≤ l.length ∧ i = .int .i64 (k : Int) ∧ Hid (∀ (j : Nat) (h : j < l.length), j < k → l[j] ≠ x) ∧ w = wr) (fun _ i _ => l.length - (intOf i).toNat)
  case atStart => exact ⟨rfl, 0, Nat.zero_le _, rfl, fun j h hj => absurd hj (Nat.not_lt_zero _), rfl⟩
  case round =>
    obtain ⟨rfl, k, hk, rfl, HO, rfl⟩ := hrel
    by_cases hlk : k < l.length
    · have dk : decide ((k : Int) < l.length) = true := by simp; omega
      obtain ⟨b, off, rfl, -, hlt, hcap, hc⟩ := iCells_at HR.out (by omega)
      have ck := hc k hlk
      by_cases he : l[k] = x
      · have HX : Hid (decide ((0 : Int) ≤ (k : Int)) = decide (x ∈ l)) := by
          show _ = _
          rw [decide_eq_true (by omega), decide_eq_true (by rw [← he]; exact List.getElem_mem hlk)]
        rw [he] at ck
        clear hc HO he
        go_wp2
        go_ret
        exact ⟨_, rfl, HX.out, rfl⟩
      · have de : (x == l[k]) = false := by rw [beq_eq_false_iff_ne]; exact fun h => he h.symm
        have HO2 : Hid (∀ (j : Nat) (h : j < l.length), j < k + 1 → l[j] ≠ x) := fun j h hj => by
          by_cases e : j = k
          · subst e; exact he
          · exact HO.out j h (by omega)
        generalize l[k]'hlk = y at *
        clear hc HO he
        go_wp2
        go_roundw
        case rel => exact ⟨rfl, k + 1, by omega, by simp, HO2, trivial⟩
        case measure => simp [intOf]; omega
    · have dk : decide ((k : Int) < l.length) = false := by simp; omega
      have HX : Hid (decide ((0 : Int) ≤ -1) = decide (x ∈ l)) := by
        show _ = _
        rw [decide_eq_false (by decide), decide_eq_false]
        intro hm
        obtain ⟨j, hj, e⟩ := List.mem_iff_getElem.1 hm
        exact HO.out j hj (by omega) e
      clear HO
      go_wp2
      go_ret
      exact ⟨_, rfl, HX.out, rfl⟩
set_option maxRecDepth 100000 in
theorem contains_int (v : Value) (l : List Int) (x : Int) (w : World) (hr : IsRow w 1 v l.length (iCells l)) (hl : l.length ≤ 1000) :
    Calls Tryd.prog 54 #[v, .int .i64 x] w fun e w' => e = .returned (.bool (decide (x ∈ l))) ∧ w' = w := by
  have HI : Hid (Calls Tryd.prog 65 #[v, .int .i64 x] w fun e w' => IxPost x l w e w') := index_int v l x w hr hl
  clear hr
  go_enter Tryd.func54, Tryd.ntmps54
  go_wp2_with fail
  refine HI.out.mono ?_
  rintro e w' ⟨X, rfl, hX, hw⟩
  subst hw
  have HX : Hid (decide (0 ≤ X) = decide (x ∈ l)) := hX
  clear hX
  go_wp2
  go_ret
  exact ⟨by rw [← HX.out]; rfl, rfl⟩
/-- The key of a finger. -/
def fkey (p i : Nat) : Nat := (p + 2 ^ i) % 18446744073709551616
/-- The places of the fingers of what stands at a place, as far as the first so many bits tell. -/
def fgL (a : Nat) (r : List Nat) (p : Nat) : Nat → List Nat
  | 0 => []
  | k + 1 => if owI (fkey p k) r ≠ a ∧ owI (fkey p k) r ∉ fgL a r p k then fgL a r p k ++ [owI (fkey p k) r] else fgL a r p k
theorem fgL_len (a : Nat) (r : List Nat) (p : Nat) : ∀ k, (fgL a r p k).length ≤ k
  | 0 => Nat.le_refl _
  | k + 1 => by
    have := fgL_len a r p k
    unfold fgL
    split
    · rw [List.length_append, List.length_singleton]; omega
    · omega
theorem wrap_key (p k : Nat) : IntKind.u64.wrap ((p : Int) + IntKind.u64.wrap (2 ^ k)) = (fkey p k : Int) := by
  have e : ((2 : Int) ^ k) = ((2 ^ k : Nat) : Int) := by simp
  unfold fkey
  rw [e]
  generalize 2 ^ k = z
  rw [IntKind.wrap_u64, IntKind.wrap_u64]
  omega
abbrev SF (b o : Nat) (p : Int) (wr w : World) : Prop := w.cell? ⟨b, o, none⟩ = some (.int .u64 p) ∧ b < w.heap.size ∧ Below wr.heap.size wr w
theorem SF_drew {b o : Nat} {p : Int} {wr W : World} (h : SF b o p wr W) : SF b o p wr W.drew := ⟨h.1, h.2.1, h.2.2.drew⟩
theorem SF_call {b o : Nat} {p : Int} {wr W w' : World} (hb : Below W.heap.size W w') (h : SF b o p wr W) : SF b o p wr w' := ⟨(hb.cell (p := ⟨b, o, none⟩) h.2.1).trans h.1, Nat.lt_of_lt_of_le h.2.1 hb.size, h.2.2.trans (hb.mono h.2.2.size)⟩
theorem mem_cast (q : Nat) (l : List Nat) : decide ((q : Int) ∈ l.map fun (n : Nat) => (n : Int)) = decide (q ∈ l) := by
  by_cases h : q ∈ l
  · rw [decide_eq_true h, decide_eq_true (List.mem_map.2 ⟨q, h, rfl⟩)]
  · rw [decide_eq_false h, decide_eq_false]
    intro hm
    obtain ⟨n, hn, e⟩ := List.mem_map.1 hm
    have : n = q := by omega
    exact h (this ▸ hn)
theorem nCells_snoc (r : List Nat) (x : Nat) : nCells (r ++ [x]) = nCells r ++ [.int .i64 (x : Int)] := by simp [nCells]
set_option maxRecDepth 100000 in
set_option maxHeartbeats 2000000 in
theorem fingers_any (a : Nat) (v : Value) (r : List Nat) (w : World) (ha : a < r.length) (hr : IsRow w 2 v r.length (stCells r)) (hs : r.Pairwise (fun a b => pt a < pt b)) (hn : r.length ≤ 15) :
    Calls Tryd.prog 45 #[.int .i64 (a : Int), v] w fun e w' => RwPost (fgL a r (pt r[a]) 64) w e w' := by
  obtain ⟨a1, cap1, rfl⟩ := hr.form
  have HR : Hid (IsRow w 2 (.slice a1 r.length cap1) r.length (stCells r)) := hr
  clear hr
  have HOw : Hid (∀ (key : Nat) v w, IsRow w 2 v r.length (stCells r) → Calls Tryd.prog 32 #[.int .u64 (key : Int), v] w fun e w' => e = .returned (.int .i64 (owI key r : Int)) ∧ Below w.heap.size w w') := fun key v w h => owner_any key v r w h hs (by omega)
  obtain ⟨i0, hi0, hz0, hz1, hz2⟩ := info_parts info_in
  go_enter Tryd.func45, Tryd.ntmps45
  go_wp2_with fail
  go_loopw [4, 7] (fun o i wr => ∃ k : Nat, k ≤ 64 ∧ i = .int .i64 (k : Int) ∧ wr.ownsRow w.heap.size 3 1 o (fgL a r (pt r[a]) k).length (nCells (fgL a r (pt r[a]) k)) ∧ Below w.heap.size w wr) (fun _ i _ => 64 - (intOf i).toNat)
  case atStart => exact ⟨0, Nat.zero_le _, rfl, World.ownsRow_nil _ _ _ _, Below.refl _ _⟩
  case round =>
    obtain ⟨k, hk, rfl, hown, hB⟩ := hrel
    have hsz := hB.size
    by_cases hlk : k < 64
    · have dk : decide ((k : Int) < 64) = true := by simp; omega
      obtain ⟨b, off, rfl, hlt, hcap, c0, c1⟩ := st_at (HR.out.below hB) a ha
      have HRr : Hid (∀ w', Below wr.heap.size wr w' → IsRow w' 2 (.slice (some ⟨b, off, none⟩) r.length cap1) r.length (stCells r)) := fun w' h => (HR.out.below hB).below h
      generalize pt r[a] = p at *
      have hl := fgL_len a r p k
      go_wp2_with fail
      have hS : SF b (off + a * 2 + 1) (p : Int) wr wr := ⟨c1, hlt, Below.refl _ _⟩
      have hwk := wrap_key p k
      generalize hq : owI (fkey p k) r = q at *
      have HOq : Hid (∀ v w, IsRow w 2 v r.length (stCells r) → Calls Tryd.prog 32 #[.int .u64 (IntKind.u64.wrap ((p : Int) + IntKind.u64.wrap (2 ^ k))), v] w fun e w' => e = .returned (.int .i64 (q : Int)) ∧ Below w.heap.size w w') := fun v w h => by
        have := HOw.out (fkey p k) v w h
        rw [hq] at this
        rw [hwk]
        exact this
      have HF : Hid (fgL a r p (k + 1) = if q ≠ a ∧ q ∉ fgL a r p k then fgL a r p k ++ [q] else fgL a r p k) := by
        show _ = _
        rw [← hq]
        rfl
      have HO : Hid (wr.ownsRow w.heap.size 3 1 u4 (fgL a r p k).length (nCells (fgL a r p k))) := hown
      clear c0 c1 hwk hown HOw
      go_region_held3 (fun w' => SF b (off + a * 2 + 1) (p : Int) wr w') (first | assumption | exact SF_call (by assumption) (by assumption) | exact SF_drew (by assumption))
        (first | (go_at_call 32; refine (HOq.out _ _ (HRr.out _ (Below.drew (And.right (And.right (show SF b (off + a * 2 + 1) (p : Int) wr _ by assumption)))))).mono ?_; rintro e w' ⟨rfl, hb⟩))
      rename_i hS2
      generalize hw2 : w' = w2 at *
      have hB2 := hS2.2.2
      have hs2 := hB2.size
      have HW2 : Hid (Below w.heap.size w w2) := hB.trans (hB2.mono hsz)
      have HO2 : Hid (w2.ownsRow w.heap.size 3 1 u4 (fgL a r p k).length (nCells (fgL a r p k))) := own_belowJ HO.out hB2
      have hsw : w.heap.size ≤ w2.heap.size := by omega
      generalize fgL a r p k = L at *
      clear hS2 hB2 hS HO hB HOq HRr
      by_cases hqa : q = a
      · rw [if_neg (by rw [hqa]; simp)] at HF
        have dq : ((q : Int) != (a : Int)) = false := by rw [hqa]; simp
        have HFF : Hid (fgL a r p (k + 1) = L) := HF.out
        clear HF
        go_wp2
        go_roundw
        case rel => exact ⟨k + 1, by omega, by simp, by rw [HFF.out]; exact HO2.out, HW2.out⟩
        case measure => simp [intOf]; omega
      · have dq : ((q : Int) != (a : Int)) = true := by rw [bne_iff_ne]; omega
        have hm := mem_cast q L
        have HC : Hid (Calls Tryd.prog 54 #[u4, .int .i64 (q : Int)] w2 fun e w' => e = .returned (.bool (decide (q ∈ L))) ∧ w' = w2) := by
          have := contains_int u4 (L.map fun (n : Nat) => (n : Int)) (q : Int) w2 (by rw [List.length_map, ← nCells_is]; exact IsRow.own HO2.out) (by rw [List.length_map]; omega)
          rw [hm] at this
          exact this
        clear hm
        by_cases hqL : q ∈ L
        · rw [decide_eq_true hqL] at HC
          rw [if_neg (by simp [hqL])] at HF
          have HFF : Hid (fgL a r p (k + 1) = L) := HF.out
          clear HF
          go_wp2_with fail
          refine HC.out.mono ?_
          rintro e w3 ⟨rfl, hw⟩
          subst hw
          go_wp2
          go_roundw
          case rel => exact ⟨k + 1, by omega, by simp, by rw [HFF.out]; exact HO2.out, HW2.out⟩
          case measure => simp [intOf]; omega
        · rw [decide_eq_false hqL] at HC
          rw [if_pos ⟨hqa, hqL⟩] at HF
          have HFF : Hid (fgL a r p (k + 1) = L ++ [q]) := HF.out
          clear HF
          go_wp2_with fail
          refine HC.out.mono ?_
          rintro e w3 ⟨rfl, hw⟩
          subst hw
          go_wp2_with (at_builtin; go_loud (refine wpl_app1 w3 rfl (.tmp 29) (.tmp 31) 23 3 rfl i0 _ 8 Tryd.underlying23 hi0 hz0 hz1 hz2 rfl w.heap.size u4 L.length _ rfl HO2.out (.int .i64 (q : Int)) _ rfl rfl rfl (by omega) (by unfold maxLen; omega) hsw ?_; intro v4 w4 hown4 hb4 hne4))
          have HO4 : Hid (w4.ownsRow w.heap.size 3 1 v4 (fgL a r p (k + 1)).length (nCells (fgL a r p (k + 1)))) := by show World.ownsRow _ _ _ _ _ _ _; rw [HFF.out, nCells_snoc, List.length_append]; exact hown4
          have HB4 : Hid (Below w.heap.size w w4) := HW2.out.trans hb4
          clear hown4 hb4 hne4 HO2 HW2
          go_wp2
          go_roundw
          case rel => exact ⟨k + 1, by omega, by simp, HO4.out, HB4.out⟩
          case measure => simp [intOf]; omega
    · have dk : decide ((k : Int) < 64) = false := by simp; omega
      have hk' : k = 64 := by omega
      subst hk'
      have HO : Hid (IsRow wr 1 u4 (fgL a r (pt r[a]) 64).length (nCells (fgL a r (pt r[a]) 64))) := IsRow.own hown
      have HB : Hid (Below w.heap.size w wr) := hB
      clear hown hB
      go_wp2
      go_ret
      exact ⟨_, rfl, HO.out, HB.out⟩
end Go.Proofs.YtmnmjphgpblbhaaDoor
/- ring.Fingers: its walk. -/
namespace Go.Proofs.YtmnmjphgpblbhaaDoor
open Go.RowKit

theorem pl_from (node : Int) : ∀ (r : List Nat) (i : Nat), (Lib.idxByFrom (fun _ (y : Int × Int) => y.1 == node) default (r.map st) i = -1 ∧ ∀ n ∈ r, (n : Int) ≠ node) ∨ ∃ (k : Nat) (hk : k < r.length), Lib.idxByFrom (fun _ (y : Int × Int) => y.1 == node) default (r.map st) i = ((i + k : Nat) : Int) ∧ (r[k] : Int) = node
  | [], i => .inl ⟨rfl, fun n hn => by cases hn⟩
  | a :: r, i => by
    by_cases h : (a : Int) = node
    · refine .inr ⟨0, by simp, ?_, h⟩
      rw [List.map_cons, Lib.idxByFrom, if_pos (by simp [st, h])]
      simp
    · have e : Lib.idxByFrom (fun _ (y : Int × Int) => y.1 == node) default ((a :: r).map st) i = Lib.idxByFrom (fun _ (y : Int × Int) => y.1 == node) default (r.map st) (i + 1) := by
        rw [List.map_cons, Lib.idxByFrom, if_neg (by simp [st, h])]
      rcases pl_from node r (i + 1) with ⟨h1, h2⟩ | ⟨k, hk, h1, h2⟩
      · refine .inl ⟨e.trans h1, fun n hn => ?_⟩
        rcases List.mem_cons.1 hn with rfl | hn
        · exact h
        · exact h2 n hn
      · refine .inr ⟨k + 1, by simp; omega, ?_, by simpa using h2⟩
        rw [e, h1]
        congr 1
        omega
theorem pl_cases (node : Int) (r : List Nat) : (plI node r = -1 ∧ ∀ n ∈ r, (n : Int) ≠ node) ∨ ∃ (k : Nat) (hk : k < r.length), plI node r = (k : Int) ∧ (r[k] : Int) = node := by
  have := pl_from node r 0
  simpa [plI, Lib.idxBy] using this
theorem fgL_lt {a : Nat} {r : List Nat} {p : Nat} (hs : r.Pairwise (fun a b => pt a < pt b)) (h0 : 0 < r.length) : ∀ (k : Nat), ∀ i ∈ fgL a r p k, i < r.length
  | 0, i, hi => by cases hi
  | k + 1, i, hi => by
    have ih := fgL_lt (a := a) (p := p) hs h0 k
    unfold fgL at hi
    split at hi
    · rcases List.mem_append.1 hi with hi | hi
      · exact ih i hi
      · simp at hi; subst hi; exact owI_lt _ r hs h0
    · exact ih i hi
/-- The fingers of a node on a ring. -/
def FgL (node : Int) (r : List Nat) : List Nat := if plI node r < 0 then [] else (fgL (plI node r).toNat r (pt (r[(plI node r).toNat]!)) 64).map (fun i => r[i]!)
theorem FgL_not {node : Int} {r : List Nat} (h : plI node r = -1) : FgL node r = [] := by unfold FgL; rw [h]; rfl
theorem FgL_at {node : Int} {r : List Nat} {k : Nat} (hk : k < r.length) (h : plI node r = (k : Int)) : FgL node r = (fgL k r (pt r[k]) 64).map (fun i => r[i]!) := by
  unfold FgL
  rw [h, if_neg (by omega), Int.toNat_natCast, getElem!_pos r k hk]
set_option maxRecDepth 100000 in
set_option maxHeartbeats 2000000 in
theorem fingersL_any (node : Int) (v : Value) (l : List Int) (w : World) (hr : IsRow w 1 v l.length (iCells l)) (hl : l.length ≤ 1000) :
    Calls Tryd.prog 26 #[.int .i64 node, v] w fun e w' => RwPost (FgL node (rgL l)) w e w' := by
  have HS : Hid (Calls Tryd.prog 31 #[v] w fun e w' => StPost l w e w') := stands_any v l w hr hl
  have hrl := rg_le l
  have hsr := rgL_sorted l
  generalize hR : rgL l = r at *
  clear hr
  have HPl : Hid (∀ v w, IsRow w 2 v r.length (stCells r) → Calls Tryd.prog 43 #[.int .i64 node, v] w fun e w' => e = .returned (.int .i64 (plI node r)) ∧ Below w.heap.size w w') := fun v w h => place_any node v r w h (by omega)
  rcases pl_cases node r with ⟨hp, -⟩ | ⟨q, hq, hp, -⟩
  · rw [FgL_not hp]
    rw [hp] at HPl
    clear hp
    go_enter Tryd.func26, Tryd.ntmps26
    go_wp2_with fail
    refine HS.out.mono ?_
    rintro e w1 ⟨v1, rfl, hrow, hb1⟩
    rw [hR] at hrow
    clear hR HS hsr
    have HR : Hid (IsRow w1 2 v1 r.length (stCells r)) := hrow
    clear hrow
    go_wp2_with fail
    refine (HPl.out _ _ HR.out).mono ?_
    rintro e w2 ⟨rfl, hb2⟩
    have HB : Hid (Below w.heap.size w w2) := hb1.trans (hb2.mono hb1.size)
    clear hb1 hb2 HR
    go_wp2
    go_ret
    exact ⟨_, rfl, IsRow.nil _ _, HB.out⟩
  · have HF : Hid (∀ v w, IsRow w 2 v r.length (stCells r) → Calls Tryd.prog 45 #[.int .i64 (q : Int), v] w fun e w' => RwPost (fgL q r (pt r[q]) 64) w e w') := fun v w h => fingers_any q v r w hq h hsr hrl
    have HLt : Hid (∀ i ∈ fgL q r (pt r[q]) 64, i < r.length) := fgL_lt hsr (by omega) 64
    have hll := fgL_len q r (pt r[q]) 64
    rw [FgL_at hq hp]
    rw [hp] at HPl
    generalize fgL q r (pt r[q]) 64 = L at *
    clear hp hsr
    obtain ⟨i0, hi0, hz0, hz1, hz2⟩ := info_parts info_in
    go_enter Tryd.func26, Tryd.ntmps26
    go_wp2_with fail
    refine HS.out.mono ?_
    rintro e w1 ⟨v1, rfl, hrow, hb1⟩
    rw [hR] at hrow
    clear hR HS
    obtain ⟨a1, cap1, rfl⟩ := hrow.form
    have HR1 : Hid (IsRow w1 2 (.slice a1 r.length cap1) r.length (stCells r)) := hrow
    clear hrow
    go_wp2_with fail
    refine (HPl.out _ _ HR1.out).mono ?_
    rintro e w2 ⟨rfl, hb2⟩
    have HR2 : Hid (IsRow w2 2 (.slice a1 r.length cap1) r.length (stCells r)) := HR1.out.below hb2
    have HB2 : Hid (Below w.heap.size w w2) := hb1.trans (hb2.mono hb1.size)
    clear hb1 hb2 HR1 HPl
    go_wp2_with fail
    refine (HF.out _ _ HR2.out).mono ?_
    rintro e w3 ⟨v3, rfl, hrow3, hb3⟩
    obtain ⟨a3, cap3, rfl⟩ := hrow3.form
    have HR3 : Hid (IsRow w3 2 (.slice a1 r.length cap1) r.length (stCells r)) := HR2.out.below hb3
    have HL3 : Hid (IsRow w3 1 (.slice a3 L.length cap3) L.length (nCells L)) := hrow3
    have HB3 : Hid (Below w.heap.size w w3) := HB2.out.trans (hb3.mono HB2.out.size)
    have hs3 := HB3.out.size
    clear hrow3 hb3 HR2 HB2 HF
    go_wp2_with fail
    go_loopw [4, 20] (fun o i wr => ∃ k : Nat, k ≤ L.length ∧ i = .int .i64 (k : Int) ∧ wr.ownsRow w3.heap.size 3 1 o k (nCells ((L.map (fun i => r[i]!)).take k)) ∧ Below w3.heap.size w3 wr) (fun _ i _ => L.length - (intOf i).toNat)
    case atStart => exact ⟨0, Nat.zero_le _, rfl, World.ownsRow_nil _ _ _ _, Below.refl _ _⟩
    case round =>
      obtain ⟨k, hk, rfl, hown, hB⟩ := hrel
      have hsz := hB.size
      by_cases hlk : k < L.length
      · have dk : decide ((k : Int) < L.length) = true := by simp; omega
        have hLr : IsRow wr 1 (.slice a3 L.length cap3) (L.map fun (n : Nat) => (n : Int)).length (iCells (L.map fun (n : Nat) => (n : Int))) := by rw [List.length_map, ← nCells_is]; exact HL3.out.below hB
        obtain ⟨b3, off3, rfl, -, hlt3, hcap3, hc3⟩ := iCells_at hLr (by rw [List.length_map]; omega)
        have ck : wr.cell? ⟨b3, off3 + k, none⟩ = some (.int .i64 (L[k] : Int)) := by have := hc3 k (by rw [List.length_map]; exact hlk); simpa using this
        have hx : L[k] < r.length := HLt.out _ (List.getElem_mem hlk)
        obtain ⟨b, off, rfl, hlt, -, c0, c1⟩ := st_at (HR3.out.below hB) L[k] hx
        have HT : Hid (nCells ((L.map (fun i => r[i]!)).take (k + 1)) = nCells ((L.map (fun i => r[i]!)).take k) ++ [.int .i64 (r[L[k]] : Int)]) := by
          show _ = _
          rw [nCells_take _ k (by rw [List.length_map]; exact hlk)]
          rw [List.getElem_map, getElem!_pos r _ hx]
        have HO : Hid (wr.ownsRow w3.heap.size 3 1 u4 k (nCells ((L.map (fun i => r[i]!)).take k))) := hown
        generalize r[L[k]] = x at *
        generalize L[k]'hlk = m at *
        clear hown hc3 c1 hLr hcap3
        go_wp2_with (at_builtin; go_loud (refine wpl_app1 wr rfl (.tmp 24) (.tmp 30) 23 3 rfl i0 _ 8 Tryd.underlying23 hi0 hz0 hz1 hz2 rfl w3.heap.size u4 k _ rfl HO.out (.int .i64 (x : Int)) _ rfl rfl rfl (by omega) (by unfold maxLen; omega) hsz ?_; intro v4 w4 hown4 hb4 hne4))
        have HO4 : Hid (w4.ownsRow w3.heap.size 3 1 v4 (k + 1) (nCells ((L.map (fun i => r[i]!)).take (k + 1)))) := by show World.ownsRow _ _ _ _ _ _ _; rw [HT.out]; exact hown4
        have HB4 : Hid (Below w3.heap.size w3 w4) := hB.trans hb4
        clear hown4 hb4 HT HO hne4 hB
        go_wp2
        go_roundw
        case rel => exact ⟨k + 1, by omega, by simp, HO4.out, HB4.out⟩
        case measure => simp [intOf]; omega
      · have dk : decide ((k : Int) < L.length) = false := by simp; omega
        have hk' : k = L.length := by omega
        subst hk'
        rw [List.take_of_length_le (by rw [List.length_map]; exact Nat.le_refl _)] at hown
        have HO : Hid (IsRow wr 1 u4 (L.map (fun i => r[i]!)).length (nCells (L.map (fun i => r[i]!)))) := by show IsRow _ _ _ _ _; rw [List.length_map]; exact IsRow.own hown
        have HB : Hid (Below w.heap.size w wr) := HB3.out.trans (hB.mono hs3)
        clear hown hB
        go_wp2
        go_ret
        exact ⟨_, rfl, HO.out, HB.out⟩
end Go.Proofs.YtmnmjphgpblbhaaDoor
