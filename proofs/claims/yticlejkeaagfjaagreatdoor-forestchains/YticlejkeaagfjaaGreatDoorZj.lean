/- Rows of types; slices.BinarySearchFunc at them, place, parentOf: walks. -/
import Derived.Test.YticlejkeaagfjaaGreatDoorFoM
import Derived.Test.YticlejkeaagfjaaGreatDoorFoD
import Derived.Test.YticlejkeaagfjaaGreatDoorSnT
namespace Go.Proofs.YticlejkeaagfjaaGreatDoor
open Go.RowKit Go.ChangeMaps

/-- A type that lies somewhere: where its rows are. -/
structure LT where
  t : Ty
  ao : Option Addr
  co : Nat
  aa : Option Addr
  ca : Nat
  ac : Option Addr
  cc : Nat
abbrev LT.vo (x : LT) : Value := .slice x.ao x.t.own.length x.co
abbrev LT.va (x : LT) : Value := .slice x.aa x.t.all.length x.ca
abbrev LT.vc (x : LT) : Value := .slice x.ac x.t.ch.length x.cc
def enT (x : LT) : List Value := [.string x.t.n, .string x.t.p, x.vo, x.va, x.vc, .int .i64 x.t.nd, .int .i64 x.t.lf, .int .i64 x.t.sq]
abbrev ltV (x : LT) : Value := tyV x.t x.vo x.va x.vc
def tCells (L : List LT) : List Value := L.flatMap enT
def tys (L : List LT) : List Ty := L.map LT.t
theorem tys_len (L : List LT) : (tys L).length = L.length := by simp [tys]
theorem tys_at (L : List LT) (k : Nat) (h : k < L.length) : (tys L)[k]'(by rw [tys_len]; exact h) = L[k].t := by simp [tys]
/-- Types in memory. -/
def IsTys (w : World) (v : Value) (L : List LT) : Prop := IsRow w 8 v L.length (tCells L) ∧ ∀ x ∈ L, IsTy w x.t x.vo x.va x.vc
theorem IsTys.below {w w' : World} {v : Value} {L : List LT} (h : IsTys w v L) (hb : Below w.heap.size w w') : IsTys w' v L := ⟨h.1.below hb, fun x hx => (h.2 x hx).below hb⟩
theorem tCells_len (L : List LT) : (tCells L).length = L.length * 8 := by
  induction L with
  | nil => rfl
  | cons d D ih => unfold tCells at *; rw [List.flatMap_cons, List.length_append, ih, List.length_cons]; show 8 + _ = _; omega
theorem tCells_app (a b : List LT) : tCells (a ++ b) = tCells a ++ tCells b := by simp [tCells]
theorem tCells_get : ∀ (L : List LT) (k : Nat) (hk : k < L.length) (j : Nat), j < 8 → (tCells L)[k * 8 + j]? = (enT L[k])[j]?
  | [], k, hk, _, _ => absurd hk (by simp)
  | d :: L, 0, _, j, hj => by
    unfold tCells
    rw [List.flatMap_cons, Nat.zero_mul, Nat.zero_add, List.getElem?_append_left (by exact hj)]
    rfl
  | d :: L, k + 1, hk, j, hj => by
    have ih := tCells_get L k (by simpa using hk) j hj
    unfold tCells at *
    rw [List.flatMap_cons, show (k + 1) * 8 + j = 8 + (k * 8 + j) by omega, List.getElem?_append_right (by show 8 ≤ _; omega), show 8 + (k * 8 + j) - (enT d).length = k * 8 + j by show 8 + (k * 8 + j) - 8 = _; omega, ih]
    simp
/-- A row of types, the k-th one's cells as the walk asks for them. -/
theorem t_at {w : World} {a : Option Addr} {n cap : Nat} {L : List LT} (h : IsRow w 8 (.slice a n cap) L.length (tCells L)) (h0 : 0 < L.length) :
    ∃ b off, a = some ⟨b, off, none⟩ ∧ b < w.heap.size ∧ n = L.length ∧ L.length ≤ cap ∧ ∀ (k : Nat) (hk : k < L.length), (w.cell? ⟨b, off + k * 8, none⟩ = some (.string L[k].t.n) ∧ w.cell? ⟨b, off + k * 8 + 1, none⟩ = some (.string L[k].t.p) ∧ w.cell? ⟨b, off + k * 8 + 2, none⟩ = some L[k].vo ∧ w.cell? ⟨b, off + k * 8 + 3, none⟩ = some L[k].va) ∧ w.cell? ⟨b, off + k * 8 + 4, none⟩ = some L[k].vc ∧ w.cell? ⟨b, off + k * 8 + 5, none⟩ = some (.int .i64 L[k].t.nd) ∧ w.cell? ⟨b, off + k * 8 + 6, none⟩ = some (.int .i64 L[k].t.lf) ∧ w.cell? ⟨b, off + k * 8 + 7, none⟩ = some (.int .i64 L[k].t.sq) := by
  obtain ⟨b, off, cap', hv, hlt, q1, q2, hc⟩ := h.open (by omega)
  simp only [Value.slice.injEq] at hv
  have key : ∀ (k : Nat) (hk : k < L.length) (j : Nat) (u : Value), j < 8 → (enT L[k])[j]? = some u → w.cell? ⟨b, off + k * 8 + j, none⟩ = some u := fun k hk j u hj hu => by
    have := hc (k * 8 + j) u (by rw [tCells_get L k hk j hj]; exact hu)
    rwa [← Nat.add_assoc] at this
  refine ⟨b, off, hv.1, hlt, hv.2.1, by omega, fun k hk => ⟨⟨?_, ?_, ?_, ?_⟩, ?_, ?_, ?_, ?_⟩⟩
  · have := key k hk 0 _ (by omega) rfl
    simpa using this
  · exact key k hk 1 _ (by omega) rfl
  · exact key k hk 2 _ (by omega) rfl
  · exact key k hk 3 _ (by omega) rfl
  · exact key k hk 4 _ (by omega) rfl
  · exact key k hk 5 _ (by omega) rfl
  · exact key k hk 6 _ (by omega) rfl
  · exact key k hk 7 _ (by omega) rfl
/-- Types are not too great to be looked at. -/
def NmL (L : List LT) : Prop := ∀ x ∈ L, NmT x.t
set_option maxRecDepth 100000 in
theorem plc1_any (x : LT) (s : ByteArray) (w : World) (hx : x.t.n.size ≤ 1000000) (hs : s.size ≤ 1000000) (hU : UT w) :
    Calls Tryz.prog 82 #[ltV x, .string s] w fun e w' => e = .returned (.int .i64 (nmC x.t s)) ∧ Below w.heap.size w w' := by
  have HB : Hid (Below w.heap.size w (w.alloc (.cells (tyA x.t x.vo x.va x.vc) 32))) := al_b w _
  have HC : Hid (Calls Tryz.prog 52 #[.string x.t.n, .string s] (w.alloc (.cells (tyA x.t x.vo x.va x.vc) 32)) fun e w' => e = .returned (.int .i64 (nmC x.t s)) ∧ Below (w.alloc (.cells (tyA x.t x.vo x.va x.vc) 32)).heap.size (w.alloc (.cells (tyA x.t x.vo x.va x.vc) 32)) w') := compare_any _ _ _ hx hs (Utf8Tabs_below hU HB.out)
  generalize nmC x.t s = C at *
  clear hU
  go_enter Tryz.func82, Tryz.ntmps82
  go_wp2_with fail
  refine HC.out.mono ?_
  rintro e w1 ⟨rfl, hb1⟩
  have HB1 : Hid (Below w.heap.size w w1) := HB.out.trans (hb1.mono HB.out.size)
  clear hb1 HB HC
  go_wp2
  go_ret
  exact ⟨rfl, HB1.out⟩
def PlP (L : List LT) (s : ByteArray) (w : World) (e : Ending) (w' : World) : Prop := e = .returned (.tuple #[.int .i64 (plcN (tys L) s : Int), .bool (parN (tys L) s).isSome]) ∧ Below w.heap.size w w'
theorem plP_at {L : List LT} {s : ByteArray} {w w' : World} {k : Nat} {b : Bool} (hR : Rise (tys L)) (hk : k ≤ L.length) (h1 : ∀ (t : Nat) (h : t < L.length), t < k → nmC L[t].t s < 0) (h2 : ∀ (t : Nat) (h : t < L.length), k ≤ t → ¬ nmC L[t].t s < 0) (hb : b = true ↔ ∃ h : k < L.length, nmC L[k].t s = 0) (hB : Below w.heap.size w w') : PlP L s w (.returned (.tuple #[.int .i64 (k : Int), .bool b])) w' := by
  have e : plcN (tys L) s = k := plc_at (tys L) s k (by rw [tys_len]; exact hk) (fun t h ht => by rw [tys_len] at h; rw [tys_at L t h]; exact h1 t h ht) (fun h => by rw [tys_len] at h; rw [tys_at L k h]; exact h2 k h (Nat.le_refl _))
  have e2 : (parN (tys L) s).isSome = b := by
    rw [par_plc hR]
    rw [Bool.eq_iff_iff, hb]
    by_cases h : k < L.length
    · have h' : plcN (tys L) s < (tys L).length := by rw [tys_len, e]; exact h
      rw [dif_pos h']
      have e3 : (tys L)[plcN (tys L) s] = L[k].t := by
        have : (tys L)[plcN (tys L) s]? = some L[k].t := by rw [e, List.getElem?_eq_getElem (by rw [tys_len]; exact h), tys_at L k h]
        exact Option.some.inj ((List.getElem?_eq_getElem h').symm.trans this)
      rw [e3]
      by_cases h0 : nmC L[k].t s = 0
      · rw [if_pos h0]; exact ⟨fun _ => ⟨h, h0⟩, fun _ => rfl⟩
      · rw [if_neg h0]; exact ⟨(fun h => by cases h), fun ⟨_, h⟩ => absurd h h0⟩
    · rw [dif_neg (by rw [tys_len, e]; exact h)]
      exact ⟨(fun h => by cases h), fun ⟨h', _⟩ => absurd h' h⟩
  unfold PlP
  rw [e, e2]
  exact ⟨rfl, hB⟩
set_option maxRecDepth 100000 in
set_option maxHeartbeats 2000000 in
theorem bsf_any (v : Value) (L : List LT) (s : ByteArray) (w : World) (hr : IsRow w 8 v L.length (tCells L)) (hl : L.length ≤ 1000) (hn : ∀ x ∈ L, x.t.n.size ≤ 1000000) (hs : s.size ≤ 1000000) (hU : UT w) (hR : Rise (tys L)) :
    Calls Tryz.prog 81 #[v, .string s, .func (.func 82) #[] #[]] w fun e w' => PlP L s w e w' := by
  obtain ⟨a0, cap0, rfl⟩ := hr.form
  have HRw : Hid (∀ w', Below w.heap.size w w' → IsRow w' 8 (.slice a0 L.length cap0) L.length (tCells L)) := fun w' h => hr.below h
  have HC : Hid (∀ (k : Nat) (hk : k < L.length) w', Below w.heap.size w w' → Calls Tryz.prog 82 #[ltV L[k], .string s] w' fun e w'' => e = .returned (.int .i64 (nmC L[k].t s)) ∧ Below w'.heap.size w' w'') := fun k hk w' h => plc1_any _ _ w' (hn _ (List.getElem_mem hk)) hs (Utf8Tabs_below hU h)
  have HMo : Hid (∀ (a b : Nat) (hab : a ≤ b) (hb : b < L.length), nmC L[b].t s < 0 → nmC (L[a]'(by omega)).t s < 0) := fun a b hab hb h => by
    have := rise_mono hR (a := a) (b := b) hab (by rw [tys_len]; exact hb) (by rw [tys_at L b hb]; exact h)
    rwa [tys_at L a (by omega)] at this
  have HRi : Hid (Rise (tys L)) := hR
  clear hr hn hU hR
  go_enter Tryz.func81, Tryz.ntmps81
  go_wp2_with fail
  go_loopw [9, 10, 11] (fun i j _ wr => ∃ lo hi : Nat, lo ≤ hi ∧ hi ≤ L.length ∧ i = .int .i64 (lo : Int) ∧ j = .int .i64 (hi : Int) ∧ Hid ((∀ (t : Nat) (h : t < L.length), t < lo → nmC L[t].t s < 0) ∧ ∀ (t : Nat) (h : t < L.length), hi ≤ t → 0 ≤ nmC L[t].t s) ∧ Hid (Below w.heap.size w wr)) (fun i j _ _ => (intOf j).toNat - (intOf i).toNat)
  case atStart => exact ⟨0, L.length, Nat.zero_le _, Nat.le_refl _, rfl, rfl, ⟨fun t h ht => absurd ht (Nat.not_lt_zero _), fun t h ht => absurd ht (by omega)⟩, Below.refl _ _⟩
  case round =>
    obtain ⟨lo, hi, hlh, hhl, rfl, rfl, HI, HB⟩ := hrel
    have hsz := HB.out.size
    by_cases hlt : lo < hi
    · have d1 : decide (lo < hi) = true := by simp; omega
      have d1' : decide ((lo : Int) < (hi : Int)) = true := by simp; omega
      obtain ⟨m, hm⟩ : ∃ m : Nat, m = (lo + hi) / 2 := ⟨_, rfl⟩
      have hml : m < L.length := by omega
      have em : ((lo : Int) + (hi : Int)) / 2 = (m : Int) := by omega
      obtain ⟨b, off, rfl, hbl, -, hcap, hc⟩ := t_at (HRw.out _ HB.out) (by omega)
      obtain ⟨⟨y0, y1, y2, y3⟩, y4, y5, y6, y7⟩ := hc m hml
      have HCk := HC.out m hml wr HB.out
      have HCk' : Hid (Calls Tryz.prog 82 #[ltV L[m], .string s] wr fun e w'' => e = .returned (.int .i64 (nmC L[m].t s)) ∧ Below wr.heap.size wr w'') := HCk
      have HLo : Hid (nmC L[m].t s < 0 → (∀ (t : Nat) (h : t < L.length), t < m + 1 → nmC L[t].t s < 0) ∧ ∀ (t : Nat) (h : t < L.length), hi ≤ t → 0 ≤ nmC L[t].t s) := fun h0 => ⟨fun t h ht => HMo.out t m (by omega) hml h0, HI.out.2⟩
      have HHi : Hid (¬ nmC L[m].t s < 0 → (∀ (t : Nat) (h : t < L.length), t < lo → nmC L[t].t s < 0) ∧ ∀ (t : Nat) (h : t < L.length), m ≤ t → 0 ≤ nmC L[t].t s) := fun h0 => ⟨HI.out.1, fun t h ht => Int.not_lt.1 fun hlt => h0 (HMo.out m t ht h hlt)⟩
      have i1 : (0 : Int) ≤ (m : Int) := by omega
      have i2 : (m : Int) < (L.length : Int) := by omega
      have hm1 : lo ≤ m := by omega
      have hm2 : m < hi := by omega
      generalize L[m]'hml = x at *
      generalize nmC x.t s = C at *
      clear hc HC HCk HI hm HMo HRi HRw
      by_cases hC : C < 0
      · have dC : decide (C < 0) = true := decide_eq_true hC
        have HN := HLo.out hC
        have HN' : Hid ((∀ (t : Nat) (h : t < L.length), t < m + 1 → nmC L[t].t s < 0) ∧ ∀ (t : Nat) (h : t < L.length), hi ≤ t → 0 ≤ nmC L[t].t s) := HN
        clear HN HLo HHi hC
        go_wp2_with fail
        refine HCk'.out.mono ?_
        rintro e w5 ⟨rfl, hb5⟩
        have HB5 : Hid (Below w.heap.size w w5) := HB.out.trans (hb5.mono hsz)
        clear hb5 HCk' HB y0 y1 y2 y3 y4 y5 y6 y7
        go_wp2
        go_roundw
        case rel => exact ⟨m + 1, hi, by omega, hhl, by simp, rfl, HN', HB5⟩
        case measure => simp [intOf]; omega
      · have dC : decide (C < 0) = false := decide_eq_false hC
        have HN := HHi.out hC
        have HN' : Hid ((∀ (t : Nat) (h : t < L.length), t < lo → nmC L[t].t s < 0) ∧ ∀ (t : Nat) (h : t < L.length), m ≤ t → 0 ≤ nmC L[t].t s) := HN
        clear HN HLo HHi hC
        go_wp2_with fail
        refine HCk'.out.mono ?_
        rintro e w5 ⟨rfl, hb5⟩
        have HB5 : Hid (Below w.heap.size w w5) := HB.out.trans (hb5.mono hsz)
        clear hb5 HCk' HB y0 y1 y2 y3 y4 y5 y6 y7
        go_wp2
        go_roundw
        case rel => exact ⟨lo, m, by omega, by omega, rfl, rfl, HN', HB5⟩
        case measure => simp [intOf]; omega
    · have d1 : decide (lo < hi) = false := by simp; omega
      have d1' : decide ((lo : Int) < (hi : Int)) = false := by simp; omega
      have e : hi = lo := by omega
      subst e
      by_cases hln : hi < L.length
      · have d2 : decide (hi < L.length) = true := by simp; omega
        have d2' : decide ((hi : Int) < (L.length : Int)) = true := by simp; omega
        obtain ⟨b, off, rfl, hbl, -, hcap, hc⟩ := t_at (HRw.out _ HB.out) (by omega)
        obtain ⟨⟨y0, y1, y2, y3⟩, y4, y5, y6, y7⟩ := hc hi hln
        have HCk' : Hid (Calls Tryz.prog 82 #[ltV L[hi], .string s] wr fun e w'' => e = .returned (.int .i64 (nmC L[hi].t s)) ∧ Below wr.heap.size wr w'') := HC.out hi hln wr HB.out
        have HEnd : Hid (∀ bo : Bool, (bo = true ↔ nmC L[hi].t s = 0) → ∀ w', Below w.heap.size w w' → PlP L s w (.returned (.tuple #[.int .i64 (hi : Int), .bool bo])) w') := fun bo h w' hb => plP_at HRi.out hhl HI.out.1 (fun t h ht => Int.not_lt.2 (HI.out.2 t h ht)) (by rw [h]; exact ⟨fun h => ⟨hln, h⟩, fun ⟨_, h⟩ => h⟩) hb
        have i1 : (0 : Int) ≤ (hi : Int) := by omega
        have i2 : (hi : Int) < (L.length : Int) := by omega
        generalize L[hi]'hln = x at *
        generalize nmC x.t s = C at *
        have HE2 : Hid (∀ w', Below w.heap.size w w' → PlP L s w (.returned (.tuple #[.int .i64 (hi : Int), .bool (C == 0)])) w') := fun w' hb => HEnd.out _ beq_iff_eq w' hb
        clear hc HC HI HMo HRi HRw HEnd
        go_wp2_with fail
        refine HCk'.out.mono ?_
        rintro e w5 ⟨rfl, hb5⟩
        have HB5 : Hid (Below w.heap.size w w5) := HB.out.trans (hb5.mono hsz)
        have HE3 : Hid (PlP L s w (.returned (.tuple #[.int .i64 (hi : Int), .bool (C == 0)])) w5) := HE2.out w5 HB5.out
        clear hb5 HCk' HB y0 y1 y2 y3 y4 y5 y6 y7 HE2
        go_wp2
        go_ret2
        exact HE3.out
      · have d2 : decide (hi < L.length) = false := by simp; omega
        have d2' : decide ((hi : Int) < (L.length : Int)) = false := by simp; omega
        have HE3 : Hid (PlP L s w (.returned (.tuple #[.int .i64 (hi : Int), .bool false])) wr) := plP_at HRi.out hhl HI.out.1 (fun t h ht => Int.not_lt.2 (HI.out.2 t h ht)) ⟨(fun h => by cases h), fun ⟨h, _⟩ => absurd h hln⟩ HB.out
        clear HC HI HMo HRi HRw
        go_wp2
        go_ret2
        exact HE3.out
set_option maxRecDepth 100000 in
theorem place_any (v : Value) (L : List LT) (s : ByteArray) (w : World) (hr : IsRow w 8 v L.length (tCells L)) (hl : L.length ≤ 1000) (hn : ∀ x ∈ L, x.t.n.size ≤ 1000000) (hs : s.size ≤ 1000000) (hU : UT w) (hR : Rise (tys L)) :
    Calls Tryz.prog 41 #[v, .string s] w fun e w' => PlP L s w e w' := by
  obtain ⟨a0, cap0, rfl⟩ := hr.form
  have HC : Hid (Calls Tryz.prog 81 #[.slice a0 L.length cap0, .string s, .func (.func 82) #[] #[]] w fun e w' => PlP L s w e w') := bsf_any _ L s w hr hl hn hs hU hR
  clear hr hn hU hR
  go_enter Tryz.func41, Tryz.ntmps41
  go_wp2_with fail
  refine HC.out.mono ?_
  intro e w1 h1
  have HP : Hid (PlP L s w e w1) := h1
  obtain ⟨rfl, hb1⟩ := h1
  clear HC hb1
  go_wp2
  go_ret2
  exact HP.out
end Go.Proofs.YticlejkeaagfjaaGreatDoor
/- schema.Merge at any fields; slices.Equal at names: walks. -/
namespace Go.Proofs.YticlejkeaagfjaaGreatDoor
open Go.RowKit Go.ChangeMaps

def MgA (l a : List Fd) (w : World) (e : Ending) (w' : World) : Prop := ∃ s c, e = .returned (.tuple #[.slice s (mgL l a).1.length c, .int .i64 (mgL l a).2]) ∧ IsRow w' 3 (.slice s (mgL l a).1.length c) (mgL l a).1.length (fCells (mgL l a).1) ∧ NewA w.heap.size s ∧ Below w.heap.size w w'
theorem NewA.none (b : Nat) : NewA b none := fun _ e => nomatch e
theorem merge_any (v u : Value) (l a : List Fd) (w : World) (hr : IsRow w 3 v l.length (fCells l)) (hq : IsRow w 3 u a.length (fCells a)) (hl : l.length ≤ 1000000) (hal : a.length ≤ 1000000) (hn : NmF l) (hna : NmF a) (hW : W3 w) :
    Calls Tryz.prog 65 #[v, u] w fun e w' => MgA l a w e w' := by
  by_cases h : mergeE l a = 0
  · refine (merge_ok v u l a w hr hq hl hal hn hna hW h).mono ?_
    rintro e w' ⟨hb, ⟨h1, rfl⟩ | ⟨h1, D, hD, s, c, rfl, hrow, hnew⟩⟩
    · have e0 : mgL l a = ([], 2) := by unfold mgL; rw [if_pos h, if_pos h1]
      unfold MgA
      rw [e0]
      exact ⟨none, 0, rfl, IsRow.nil _ _, NewA.none _, hb⟩
    · have e0 : mgL l a = (D, 0) := by unfold mgL; rw [if_pos h, if_neg (by omega), mrg_is h hD]
      unfold MgA
      rw [e0]
      exact ⟨s, c, rfl, hrow, hnew, hb⟩
  · refine (merge_bad v u l a w hr hq hl hal hn hna hW.t hW.m h).mono ?_
    rintro e w' ⟨rfl, hb⟩
    have e0 : mgL l a = ([], mergeE l a) := by unfold mgL; rw [if_neg h]
    unfold MgA
    rw [e0]
    exact ⟨none, 0, rfl, IsRow.nil _ _, NewA.none _, hb⟩
theorem sameS_no {a l : List ByteArray} {k : Nat} (h : k < a.length) (h2 : k < l.length) (he : a[k] ≠ l[k]) : sameS a l = false := by
  unfold sameS
  rw [decide_eq_false_iff_not]
  rintro rfl
  exact he rfl
set_option maxRecDepth 100000 in
set_option maxHeartbeats 2000000 in
theorem equalS_any (v u : Value) (a l : List ByteArray) (w : World) (hq : IsRow w 1 v a.length (sVals a)) (hr : IsRow w 1 u l.length (sVals l)) (hal : a.length ≤ 1000000) (hl : l.length ≤ 1000000) :
    Calls Tryz.prog 54 #[v, u] w fun e w' => e = .returned (.bool (sameS a l)) ∧ Below w.heap.size w w' := by
  obtain ⟨a0, cap0, rfl⟩ := hq.form
  obtain ⟨a1, cap1, rfl⟩ := hr.form
  have HQ : Hid (∀ w', Below w.heap.size w w' → IsRow w' 1 (.slice a0 a.length cap0) a.length (sVals a)) := fun w' h => hq.below h
  have HR : Hid (∀ w', Below w.heap.size w w' → IsRow w' 1 (.slice a1 l.length cap1) l.length (sVals l)) := fun w' h => hr.below h
  clear hq hr
  by_cases hln : a.length = l.length
  rotate_left
  · have e0 : sameS a l = false := by unfold sameS; rw [decide_eq_false_iff_not]; intro e; exact hln (by rw [e])
    have dn : ((a.length : Int) != (l.length : Int)) = true := by rw [bne_iff_ne]; omega
    rw [e0]
    go_enter Tryz.func54, Tryz.ntmps54
    go_wp2
    go_ret
    exact ⟨rfl, Below.refl _ _⟩
  have dn : ((a.length : Int) != (l.length : Int)) = false := by rw [hln]; simp
  have HL : Hid (a.length = l.length) := hln
  clear hln
  go_enter Tryz.func54, Tryz.ntmps54
  go_wp2_with fail
  go_loopw [4, 13] (fun r i wr => r = .bool false ∧ ∃ k : Nat, k ≤ a.length ∧ i = .int .i64 (k : Int) ∧ Hid (∀ (j : Nat) (h : j < a.length) (h2 : j < l.length), j < k → a[j] = l[j]) ∧ Hid (Below w.heap.size w wr)) (fun _ i _ => a.length - (intOf i).toNat)
  case atStart => exact ⟨rfl, 0, Nat.zero_le _, rfl, fun j h h2 hj => absurd hj (Nat.not_lt_zero _), Below.refl _ _⟩
  case round =>
    obtain ⟨rfl, k, hk, rfl, HO, HB⟩ := hrel
    by_cases hlk : k < a.length
    · have hlk2 : k < l.length := by have := HL.out; omega
      have dk : decide ((k : Int) < a.length) = true := by simp; omega
      obtain ⟨b, off, rfl, -, hlt, hcap, hc⟩ := s_at (HQ.out wr HB.out) (by omega)
      obtain ⟨b', off', rfl, -, hlt', hcap', hc'⟩ := s_at (HR.out wr HB.out) (by omega)
      have ck0 := hc k hlk
      have dk0 := hc' k hlk2
      have HO2 : Hid (a[k] = l[k] → ∀ (j : Nat) (h : j < a.length) (h2 : j < l.length), j < k + 1 → a[j] = l[j]) := fun hs j h h2 hj => by
        by_cases e : j = k
        · subst e; exact hs
        · exact HO.out j h h2 (by omega)
      have HN : Hid (a[k] ≠ l[k] → sameS a l = false) := sameS_no hlk hlk2
      generalize a[k]'hlk = x at *
      generalize l[k]'hlk2 = y at *
      have q1 : (0 : Int) ≤ (k : Int) := by omega
      have q2 : (k : Int) < (a.length : Int) := by omega
      have q3 : (k : Int) < (l.length : Int) := by omega
      have eS := strNe x y
      have eS' := strEqB x y
      have HBd : Hid (∀ q, Below w.heap.size w (wr.drewN q)) := fun q => ⟨HB.out.os, HB.out.tape, HB.out.output, HB.out.size, HB.out.block⟩
      clear hc hc' HO
      by_cases he : x = y
      · rw [decide_eq_true he] at eS eS'
        have HO3 : Hid (∀ (j : Nat) (h : j < a.length) (h2 : j < l.length), j < k + 1 → a[j] = l[j]) := HO2.out he
        clear HN HO2 he
        go_wp2_with fail
        go_quiet (fail)
        go_wp2
        go_roundw
        case rel => exact ⟨rfl, k + 1, by omega, by simp, HO3, HBd.out _⟩
        case measure => simp [intOf]; omega
      · rw [decide_eq_false he] at eS eS'
        have HN2 : Hid (sameS a l = false) := HN.out he
        clear HN HO2 he
        go_wp2_with fail
        go_quiet (fail)
        go_wp2
        go_ret
        exact ⟨by rw [HN2.out]; rfl, HBd.out _⟩
    · have hk' : k = a.length := by omega
      subst hk'
      have dk : decide ((a.length : Int) < a.length) = false := by simp
      have HY : Hid (sameS a l = true) := by
        show _ = _
        unfold sameS
        rw [decide_eq_true_eq]
        exact List.ext_getElem HL.out fun j h h2 => HO.out j h h2 h
      clear HO
      go_wp2
      go_ret
      exact ⟨by rw [HY.out]; rfl, HB.out⟩
end Go.Proofs.YticlejkeaagfjaaGreatDoor
/- forest.parentOf, isBelow: walks. -/
namespace Go.Proofs.YticlejkeaagfjaaGreatDoor
open Go.RowKit Go.ChangeMaps

theorem results_c2 {fn : Func} {p q : Tmp} {ty : TypeId} (h : fn.results = #[.cell p ty, .tmp q]) (tmps : Array Value) (P : Program) (w : World) :
    (results fn tmps).run P w = ((asAddr (tmps.getD p undef)).run P w).andThen fun a w₁ => ((loadVar ty a).run P w₁).andThen fun v w₂ => .ok (.tuple #[v, tmps.getD q undef]) w₂ := by
  simp only [results, h]
  simp [Sem.run_bind, Result.andThen]
theorem below8 {B g : Nat} {w w' : World} (h : Below B w w') (hg : B ≤ g) (u0 u1 u2 u3 u4 u5 u6 u7 : Value) : Below B w ((((((((w'.setCell ⟨g, 0, none⟩ u0).setCell ⟨g, 1, none⟩ u1).setCell ⟨g, 2, none⟩ u2).setCell ⟨g, 3, none⟩ u3).setCell ⟨g, 4, none⟩ u4).setCell ⟨g, 5, none⟩ u5).setCell ⟨g, 6, none⟩ u6).setCell ⟨g, 7, none⟩ u7) :=
  (((((((h.setCell (p := ⟨g, 0, none⟩) hg u0).setCell (p := ⟨g, 1, none⟩) hg u1).setCell (p := ⟨g, 2, none⟩) hg u2).setCell (p := ⟨g, 3, none⟩) hg u3).setCell (p := ⟨g, 4, none⟩) hg u4).setCell (p := ⟨g, 5, none⟩) hg u5).setCell (p := ⟨g, 6, none⟩) hg u6).setCell (p := ⟨g, 7, none⟩) hg u7
/-- No type. -/
def zLT : LT := ⟨zT, none, 0, none, 0, none, 0⟩
def PaP (L : List LT) (s : ByteArray) (w : World) (e : Ending) (w' : World) : Prop := ∃ y : LT, e = .returned (.tuple #[ltV y, .bool (parN (tys L) s).isSome]) ∧ ((parN (tys L) s = none ∧ y = zLT) ∨ (y ∈ L ∧ parN (tys L) s = some y.t)) ∧ Below w.heap.size w w'
theorem PaP.zero {L : List LT} {s : ByteArray} {w w' : World} (h : (parN (tys L) s).isSome = false) (hb : Below w.heap.size w w') : PaP L s w (.returned (.tuple #[tyV zT (.slice none 0 0) (.slice none 0 0) (.slice none 0 0), .bool false])) w' := by
  refine ⟨zLT, ?_, .inl ⟨by simpa using h, rfl⟩, hb⟩
  rw [h]
  rfl
/-- What stands at the place. -/
theorem par_plcL {L : List LT} {s : ByteArray} (hR : Rise (tys L)) (h : (parN (tys L) s).isSome = true) : ∃ hk : plcN (tys L) s < L.length, parN (tys L) s = some L[plcN (tys L) s].t := by
  have e := par_plc hR s
  by_cases h1 : plcN (tys L) s < (tys L).length
  · have h1' : plcN (tys L) s < L.length := by rwa [tys_len] at h1
    rw [dif_pos h1] at e
    by_cases h2 : nmC (tys L)[plcN (tys L) s] s = 0
    · rw [if_pos h2, tys_at L _ h1'] at e
      exact ⟨h1', e⟩
    · rw [if_neg h2] at e
      rw [e] at h
      cases h
  · rw [dif_neg h1] at e
    rw [e] at h
    cases h
set_option maxRecDepth 100000 in
set_option maxHeartbeats 2000000 in
theorem parentOf_any (v : Value) (L : List LT) (x : LT) (w : World) (hr : IsRow w 8 v L.length (tCells L)) (hl : L.length ≤ 1000) (hn : ∀ x ∈ L, x.t.n.size ≤ 1000000) (hs : x.t.p.size ≤ 1000000) (hU : UT w) (hR : Rise (tys L)) :
    Calls Tryz.prog 47 #[v, ltV x] w fun e w' => PaP L x.t.p w e w' := by
  obtain ⟨a0, cap0, rfl⟩ := hr.form
  obtain ⟨W0, hW0⟩ : ∃ W0, W0 = (w.alloc (.cells (tyA x.t x.vo x.va x.vc) 32)).alloc (.cells zTyA 32) := ⟨_, rfl⟩
  have hA : Below w.heap.size w W0 := by rw [hW0]; exact (al_b w _).trans ((al_b _ _).mono (by simp))
  have hz : W0.heap.size = w.heap.size + 2 := by rw [hW0]; simp
  have hn0 : W0.heap[w.heap.size]? = some (.cells (tyA x.t x.vo x.va x.vc) 32 (0, 0)) := by
    rw [hW0]
    show ((w.heap.push _).push _)[w.heap.size]? = _
    rw [Array.getElem?_push, if_neg (by simp), Array.getElem?_push, if_pos rfl]
  have hn1 : W0.heap[w.heap.size + 1]? = some (.cells zTyA 32 (0, 0)) := by
    rw [hW0]
    show ((w.heap.push _).push _)[w.heap.size + 1]? = _
    rw [Array.getElem?_push, if_pos (by simp)]
  have HP1 : Hid (W0.cell? ⟨w.heap.size, 1, none⟩ = some (.string x.t.p)) := by show _ = _; rw [Lib.cell_of_heap hn0]; rfl
  have HZ : Hid (∀ W, Below W0.heap.size W0 W → BxT (w.heap.size + 1) zT (.slice none 0 0) (.slice none 0 0) (.slice none 0 0) W) := fun W h => BxT.of ((h.block _ (by omega)).trans hn1)
  have HF1 : Hid (∀ W, Below W0.heap.size W0 W → ∀ j, W.frozen? ⟨w.heap.size + 1, j, none⟩ = false) := fun W h j => Lib.frozen_of_heap ((h.block _ (by omega)).trans hn1) j
  have HBw : Hid (∀ W, Below W0.heap.size W0 W → Below w.heap.size w W) := fun W h => hA.trans (h.mono hA.size)
  have HC : Hid (Calls Tryz.prog 41 #[.slice a0 L.length cap0, .string x.t.p] W0 fun e w' => PlP L x.t.p W0 e w') := place_any _ L _ W0 (hr.below hA) hl hn hs (Utf8Tabs_below hU hA) hR
  have HRw : Hid (∀ W, Below w.heap.size w W → IsRow W 8 (.slice a0 L.length cap0) L.length (tCells L)) := fun W h => hr.below h
  have HRi : Hid (Rise (tys L)) := hR
  generalize hp : x.t.p = s at *
  clear hr hn hU hR hA hn0 hn1 hs
  have p1 := HP1.out
  go_enter Tryz.func47, Tryz.ntmps47
  go_wp2_with fail
  rw [← hW0]
  clear hW0
  go_wp2_with fail
  refine HC.out.mono ?_
  rintro e w1 ⟨rfl, hb1⟩
  have HH1 : Hid (Below W0.heap.size W0 w1) := hb1
  obtain ⟨⟨e0, e1, e2, e3⟩, e4, e5, e6, e7⟩ := HZ.out _ hb1
  have f0 := HF1.out _ hb1
  have HB : Hid (Below w.heap.size w w1) := HBw.out _ hb1
  clear hb1 p1 HP1 HC
  cases hs : (parN (tys L) s).isSome
  · have HEnd : Hid (∀ u0 u1 u2 u3 u4 u5 u6 u7, PaP L s w (.returned (.tuple #[tyV zT (.slice none 0 0) (.slice none 0 0) (.slice none 0 0), .bool false])) ((((((((w1.setCell ⟨w.heap.size + 1, 0, none⟩ u0).setCell ⟨w.heap.size + 1, 1, none⟩ u1).setCell ⟨w.heap.size + 1, 2, none⟩ u2).setCell ⟨w.heap.size + 1, 3, none⟩ u3).setCell ⟨w.heap.size + 1, 4, none⟩ u4).setCell ⟨w.heap.size + 1, 5, none⟩ u5).setCell ⟨w.heap.size + 1, 6, none⟩ u6).setCell ⟨w.heap.size + 1, 7, none⟩ u7)) := fun u0 u1 u2 u3 u4 u5 u6 u7 => PaP.zero hs (below8 HB.out (Nat.le_add_right _ 1) u0 u1 u2 u3 u4 u5 u6 u7)
    clear HZ HF1 HBw hs HRw HRi
    go_wp2_with fail
    try simp only [Exit.inBlock, Exit.then]
    refine bodyPost_ret (v := .tuple #[tyV zT (.slice none 0 0) (.slice none 0 0) (.slice none 0 0), .bool false]) ?_ rfl (HEnd.out _ _ _ _ _ _ _ _)
    rw [results_c2 rfl]; go_simp
    exact ⟨rfl, rfl, rfl, rfl, rfl⟩
  · obtain ⟨hk, hpar⟩ := par_plcL HRi.out hs
    obtain ⟨b, off, rfl, hbl, -, hcap, hc⟩ := t_at (HRw.out _ HB.out) (by omega)
    obtain ⟨⟨y0, y1, y2, y3⟩, y4, y5, y6, y7⟩ := hc _ hk
    have HEnd : Hid (∀ u0 u1 u2 u3 u4 u5 u6 u7, PaP L s w (.returned (.tuple #[ltV L[plcN (tys L) s], .bool true])) ((((((((w1.setCell ⟨w.heap.size + 1, 0, none⟩ u0).setCell ⟨w.heap.size + 1, 1, none⟩ u1).setCell ⟨w.heap.size + 1, 2, none⟩ u2).setCell ⟨w.heap.size + 1, 3, none⟩ u3).setCell ⟨w.heap.size + 1, 4, none⟩ u4).setCell ⟨w.heap.size + 1, 5, none⟩ u5).setCell ⟨w.heap.size + 1, 6, none⟩ u6).setCell ⟨w.heap.size + 1, 7, none⟩ u7)) := fun u0 u1 u2 u3 u4 u5 u6 u7 => ⟨L[plcN (tys L) s], by rw [hs], .inr ⟨List.getElem_mem hk, hpar⟩, below8 HB.out (Nat.le_add_right _ 1) u0 u1 u2 u3 u4 u5 u6 u7⟩
    generalize L[plcN (tys L) s]'hk = y at *
    generalize plcN (tys L) s = m at *
    have i1 : (0 : Int) ≤ (m : Int) := by omega
    have i2 : (m : Int) < (L.length : Int) := by omega
    clear HZ HF1 HBw hs HRw HRi hc hpar
    go_wp2_with fail
    try simp only [Exit.inBlock, Exit.then]
    refine bodyPost_ret (v := .tuple #[ltV y, .bool true]) ?_ rfl (HEnd.out _ _ _ _ _ _ _ _)
    rw [results_c2 rfl]; go_simp
    first | done | exact ⟨rfl, rfl, rfl, rfl, rfl⟩ | exact ⟨rfl, rfl, rfl, rfl, rfl, rfl⟩
end Go.Proofs.YticlejkeaagfjaaGreatDoor
/- Types whose rows lie behind a block; stores of types. -/
namespace Go.Proofs.YticlejkeaagfjaaGreatDoor
open Go.RowKit Go.ChangeMaps

/-- A type whose rows lie behind a block. -/
def NewT (base : Nat) (y : LT) : Prop := NewA base y.ao ∧ NewA base y.aa ∧ NewA base y.ac
theorem NewT.le {base base' : Nat} {y : LT} (h : NewT base y) (hb : base' ≤ base) : NewT base' y := ⟨h.1.le hb, h.2.1.le hb, h.2.2.le hb⟩
theorem row_far {w : World} {sz n m c base g : Nat} {a : Option Addr} {xs : List Value} (h : IsRow w sz (.slice a m c) n xs) (hN : NewA base a) (hg : g < base) (j : Nat) (v : Value) : IsRow (w.setCell ⟨g, j, none⟩ v) sz (.slice a m c) n xs := by
  refine ⟨h.1, ?_⟩
  rcases h.2 with h0 | ⟨b, off, cap, hv, hlt, q1, q2, hc⟩
  · exact .inl h0
  · have hb : base ≤ b := by
      simp only [Value.slice.injEq] at hv
      have := hN _ hv.1
      exact this
    refine .inr ⟨b, off, cap, hv, by simpa using hlt, q1, q2, fun k u hu => ?_⟩
    rw [World.cell?_setCell_other _ _ _ _ (by simp only [ne_eq, Addr.mk.injEq, not_and]; intro e; omega)]
    exact hc k u hu
theorem ty_far {w : World} {y : LT} {base g : Nat} (h : IsTy w y.t y.vo y.va y.vc) (hN : NewT base y) (hg : g < base) (j : Nat) (v : Value) : IsTy (w.setCell ⟨g, j, none⟩ v) y.t y.vo y.va y.vc := ⟨row_far h.1 hN.1 hg j v, row_far h.2.1 hN.2.1 hg j v, row_far h.2.2 hN.2.2 hg j v⟩
theorem ty_far8 {w : World} {y : LT} {base g : Nat} (h : IsTy w y.t y.vo y.va y.vc) (hN : NewT base y) (hg : g < base) (u0 u1 u2 u3 u4 u5 u6 u7 : Value) : IsTy ((((((((w.setCell ⟨g, 0, none⟩ u0).setCell ⟨g, 1, none⟩ u1).setCell ⟨g, 2, none⟩ u2).setCell ⟨g, 3, none⟩ u3).setCell ⟨g, 4, none⟩ u4).setCell ⟨g, 5, none⟩ u5).setCell ⟨g, 6, none⟩ u6).setCell ⟨g, 7, none⟩ u7) y.t y.vo y.va y.vc :=
  ty_far (ty_far (ty_far (ty_far (ty_far (ty_far (ty_far (ty_far h hN hg 0 u0) hN hg 1 u1) hN hg 2 u2) hN hg 3 u3) hN hg 4 u4) hN hg 5 u5) hN hg 6 u6) hN hg 7 u7
def MkP (r : Ty × Int) (w : World) (e : Ending) (w' : World) : Prop := ∃ y : LT, e = .returned (.tuple #[ltV y, .int .i64 r.2]) ∧ y.t = r.1 ∧ IsTy w' y.t y.vo y.va y.vc ∧ NewT w.heap.size y ∧ Below w.heap.size w w'
theorem ty_zLT (w : World) : IsTy w zLT.t zLT.vo zLT.va zLT.vc := ⟨IsRow.nil _ _, IsRow.nil _ _, IsRow.nil _ _⟩
theorem new_zLT (b : Nat) : NewT b zLT := ⟨NewA.none _, NewA.none _, NewA.none _⟩
theorem MkP.zero {w w' : World} (n : Int) (h : Below w.heap.size w w') : MkP (zT, n) w (.returned (.tuple #[tyV zT (.slice none 0 0) (.slice none 0 0) (.slice none 0 0), .int .i64 n])) w' := ⟨zLT, rfl, rfl, ty_zLT _, new_zLT _, h⟩
theorem BxT.put8 {g : Nat} {t0 : Ty} {a0 b0 c0 : Value} {w : World} (h : BxT g t0 a0 b0 c0 w) (t : Ty) (vo va vc : Value) : BxT g t vo va vc ((((((((w.setCell ⟨g, 0, none⟩ (.string t.n)).setCell ⟨g, 1, none⟩ (.string t.p)).setCell ⟨g, 2, none⟩ vo).setCell ⟨g, 3, none⟩ va).setCell ⟨g, 4, none⟩ vc).setCell ⟨g, 5, none⟩ (.int .i64 t.nd)).setCell ⟨g, 6, none⟩ (.int .i64 t.lf)).setCell ⟨g, 7, none⟩ (.int .i64 t.sq)) := by
  have o : ∀ (w : World) (i j : Nat) (v : Value), i ≠ j → (w.setCell ⟨g, i, none⟩ v).cell? ⟨g, j, none⟩ = w.cell? ⟨g, j, none⟩ := fun w i j v hij => World.cell?_setCell_other _ _ _ _ (by simp only [ne_eq, Addr.mk.injEq, not_and]; intro _ e; omega)
  obtain ⟨⟨c0, c1, c2, c3⟩, c4, c5, c6, c7⟩ := h
  refine ⟨⟨?_, ?_, ?_, ?_⟩, ?_, ?_, ?_, ?_⟩
  · rw [o _ 7 0 _ (by decide), o _ 6 0 _ (by decide), o _ 5 0 _ (by decide), o _ 4 0 _ (by decide), o _ 3 0 _ (by decide), o _ 2 0 _ (by decide), o _ 1 0 _ (by decide)]
    exact World.cell?_setCell_same _ _ _ c0
  · rw [o _ 7 1 _ (by decide), o _ 6 1 _ (by decide), o _ 5 1 _ (by decide), o _ 4 1 _ (by decide), o _ 3 1 _ (by decide), o _ 2 1 _ (by decide)]
    exact World.cell?_setCell_same _ _ _ ((o _ 0 1 _ (by decide)).trans c1)
  · rw [o _ 7 2 _ (by decide), o _ 6 2 _ (by decide), o _ 5 2 _ (by decide), o _ 4 2 _ (by decide), o _ 3 2 _ (by decide)]
    exact World.cell?_setCell_same _ _ _ ((o _ 1 2 _ (by decide)).trans ((o _ 0 2 _ (by decide)).trans c2))
  · rw [o _ 7 3 _ (by decide), o _ 6 3 _ (by decide), o _ 5 3 _ (by decide), o _ 4 3 _ (by decide)]
    exact World.cell?_setCell_same _ _ _ ((o _ 2 3 _ (by decide)).trans ((o _ 1 3 _ (by decide)).trans ((o _ 0 3 _ (by decide)).trans c3)))
  · rw [o _ 7 4 _ (by decide), o _ 6 4 _ (by decide), o _ 5 4 _ (by decide)]
    exact World.cell?_setCell_same _ _ _ ((o _ 3 4 _ (by decide)).trans ((o _ 2 4 _ (by decide)).trans ((o _ 1 4 _ (by decide)).trans ((o _ 0 4 _ (by decide)).trans c4))))
  · rw [o _ 7 5 _ (by decide), o _ 6 5 _ (by decide)]
    exact World.cell?_setCell_same _ _ _ ((o _ 4 5 _ (by decide)).trans ((o _ 3 5 _ (by decide)).trans ((o _ 2 5 _ (by decide)).trans ((o _ 1 5 _ (by decide)).trans ((o _ 0 5 _ (by decide)).trans c5)))))
  · rw [o _ 7 6 _ (by decide)]
    exact World.cell?_setCell_same _ _ _ ((o _ 5 6 _ (by decide)).trans ((o _ 4 6 _ (by decide)).trans ((o _ 3 6 _ (by decide)).trans ((o _ 2 6 _ (by decide)).trans ((o _ 1 6 _ (by decide)).trans ((o _ 0 6 _ (by decide)).trans c6))))))
  · exact World.cell?_setCell_same _ _ _ ((o _ 6 7 _ (by decide)).trans ((o _ 5 7 _ (by decide)).trans ((o _ 4 7 _ (by decide)).trans ((o _ 3 7 _ (by decide)).trans ((o _ 2 7 _ (by decide)).trans ((o _ 1 7 _ (by decide)).trans ((o _ 0 7 _ (by decide)).trans c7)))))))
theorem row_one {w : World} {g : Nat} {s : ByteArray} (h : w.heap[g]? = some (.cells #[.string s] 9 (0, 0))) : IsRow w 1 (.slice (some ⟨g, 0, none⟩) 1 1) 1 (sVals [s]) := by
  refine ⟨rfl, .inr ⟨g, 0, 1, rfl, (Array.getElem?_eq_some_iff.1 h).1, Nat.le_refl _, by decide, fun j u hu => ?_⟩⟩
  match j, hu with
  | 0, hu =>
    rw [Lib.cell_of_heap h]
    exact hu
  | j + 1, hu => simp [sVals] at hu
end Go.Proofs.YticlejkeaagfjaaGreatDoor
