/- ring.Ring, ring.Owner, ring.Heirs: walks. -/
import Derived.Test.YtpepdcbhimjddaaDoorJE
namespace Go.Proofs.YtpepdcbhimjddaaDoor
open Go.RowKit

/-- Nodes in cells. -/
def nCells (r : List Nat) : List Value := r.map fun (n : Nat) => .int .i64 (n : Int)
theorem nCells_is (r : List Nat) : nCells r = iCells (r.map fun (n : Nat) => (n : Int)) := by simp [nCells, iCells]
/-- What hands back nodes leaves. -/
def RwPost (r : List Nat) (w : World) (e : Ending) (w' : World) : Prop :=
  ∃ v', e = .returned v' ∧ IsRow w' 1 v' r.length (nCells r) ∧ Below w.heap.size w w'
theorem nCells_take (r : List Nat) (k : Nat) (hk : k < r.length) : nCells (r.take (k + 1)) = nCells (r.take k) ++ [.int .i64 (r[k] : Int)] := by
  unfold nCells
  rw [List.take_succ_eq_append_getElem hk, List.map_append]
  rfl
theorem st_at {w : World} {a : Option Addr} {cap : Nat} {r : List Nat} (h : IsRow w 2 (.slice a r.length cap) r.length (stCells r)) (k : Nat) (hk : k < r.length) :
    ∃ b off, a = some ⟨b, off, none⟩ ∧ b < w.heap.size ∧ r.length ≤ cap ∧ w.cell? ⟨b, off + k * 2, none⟩ = some (.int .i64 (r[k] : Int)) ∧ w.cell? ⟨b, off + k * 2 + 1, none⟩ = some (.int .u64 (pt r[k] : Int)) := by
  obtain ⟨b, off, cap', hv, hlt, q1, q2, hc⟩ := h.open (by omega)
  simp only [Value.slice.injEq] at hv
  have hl : (r.map st).length = r.length := List.length_map _
  have e : (r.map st)[k]! = st r[k] := by rw [getElem!_pos (r.map st) k (by rw [hl]; exact hk)]; simp
  have g0 := flat_get (r.map st) (k * 2) (by omega)
  have g1 := flat_get (r.map st) (k * 2 + 1) (by omega)
  rw [show k * 2 / 2 = k by omega, show k * 2 % 2 = 0 by omega, e] at g0
  rw [show (k * 2 + 1) / 2 = k by omega, show (k * 2 + 1) % 2 = 1 by omega, e] at g1
  refine ⟨b, off, hv.1, hlt, by omega, ?_, ?_⟩
  · exact hc (k * 2) _ g0
  · have := hc (k * 2 + 1) _ g1
    rw [← Nat.add_assoc] at this
    exact this
theorem wpl_app1 {P : Program} (wr : World) {ops : Array Oper} {rest : List Oper} {o : Oper} {a : Act} {Q : Exit → Act → World → Prop} (hgd : o.guard = none) (s x : Operand) (t e : TypeId)
    (ho : o.op = .call { callee := .builtin .append, args := #[s, x], argTypes := #[t, t] })
    (i : TypeInfo) (z : Value) (bytes : Nat) (ht : P.underlying t = some (.slice e)) (hi : P.info? e = some i) (hz : i.zero = some z)
    (hsize : i.size = 1) (hby : i.bytes = bytes) (hzs : z.cells.size = 1)
    (base : Nat) (v : Value) (n : Nat) (xs : List Value) (hs : a.eval s = v) (hown : wr.ownsRow base e 1 v n xs)
    (el : Value) (N : Nat) (hN : N = wr.heap.size) (hx : a.eval x = .slice (some ⟨N, 0, none⟩) 1 1) (h1 : el.oneCell' = true)
    (hbytes : (n + 1) * bytes ≤ 140737488355328) (h63 : n + 1 ≤ maxLen) (hbase : base ≤ wr.heap.size)
    (h : ∀ v' w', w'.ownsRow base e 1 v' (n + 1) (xs ++ [el]) → Below base wr w' → v' ≠ .slice none 0 0 → wpList P ops Q rest (a.put o.dst v') w') :
    wpList P ops Q (o :: rest) a (wr.alloc (.cells #[el] e)) := by
  subst hN
  exact wpl_app wr hgd s x t e ho i z bytes ht hi hz hsize hby hzs base v n xs hs hown el hx h1 hbytes h63 hbase h
theorem info_in : (Tryd.prog.info? 3).map (fun i => (i.zero, i.size, i.bytes)) = some (some (.int .i64 0), 1, 8) := by kernel_rfl
theorem rg_le (l : List Int) : (rgL l).length ≤ 15 := by
  unfold rgL
  split
  · exact List.length_filter_le _ _
  · simp
/-- A key's owner; 0: there is none. -/
noncomputable def ownL (key : Nat) (l : List Int) : Nat := (hsL key (rgL l)).head?.getD 0
noncomputable def hasL (l : List Int) : Bool := !(rgL l).isEmpty
set_option maxRecDepth 100000 in
theorem ownerL_any (key : Nat) (v : Value) (l : List Int) (w : World) (hr : IsRow w 1 v l.length (iCells l)) (hl : l.length ≤ 1000) :
    Calls Tryd.prog 66 #[.int .u64 (key : Int), v] w fun e w' => e = .returned (.tuple #[.int .i64 (ownL key l : Int), .bool (hasL l)]) ∧ Below w.heap.size w w' := by
  have HS : Hid (Calls Tryd.prog 62 #[v] w fun e w' => StPost l w e w') := stands_any v l w hr hl
  have hrl := rg_le l
  have hsr := rgL_sorted l
  unfold ownL hasL
  generalize hR : rgL l = r at *
  clear hr
  by_cases h0 : r.length = 0
  · obtain rfl := List.eq_nil_of_length_eq_zero h0
    go_enter Tryd.func66, Tryd.ntmps66
    go_wp2_with fail
    refine HS.out.mono ?_
    rintro e w1 ⟨v1, rfl, hrow, hb1⟩
    rw [hR] at hrow
    clear hR HS hsr
    obtain ⟨a1, cap1, rfl⟩ := hrow.form
    clear hrow
    go_wp2
    go_ret2
    exact ⟨rfl, hb1⟩
  · have hp : 0 < r.length := by omega
    have HOw : Hid (∀ v w, IsRow w 2 v r.length (stCells r) → Calls Tryd.prog 63 #[.int .u64 (key : Int), v] w fun e w' => e = .returned (.int .i64 (owI key r : Int)) ∧ Below w.heap.size w w') := fun v w h => owner_any key v r w h hsr (by omega)
    have hlt := owI_lt key r hsr hp
    have hat := owner_at key r hsr hp
    generalize owI key r = q at *
    have HV : Hid (((hsL key r).head?.getD 0 : Nat) = r[q]) := by
      show _ = _
      rw [List.head?_eq_getElem?, ← hat, List.getElem?_eq_getElem hlt]
      rfl
    have HE : Hid ((!r.isEmpty) = true) := by
      show _ = _
      cases r with
      | nil => exact absurd rfl h0
      | cons a b => rfl
    rw [HV.out, HE.out]
    have d0 : ((r.length : Int) == 0) = false := by rw [beq_eq_false_iff_ne]; omega
    clear hat HV HE
    go_enter Tryd.func66, Tryd.ntmps66
    go_wp2_with fail
    refine HS.out.mono ?_
    rintro e w1 ⟨v1, rfl, hrow, hb1⟩
    rw [hR] at hrow
    clear hR HS hsr
    obtain ⟨a1, cap1, rfl⟩ := hrow.form
    have HR : Hid (IsRow w1 2 (.slice a1 r.length cap1) r.length (stCells r)) := hrow
    clear hrow
    go_wp2_with fail
    refine (HOw.out _ _ HR.out).mono ?_
    rintro e w2 ⟨rfl, hb2⟩
    obtain ⟨b, off, rfl, hltb, -, c0, c1⟩ := st_at (HR.out.below hb2) q hlt
    have HB : Hid (Below w.heap.size w w2) := hb1.trans (hb2.mono hb1.size)
    clear hb1 hb2 HR
    go_wp2
    go_ret2
    exact ⟨rfl, HB.out⟩
set_option maxRecDepth 100000 in
set_option maxHeartbeats 1000000 in
theorem heirs_any (key : Nat) (v : Value) (l : List Int) (most : Int) (w : World) (hr : IsRow w 1 v l.length (iCells l)) (hl : l.length ≤ 1000) :
    Calls Tryd.prog 46 #[.int .u64 (key : Int), v, .int .i64 most] w fun e w' => RwPost ((hsL key (rgL l)).take most.toNat) w e w' := by
  have HS : Hid (Calls Tryd.prog 62 #[v] w fun e w' => StPost l w e w') := stands_any v l w hr hl
  have hrl := rg_le l
  have hsr := rgL_sorted l
  generalize hR : rgL l = r at *
  clear hr
  have HOw : Hid (∀ v w, IsRow w 2 v r.length (stCells r) → Calls Tryd.prog 63 #[.int .u64 (key : Int), v] w fun e w' => e = .returned (.int .i64 (owI key r : Int)) ∧ Below w.heap.size w w') := fun v w h => owner_any key v r w h hsr (by omega)
  have HAt : Hid (∀ (i : Nat), i < r.length → r[(owI key r + i) % r.length]? = (hsL key r)[i]?) := fun i hi => heir_at key r hsr i hi
  have HLn : Hid ((hsL key r).length = r.length) := hsL_len key r hsr
  have hq15 : owI key r ≤ 15 := by
    by_cases h0 : 0 < r.length
    · have := owI_lt key r hsr h0; omega
    · have : r = [] := List.eq_nil_of_length_eq_zero (by omega)
      subst this
      show (if _ then _ else _) ≤ 15
      simp
  generalize owI key r = q at *
  generalize hsL key r = H at *
  obtain ⟨M, hM⟩ : ∃ M : Nat, M = (min most (r.length : Int)).toNat := ⟨_, rfl⟩
  have HM : Hid (∀ k : Nat, decide ((k : Int) < min most (r.length : Int)) = decide (k < M)) := fun k => by
    rw [hM]
    by_cases h : (k : Int) < min most (r.length : Int)
    · rw [decide_eq_true h, decide_eq_true (by omega)]
    · rw [decide_eq_false h, decide_eq_false (by omega)]
  have hMr : M ≤ r.length := by omega
  have HTk : Hid (H.take most.toNat = H.take M) := by
    show _ = _
    by_cases h : most.toNat ≤ r.length
    · rw [show M = most.toNat by omega]
    · rw [List.take_of_length_le (by rw [HLn.out]; omega), List.take_of_length_le (by rw [HLn.out]; omega)]
  rw [HTk.out]
  clear HTk hM
  obtain ⟨i0, hi0, hz0, hz1, hz2⟩ := info_parts info_in
  go_enter Tryd.func46, Tryd.ntmps46
  go_wp2_with fail
  refine HS.out.mono ?_
  rintro e w1 ⟨v1, rfl, hrow, hb1⟩
  rw [hR] at hrow
  clear hR HS
  obtain ⟨a1, cap1, rfl⟩ := hrow.form
  have HR1 : Hid (IsRow w1 2 (.slice a1 r.length cap1) r.length (stCells r)) := hrow
  clear hrow
  go_wp2_with fail
  refine (HOw.out _ _ HR1.out).mono ?_
  rintro e w2 ⟨rfl, hb2⟩
  have HR : Hid (IsRow w2 2 (.slice a1 r.length cap1) r.length (stCells r)) := HR1.out.below hb2
  have HB2 : Hid (Below w.heap.size w w2) := hb1.trans (hb2.mono hb1.size)
  have hs2 := HB2.out.size
  clear hb1 hb2 HR1 HOw
  go_wp2_with fail
  go_loopw [6, 19] (fun o i wr => ∃ k : Nat, k ≤ M ∧ i = .int .i64 (k : Int) ∧ wr.ownsRow w2.heap.size 3 1 o k (nCells (H.take k)) ∧ Below w2.heap.size w2 wr) (fun _ i _ => M - (intOf i).toNat)
  case atStart => exact ⟨0, Nat.zero_le _, rfl, World.ownsRow_nil _ _ _ _, Below.refl _ _⟩
  case round =>
    obtain ⟨k, hk, rfl, hown, hB⟩ := hrel
    have hsz := hB.size
    have dk := HM.out k
    by_cases hlk : k < M
    · rw [decide_eq_true hlk] at dk
      have hlr : k < r.length := by omega
      have hlH : k < H.length := by rw [HLn.out]; exact hlr
      have hpl : (q + k) % r.length < r.length := Nat.mod_lt _ (by omega)
      obtain ⟨b, off, rfl, hlt, -, c0, c1⟩ := st_at (HR.out.below hB) ((q + k) % r.length) hpl
      have hx := HAt.out k hlr
      rw [List.getElem?_eq_getElem hpl, List.getElem?_eq_getElem hlH, Option.some.injEq] at hx
      rw [hx] at c0
      have HT : Hid (nCells (H.take (k + 1)) = nCells (H.take k) ++ [.int .i64 (H[k] : Int)]) := nCells_take H k hlH
      have HO : Hid (wr.ownsRow w2.heap.size 3 1 u6 k (nCells (H.take k))) := hown
      have hmod : ((q : Int) + k) % r.length = (((q + k) % r.length : Nat) : Int) := by simp
      have hmod2 : ((q : Int) + k).tmod r.length = (((q + k) % r.length : Nat) : Int) := by rw [Int.tmod_eq_emod_of_nonneg (by omega)]; exact hmod
      have hr0 : ((r.length : Int) == 0) = false := by rw [beq_eq_false_iff_ne]; omega
      generalize hmm : (q + k) % r.length = mm at *
      generalize H[k]'hlH = x at *
      clear hown hx c1 hmm
      go_wp2_with (at_builtin; go_loud (refine wpl_app1 wr rfl (.tmp 22) (.tmp 33) 25 3 rfl i0 _ 8 Tryd.underlying25 hi0 hz0 hz1 hz2 rfl w2.heap.size u6 k _ rfl HO.out (.int .i64 (x : Int)) _ rfl rfl rfl (by omega) (by unfold maxLen; omega) hsz ?_; intro v4 w4 hown4 hb4 hne4))
      have HO4 : Hid (w4.ownsRow w2.heap.size 3 1 v4 (k + 1) (nCells (H.take (k + 1)))) := by show World.ownsRow _ _ _ _ _ _ _; rw [HT.out]; exact hown4
      have HB4 : Hid (Below w2.heap.size w2 w4) := hB.trans hb4
      clear hown4 hb4 HT HO hne4 hB
      go_wp2
      go_roundw
      case rel => exact ⟨k + 1, by omega, by simp, HO4.out, HB4.out⟩
      case measure => simp [intOf]; omega
    · rw [decide_eq_false hlk] at dk
      have hk' : k = M := by omega
      subst hk'
      have HO : Hid (IsRow wr 1 u6 (H.take k).length (nCells (H.take k))) := by
        show IsRow _ _ _ _ _
        rw [List.length_take, Nat.min_eq_left (by rw [HLn.out]; omega)]
        exact IsRow.own hown
      have HB : Hid (Below w.heap.size w wr) := HB2.out.trans (hB.mono hs2)
      clear hown hB
      go_wp2
      go_ret
      exact ⟨_, rfl, HO.out, HB.out⟩
end Go.Proofs.YtpepdcbhimjddaaDoor
