/- schema.Fits: its walk. -/
import Derived.Test.YticlejkeaagfjaaGreatDoorZi
namespace Go.Proofs.YticlejkeaagfjaaGreatDoor
open Go.RowKit

/-- What of the attributes does not fit, if anything does not. -/
def fit1 (l : List Fd) : List At → Int
  | [] => 0
  | x :: r => match getF l x.n with
    | none => 4
    | some f => if f.k = x.k then fit1 l r else 8
/-- Is a field that must be there not there? -/
def fit2 (a : List At) : List Fd → Int
  | [] => 0
  | f :: r => if f.m = true ∧ (getA a f.n).isSome = false then 7 else fit2 a r
def fitsL (l : List Fd) (a : List At) : Int := if chkF l = true ∧ chkA a = true then (if fit1 l a = 0 then fit2 a l else fit1 l a) else 1
theorem fit1_at {l : List Fd} {a : List At} {k : Nat} (h : k < a.length) : fit1 l (a.drop k) = match getF l a[k].n with
    | none => 4
    | some f => if f.k = a[k].k then fit1 l (a.drop (k + 1)) else 8 := by
  rw [List.drop_eq_getElem_cons h]; rfl
theorem fit2_at {l : List Fd} {a : List At} {k : Nat} (h : k < l.length) : fit2 a (l.drop k) = if l[k].m = true ∧ (getA a l[k].n).isSome = false then 7 else fit2 a (l.drop (k + 1)) := by
  rw [List.drop_eq_getElem_cons h]; rfl
theorem z4' {w w' : World} {b : Nat} {x y z u : Value} {t : TypeId} {B : Nat} (h : w.heap[b]? = some (.cells #[x, y, z, u] t)) (hb : Below B w w') (hl : b < B) : w'.heap[b]? = some (.cells #[x, y, z, u] t) := (hb.block _ hl).trans h
set_option maxRecDepth 100000 in
set_option maxHeartbeats 4000000 in
theorem fits_any (v u : Value) (l : List Fd) (a : List At) (w : World) (hr : IsRow w 3 v l.length (fCells l)) (hq : IsRow w 4 u a.length (aCells a)) (hl : l.length ≤ 1000000) (hal : a.length ≤ 1000000) (hn : NmF l) (hna : NmA a) (hT : UT w) (hM : ML w) :
    Calls Tryz.prog 57 #[v, u] w fun e w' => e = .returned (.int .i64 (fitsL l a)) ∧ Below w.heap.size w w' := by
  obtain ⟨a0, cap0, rfl⟩ := hr.form
  obtain ⟨a1, cap1, rfl⟩ := hq.form
  have HR : Hid (∀ w', Below w.heap.size w w' → IsRow w' 3 (.slice a0 l.length cap0) l.length (fCells l)) := fun w' h => hr.below h
  have HQ : Hid (∀ w', Below w.heap.size w w' → IsRow w' 4 (.slice a1 a.length cap1) a.length (aCells a)) := fun w' h => hq.below h
  have HCF : Hid (Calls Tryz.prog 44 #[.slice a0 l.length cap0] w fun e w'' => e = .returned (.bool (chkF l)) ∧ Below w.heap.size w w'') := checkF_any _ l w hr hl hn hT hM
  have HCA : Hid (∀ w', Below w.heap.size w w' → Calls Tryz.prog 95 #[.slice a1 a.length cap1] w' fun e w'' => e = .returned (.bool (chkA a)) ∧ Below w'.heap.size w' w'') := fun w' h => attrs_any _ a w' (hq.below h) hal hna (Utf8Tabs_below hT h) (ML_below hM h)
  have HF : Hid (∀ (k : Nat) (hk : k < a.length) w', Below w.heap.size w w' → Calls Tryz.prog 96 #[.slice a0 l.length cap0, .string a[k].n] w' fun e w'' => e = .returned (.tuple #[fV ((getF l a[k].n).getD zF), .bool (getF l a[k].n).isSome]) ∧ Below w'.heap.size w' w'') := fun k hk w' h => find_any _ l _ w' (hr.below h) hl hn (hna _ (List.getElem_mem hk)).1 (Utf8Tabs_below hT h)
  have HG : Hid (∀ (k : Nat) (hk : k < l.length) w', Below w.heap.size w w' → Calls Tryz.prog 97 #[.slice a1 a.length cap1, .string l[k].n] w' fun e w'' => e = .returned (.tuple #[vOf (getA a l[k].n), .bool (getA a l[k].n).isSome]) ∧ Below w'.heap.size w' w'') := fun k hk w' h => get_any _ a _ w' (hq.below h) hal hna (hn _ (List.getElem_mem hk)) (Utf8Tabs_below hT h)
  clear hr hq hn hna hT hM
  cases hcl : chkF l with
  | false =>
    have e0 : fitsL l a = 1 := by unfold fitsL; rw [hcl]; simp
    rw [hcl] at HCF
    rw [e0]
    go_enter Tryz.func57, Tryz.ntmps57
    go_wp2_with fail
    refine HCF.out.mono ?_
    rintro e w1 ⟨rfl, hb⟩
    have HB : Hid (Below w.heap.size w w1) := hb
    clear hb
    go_wp2
    go_ret
    exact ⟨rfl, HB.out⟩
  | true =>
  rw [hcl] at HCF
  cases hca : chkA a with
  | false =>
    have e0 : fitsL l a = 1 := by unfold fitsL; rw [hca]; simp
    rw [hca] at HCA
    rw [e0]
    go_enter Tryz.func57, Tryz.ntmps57
    go_wp2_with fail
    refine HCF.out.mono ?_
    rintro e w1 ⟨rfl, hb⟩
    have HB : Hid (Below w.heap.size w w1) := hb
    clear hb
    go_wp2_with fail
    refine (HCA.out w1 HB.out).mono ?_
    rintro e w2 ⟨rfl, hb⟩
    have HB2 : Hid (Below w.heap.size w w2) := HB.out.trans (hb.mono HB.out.size)
    clear hb
    go_wp2
    go_ret
    exact ⟨rfl, HB2.out⟩
  | true =>
  rw [hca] at HCA
  have HE : Hid (fitsL l a = if fit1 l a = 0 then fit2 a l else fit1 l a) := by show _ = _; unfold fitsL; rw [hcl, hca, if_pos ⟨rfl, rfl⟩]
  clear hcl hca
  go_enter Tryz.func57, Tryz.ntmps57
  go_wp2_with fail
  refine HCF.out.mono ?_
  rintro e w1 ⟨rfl, hb⟩
  have HB : Hid (Below w.heap.size w w1) := hb
  clear hb
  go_wp2_with fail
  refine (HCA.out w1 HB.out).mono ?_
  rintro e w2 ⟨rfl, hb⟩
  have HB2 : Hid (Below w.heap.size w w2) := HB.out.trans (hb.mono HB.out.size)
  clear hb
  go_wp2_with fail
  go_loopw [4, 23] (fun r i wr => r = .int .i64 0 ∧ ∃ k : Nat, k ≤ a.length ∧ i = .int .i64 (k : Int) ∧ Hid (fit1 l a = fit1 l (a.drop k)) ∧ Below w.heap.size w wr) (fun _ i _ => a.length - (intOf i).toNat)
  case atStart => exact ⟨rfl, 0, Nat.zero_le _, rfl, rfl, HB2.out⟩
  case round =>
    obtain ⟨rfl, k, hk, rfl, HO, hB⟩ := hrel
    by_cases hlk : k < a.length
    · have dk : decide ((k : Int) < a.length) = true := by simp; omega
      obtain ⟨b, off, rfl, hlt, hcap, hc⟩ := a_at (HQ.out wr hB) (by omega)
      obtain ⟨ck0, ck1, ck2, ck3⟩ := hc k hlk
      have hAl := al_b wr (.cells #[.string a[k].n, .int .i64 a[k].k, .int .i64 a[k].v, .string a[k].s] 66)
      have hB1 := hB.trans (hAl.mono hB.size)
      have HFk : Hid (Calls Tryz.prog 96 #[.slice a0 l.length cap0, .string a[k].n] (wr.alloc (.cells #[.string a[k].n, .int .i64 a[k].k, .int .i64 a[k].v, .string a[k].s] 66)) fun e w'' => e = .returned (.tuple #[fV ((getF l a[k].n).getD zF), .bool (getF l a[k].n).isSome]) ∧ Below (wr.alloc (.cells #[.string a[k].n, .int .i64 a[k].k, .int .i64 a[k].v, .string a[k].s] 66)).heap.size (wr.alloc (.cells #[.string a[k].n, .int .i64 a[k].k, .int .i64 a[k].v, .string a[k].s] 66)) w'') := HF.out k hlk _ hB1
      have HN : Hid (∀ w', Below (wr.alloc (.cells #[.string a[k].n, .int .i64 a[k].k, .int .i64 a[k].v, .string a[k].s] 66)).heap.size (wr.alloc (.cells #[.string a[k].n, .int .i64 a[k].k, .int .i64 a[k].v, .string a[k].s] 66)) w' → w'.cell? ⟨wr.heap.size, 1, none⟩ = some (.int .i64 a[k].k) ∧ wr.heap.size < w'.heap.size ∧ Below w.heap.size w w') := fun w' h =>
        ⟨(h.cell (p := ⟨wr.heap.size, 1, none⟩) (by simp)).trans (by simp), Nat.lt_of_lt_of_le (by simp) h.size, hB1.trans (h.mono hB1.size)⟩
      have HS := fit1_at (l := l) hlk
      rw [← HO.out] at HS
      generalize hg : getF l a[k].n = g at *
      cases g with
      | none =>
        have HS2 : Hid (fit1 l a = 4) := HS
        generalize a[k]'hlk = x at *
        obtain ⟨n, kk, nn, tt⟩ := x
        clear hc HO hAl hB1 HS hg
        go_wp2_with fail
        refine HFk.out.mono ?_
        rintro e w3 ⟨rfl, hb⟩
        obtain ⟨y0, y1, y2⟩ := HN.out w3 hb
        have HBB : Hid (Below w.heap.size w w3) := y2
        clear hb y2 hB HFk
        go_wp2
        go_ret
        exact ⟨by rw [HE.out, HS2.out]; rfl, HBB.out.trans ((al_b w3 _).mono HBB.out.size)⟩
      | some f =>
        obtain ⟨fn, fk, fm⟩ := f
        by_cases hkk : fk = a[k].k
        · have HS2 : Hid (fit1 l a = fit1 l (a.drop (k + 1))) := HS.trans (if_pos hkk)
          have dn : (fk != a[k].k) = false := by rw [hkk]; simp
          generalize a[k]'hlk = x at *
          obtain ⟨n, kk, nn, tt⟩ := x
          clear hc HO hAl hB1 HS hg hkk
          go_wp2_with fail
          refine HFk.out.mono ?_
          rintro e w3 ⟨rfl, hb⟩
          obtain ⟨y0, y1, y2⟩ := HN.out w3 hb
          have HBB : Hid (Below w.heap.size w w3) := y2
          clear hb y2 hB HFk
          go_wp2
          go_roundw
          case rel => exact ⟨rfl, k + 1, by omega, by simp, HS2, HBB.out.trans ((al_b w3 _).mono HBB.out.size)⟩
          case measure => simp [intOf]; omega
        · have HS2 : Hid (fit1 l a = 8) := HS.trans (if_neg hkk)
          have dn : (fk != a[k].k) = true := by rw [bne_iff_ne]; exact hkk
          generalize a[k]'hlk = x at *
          obtain ⟨n, kk, nn, tt⟩ := x
          clear hc HO hAl hB1 HS hg hkk
          go_wp2_with fail
          refine HFk.out.mono ?_
          rintro e w3 ⟨rfl, hb⟩
          obtain ⟨y0, y1, y2⟩ := HN.out w3 hb
          have HBB : Hid (Below w.heap.size w w3) := y2
          clear hb y2 hB HFk
          go_wp2
          go_ret
          exact ⟨by rw [HE.out, HS2.out]; rfl, HBB.out.trans ((al_b w3 _).mono HBB.out.size)⟩
    · have hk' : k = a.length := by omega
      subst hk'
      have dk : decide ((a.length : Int) < a.length) = false := by simp
      have HE2 : Hid (fitsL l a = fit2 a l) := by
        have : fit1 l a = 0 := by rw [HO.out, List.drop_length]; rfl
        show _ = _
        rw [HE.out, if_pos this]
      clear HO HE
      have HBr : Hid (Below w.heap.size w wr) := hB
      clear hB
      go_wp2_with fail
      go_loopw [4, 45] (fun r i wq => r = .int .i64 0 ∧ ∃ k : Nat, k ≤ l.length ∧ i = .int .i64 (k : Int) ∧ Hid (fit2 a l = fit2 a (l.drop k)) ∧ Below w.heap.size w wq) (fun _ i _ => l.length - (intOf i).toNat)
      case atStart => exact ⟨rfl, 0, Nat.zero_le _, rfl, rfl, HBr.out⟩
      case round =>
        clear HBr
        obtain ⟨rfl, k, hk2, rfl, HO, hB⟩ := hrel
        by_cases hlk : k < l.length
        · have dk2 : decide ((k : Int) < l.length) = true := by simp; omega
          obtain ⟨b, off, rfl, hlt, hcap, hc⟩ := f_at (HR.out _ hB) (by omega)
          obtain ⟨ck0, ck1, ck2⟩ := hc k hlk
          have hAl := al_b wr (.cells #[.string l[k].n, .int .i64 l[k].k, .bool l[k].m] 93)
          have hB1 := hB.trans (hAl.mono hB.size)
          have HGk : Hid (Calls Tryz.prog 97 #[.slice a1 a.length cap1, .string l[k].n] (wr.alloc (.cells #[.string l[k].n, .int .i64 l[k].k, .bool l[k].m] 93)) fun e w'' => e = .returned (.tuple #[vOf (getA a l[k].n), .bool (getA a l[k].n).isSome]) ∧ Below (wr.alloc (.cells #[.string l[k].n, .int .i64 l[k].k, .bool l[k].m] 93)).heap.size (wr.alloc (.cells #[.string l[k].n, .int .i64 l[k].k, .bool l[k].m] 93)) w'') := HG.out k hlk _ hB1
          have HN : Hid (∀ w', Below (wr.alloc (.cells #[.string l[k].n, .int .i64 l[k].k, .bool l[k].m] 93)).heap.size (wr.alloc (.cells #[.string l[k].n, .int .i64 l[k].k, .bool l[k].m] 93)) w' → w'.cell? ⟨wr.heap.size, 2, none⟩ = some (.bool l[k].m) ∧ wr.heap.size < w'.heap.size ∧ Below w.heap.size w w') := fun w' h =>
            ⟨(h.cell (p := ⟨wr.heap.size, 2, none⟩) (by simp)).trans (by simp), Nat.lt_of_lt_of_le (by simp) h.size, hB1.trans (h.mono hB1.size)⟩
          have HS := fit2_at (a := a) hlk
          rw [← HO.out] at HS
          have hvo : ∃ p q r, vOf (getA a l[k].n) = vv p q r := by
            cases getA a l[k].n with
            | none => exact ⟨_, _, _, rfl⟩
            | some x => exact ⟨_, _, _, rfl⟩
          obtain ⟨p, q, r, hvo⟩ := hvo
          rw [hvo] at HGk
          clear hvo
          generalize (getA a l[k].n).isSome = g at *
          by_cases hmg : l[k].m = true ∧ g = false
          · have HS2 : Hid (fit2 a l = 7) := HS.trans (if_pos hmg)
            obtain ⟨hm, rfl⟩ := hmg
            rw [hm] at ck2 HGk HN
            generalize l[k]'hlk = x at *
            obtain ⟨n, kk, m⟩ := x
            simp only at hm
            subst hm
            clear hc HO hAl hB1 HS
            go_wp2_with fail
            refine HGk.out.mono ?_
            rintro e w3 ⟨rfl, hb⟩
            obtain ⟨y0, y1, y2⟩ := HN.out w3 hb
            have HBB : Hid (Below w.heap.size w w3) := y2
            clear hb y2 hB HGk
            go_wp2
            go_ret
            exact ⟨by rw [HE2.out, HS2.out]; rfl, HBB.out.trans ((al_b w3 _).mono HBB.out.size)⟩
          · have HS2 : Hid (fit2 a l = fit2 a (l.drop (k + 1))) := HS.trans (if_neg hmg)
            generalize l[k]'hlk = x at *
            obtain ⟨n, kk, m⟩ := x
            simp only at hmg
            clear hc HO hAl hB1 HS
            cases m with
            | false =>
              clear hmg
              go_wp2_with fail
              refine HGk.out.mono ?_
              rintro e w3 ⟨rfl, hb⟩
              obtain ⟨y0, y1, y2⟩ := HN.out w3 hb
              have HBB : Hid (Below w.heap.size w w3) := y2
              clear hb y2 hB HGk
              go_wp2
              go_roundw
              case rel => exact ⟨rfl, k + 1, by omega, by simp, HS2, HBB.out.trans ((al_b w3 _).mono HBB.out.size)⟩
              case measure => simp [intOf]; omega
            | true =>
              obtain rfl : g = true := by cases g with
                | true => rfl
                | false => exact absurd ⟨rfl, rfl⟩ hmg
              clear hmg
              go_wp2_with fail
              refine HGk.out.mono ?_
              rintro e w3 ⟨rfl, hb⟩
              obtain ⟨y0, y1, y2⟩ := HN.out w3 hb
              have HBB : Hid (Below w.heap.size w w3) := y2
              clear hb y2 hB HGk
              go_wp2
              go_roundw
              case rel => exact ⟨rfl, k + 1, by omega, by simp, HS2, HBB.out.trans ((al_b w3 _).mono HBB.out.size)⟩
              case measure => simp [intOf]; omega
        · have hk' : k = l.length := by omega
          subst hk'
          have dk2 : decide ((l.length : Int) < l.length) = false := by simp
          have HE3 : Hid (fitsL l a = 0) := by
            show _ = _
            rw [HE2.out, HO.out, List.drop_length]; rfl
          clear HO HE2
          have HBB : Hid (Below w.heap.size w _) := hB
          clear hB
          go_wp2
          go_ret
          exact ⟨by rw [HE3.out]; rfl, HBB.out⟩
end Go.Proofs.YticlejkeaagfjaaGreatDoor
