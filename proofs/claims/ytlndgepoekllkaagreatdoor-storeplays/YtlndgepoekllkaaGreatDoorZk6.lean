/- forest.counts, IsID, climb: walks. -/
import Derived.Test.YtlndgepoekllkaaGreatDoorZk4
import Derived.WalkMore
import Derived.Test.YtlndgepoekllkaaGreatDoorZk5
namespace Go.Proofs.YtlndgepoekllkaaGreatDoor
open Go.RowKit

def cntI (n : Int) : Bool := decide (1 ≤ n) && decide (n ≤ 1099511627775)
/-- May an identity be? -/
def idB (a b c : Int) : Bool := decide (1 ≤ a) && (decide (a ≤ 15) && (cntI b && cntI c))
abbrev idV (a b c : Int) : Value := .agg #[.int .i64 a, .int .i64 b, .int .i64 c]
theorem countsI_any (n : Int) (w : World) : Calls Tryz.prog 63 #[.int .i64 n] w fun e w' => e = .returned (.bool (cntI n)) ∧ w' = w := by
  by_cases h1 : 1 ≤ n
  · have d1 : decide (1 ≤ n) = true := decide_eq_true h1
    have e : cntI n = decide (n ≤ 1099511627775) := by unfold cntI; rw [d1, Bool.true_and]
    rw [e]
    clear e
    go_enter Tryz.func63, Tryz.ntmps63
    go_wp2
    go_ret
    exact ⟨rfl, rfl⟩
  · have d1 : decide (1 ≤ n) = false := decide_eq_false h1
    have e : cntI n = false := by unfold cntI; rw [d1, Bool.false_and]
    rw [e]
    clear e
    go_enter Tryz.func63, Tryz.ntmps63
    go_wp2
    go_ret
    exact ⟨rfl, rfl⟩
set_option maxRecDepth 100000 in
set_option maxHeartbeats 1000000 in
theorem isID_any (a b c : Int) (w : World) : Calls Tryz.prog 35 #[idV a b c] w fun e w' => e = .returned (.bool (idB a b c)) ∧ Below w.heap.size w w' := by
  have HB : Hid (Below w.heap.size w (w.alloc (.cells #[.int .i64 a, .int .i64 b, .int .i64 c] 33))) := al_b w _
  have HC : Hid (∀ n W, Calls Tryz.prog 63 #[.int .i64 n] W fun e w' => e = .returned (.bool (cntI n)) ∧ w' = W) := fun n W => countsI_any n W
  by_cases h1 : 1 ≤ a
  · have d1 : decide (1 ≤ a) = true := decide_eq_true h1
    by_cases h2 : a ≤ 15
    · have d2 : decide (a ≤ 15) = true := decide_eq_true h2
      have e0 : idB a b c = (cntI b && cntI c) := by unfold idB; rw [d1, d2, Bool.true_and, Bool.true_and]
      rw [e0]
      cases hb : cntI b
      · rw [Bool.false_and]
        have HCb := HC.out b
        rw [hb] at HCb
        clear e0 hb h1 h2
        go_enter Tryz.func35, Tryz.ntmps35
        go_wp2_with fail
        refine (HCb _).mono ?_
        rintro e w1 ⟨rfl, h1⟩
        obtain rfl := h1.symm
        go_wp2
        go_ret
        exact ⟨rfl, HB.out⟩
      · rw [Bool.true_and]
        have HCb := HC.out b
        rw [hb] at HCb
        have HCc := HC.out c
        generalize cntI c = cc at *
        clear e0 hb h1 h2 HC
        go_enter Tryz.func35, Tryz.ntmps35
        go_wp2_with fail
        refine (HCb _).mono ?_
        rintro e w1 ⟨rfl, h1⟩
        obtain rfl := h1.symm
        go_wp2_with fail
        refine (HCc _).mono ?_
        rintro e w2 ⟨rfl, h2⟩
        obtain rfl := h2.symm
        go_wp2
        go_ret
        exact ⟨rfl, HB.out⟩
    · have d2 : decide (a ≤ 15) = false := decide_eq_false h2
      have e0 : idB a b c = false := by unfold idB; rw [d1, d2, Bool.true_and, Bool.false_and]
      rw [e0]
      clear e0 HC h1 h2
      go_enter Tryz.func35, Tryz.ntmps35
      go_wp2
      go_ret
      exact ⟨rfl, HB.out⟩
  · have d1 : decide (1 ≤ a) = false := decide_eq_false h1
    have e0 : idB a b c = false := by unfold idB; rw [d1, Bool.false_and]
    rw [e0]
    clear e0 HC h1
    go_enter Tryz.func35, Tryz.ntmps35
    go_wp2
    go_ret
    exact ⟨rfl, HB.out⟩
/-- How far up the names are names, none the same as one below it: the names, folded. -/
def clm : List (List UInt8) → List ByteArray → List (List UInt8)
  | b, [] => b
  | b, s :: r => if checkL s.data.toList = 0 ∧ ¬ foldL s.data.toList ∈ b then clm (b ++ [foldL s.data.toList]) r else b
def fVs (b : List (List UInt8)) : List Value := b.map fun x => .string (str x)
theorem info_st : (Tryz.prog.info? 9).map (fun i => (i.zero, i.size, i.bytes)) = some (some (.string ⟨#[]⟩), 1, 16) := by kernel_rfl
theorem fV_at {w : World} {v : Value} {b : List (List UInt8)} (h : IsRow w 1 v b.length (fVs b)) (h0 : 0 < b.length) :
    ∃ g off cap, v = .slice (some ⟨g, off, none⟩) b.length cap ∧ g < w.heap.size ∧ ∀ (k : Nat) (hk : k < b.length), w.cell? ⟨g, off + k, none⟩ = some (.string (str b[k])) := by
  obtain ⟨g, off, cap, hv, hlt, q1, q2, hc⟩ := h.open (by omega)
  exact ⟨g, off, cap, hv, hlt, fun k hk => hc k _ (by simp [fVs, hk])⟩
theorem strEq (A B : List UInt8) : ((str A).toList == (str B).toList) = decide (A = B) := by
  rw [ByteArray.toList_eq, ByteArray.toList_eq, str_data, str_data, Bool.eq_iff_iff]
  simp
set_option maxRecDepth 100000 in
set_option maxHeartbeats 2000000 in
theorem climb_any (v : Value) (ch : List ByteArray) (w : World) (hr : IsRow w 1 v ch.length (sVals ch)) (hl : ch.length ≤ 100) (hn : ∀ s ∈ ch, s.size ≤ 1000000) (hU : UT w) :
    Calls Tryz.prog 64 #[v] w fun e w' => e = .returned (.int .i64 ((clm [] ch).length : Int)) ∧ Below w.heap.size w w' := by
  obtain ⟨a0, cap0, rfl⟩ := hr.form
  obtain ⟨i0, hi0, hz0, hz1, hz2⟩ := info_parts info_st
  have HR : Hid (∀ W, Below w.heap.size w W → IsRow W 1 (.slice a0 ch.length cap0) ch.length (sVals ch)) := fun W h => hr.below h
  have HC : Hid (∀ (k : Nat) (hk : k < ch.length) W, Calls Tryz.prog 33 #[.string ch[k]] W fun e w' => e = .returned (.int .i64 (checkL ch[k].data.toList)) ∧ Below W.heap.size W w') := fun k hk W => check_any _ W (Nat.le_trans (hn _ (List.getElem_mem hk)) (by decide))
  have HF : Hid (∀ (k : Nat) (hk : k < ch.length) W, Below w.heap.size w W → Calls Tryz.prog 56 #[.string ch[k]] W fun e w' => e = .returned (.string (str (foldL ch[k].data.toList))) ∧ Below W.heap.size W w') := fun k hk W hW => fold_any _ W (hn _ (List.getElem_mem hk)) (Utf8Tabs_below hU hW)
  clear hr hn hU
  go_enter Tryz.func64, Tryz.ntmps64
  go_wp2_with fail
  go_step3
  go_wp2_with fail
  go_step3
  go_wp2_with fail
  go_loopw [3, 11] (fun o i wr => ∃ (k : Nat) (B : List (List UInt8)) (va : Option Addr) (vc : Nat), k ≤ ch.length ∧ i = .int .i64 (k : Int) ∧ o = .slice va B.length vc ∧ B.length ≤ k ∧ Hid (clm [] ch = clm B (ch.drop k)) ∧ Hid (wr.ownsRow w.heap.size 9 1 (.slice va B.length vc) B.length (fVs B)) ∧ Hid (Below w.heap.size w wr)) (fun _ i _ => ch.length - (intOf i).toNat)
  case atStart => exact ⟨0, [], none, 0, Nat.zero_le _, rfl, rfl, Nat.le_refl _, rfl, World.ownsRow_nil _ _ _ _, Below.refl _ _⟩
  case round =>
    obtain ⟨k, B, va, vc, hk, rfl, rfl, hBk, HQ, HO, HB⟩ := hrel
    have hsz := HB.out.size
    by_cases hlk : k < ch.length
    · have dk : decide ((k : Int) < ch.length) = true := by simp; omega
      obtain ⟨b, off, rfl, -, hlt, hcap, hcc⟩ := s_at (HR.out _ HB.out) (by omega)
      have c0 := hcc k hlk
      have HCk := HC.out k hlk wr
      have HFk := HF.out k hlk
      have HFk' : Hid (∀ W, Below w.heap.size w W → Calls Tryz.prog 56 #[.string ch[k]] W fun e w' => e = .returned (.string (str (foldL ch[k].data.toList))) ∧ Below W.heap.size W w') := HFk
      have HStop : Hid (¬ (checkL ch[k].data.toList = 0 ∧ ¬ foldL ch[k].data.toList ∈ B) → clm [] ch = B) := fun hh => by
        rw [HQ.out, List.drop_eq_getElem_cons hlk, clm, if_neg hh]
      have HGo : Hid (checkL ch[k].data.toList = 0 → ¬ foldL ch[k].data.toList ∈ B → clm [] ch = clm (B ++ [foldL ch[k].data.toList]) (ch.drop (k + 1))) := fun h1 h2 => by
        rw [HQ.out, List.drop_eq_getElem_cons hlk, clm, if_pos ⟨h1, h2⟩]
      generalize ch[k]'hlk = s at *
      generalize checkL s.data.toList = C at *
      generalize foldL s.data.toList = F at *
      clear hcc HR HC HF HQ HFk
      by_cases h0 : C = 0
      · subst h0
        go_wp2_with fail
        refine HCk.mono ?_
        rintro e w1 ⟨rfl, hb1⟩
        have HB1 : Hid (Below w.heap.size w w1) := HB.out.trans (hb1.mono hsz)
        have HO1 : Hid (w1.ownsRow w.heap.size 9 1 (.slice va B.length vc) B.length (fVs B)) := own_belowE HO.out hb1
        clear hb1 HCk HO c0
        go_wp2_with fail
        refine (HFk'.out w1 HB1.out).mono ?_
        rintro e w2 ⟨rfl, hb2⟩
        have HB2 : Hid (Below w.heap.size w w2) := HB1.out.trans (hb2.mono HB1.out.size)
        have HO2 : Hid (w2.ownsRow w.heap.size 9 1 (.slice va B.length vc) B.length (fVs B)) := own_belowE HO1.out hb2
        have hs2 := HB2.out.size
        clear hb2 HFk' HO1
        go_wp2_with fail
        go_loopw [22] (fun i wr => ∃ j : Nat, j ≤ B.length ∧ i = .int .i64 (j : Int) ∧ Hid (∀ (t : Nat) (h : t < B.length), t < j → B[t] ≠ F) ∧ w2 = wr) (fun i _ => B.length - (intOf i).toNat)
        case atStart => exact ⟨0, Nat.zero_le _, rfl, (fun t h ht => absurd ht (Nat.not_lt_zero _)), rfl⟩
        case round =>
          obtain ⟨j, hj, rfl, HN, rfl⟩ := hrel
          by_cases hjk : j < B.length
          · have dj : decide (j < B.length) = true := by simp; omega
            have dj' : decide ((j : Int) < (B.length : Int)) = true := by simp; omega
            obtain ⟨g, goff, gcap, hgv, hglt, hgc⟩ := fV_at (IsRow.own HO2.out) (by omega)
            obtain ⟨rfl, -, rfl⟩ := Value.slice.inj hgv
            have d0 := hgc j hjk
            have q1 : (0 : Int) ≤ (j : Int) := by omega
            have q2 : (j : Int) < (B.length : Int) := by omega
            have eS := strEq B[j] F
            by_cases he : B[j] = F
            · rw [decide_eq_true he] at eS
              have HSt : Hid (clm [] ch = B) := HStop.out (fun hh => hh.2 (he ▸ List.getElem_mem hjk))
              clear he hgc hgv HN HStop HGo
              go_wp2
              try rw [Exit.noGoto_ret]
              go_ret
              exact ⟨by rw [HSt.out]; rfl, HB2.out⟩
            · rw [decide_eq_false he] at eS
              have HN2 : Hid (∀ (t : Nat) (h : t < B.length), t < j + 1 → B[t] ≠ F) := fun t h ht => by
                by_cases e : t = j
                · subst e; exact he
                · exact HN.out t h (by omega)
              clear he hgc hgv HN HStop HGo
              go_wp2
              go_roundw
              case rel => exact ⟨j + 1, by omega, by simp, HN2, trivial⟩
              case measure => simp [intOf]; omega
          · have dj : decide (j < B.length) = false := by simp; omega
            have dj' : decide ((j : Int) < (B.length : Int)) = false := by simp; omega
            have hnm : ¬ F ∈ B := fun hm => by
              obtain ⟨t, ht, e⟩ := List.mem_iff_getElem.1 hm
              exact HN.out t ht (by omega) e
            have HG : Hid (clm [] ch = clm (B ++ [F]) (ch.drop (k + 1))) := HGo.out (by trivial) hnm
            clear hnm HN HStop HGo
            go_wp2_with (at_builtin; go_loud (refine wpl_appE w2 rfl (.tmp 30) (.tmp 32) 31 9 rfl i0 _ 1 16 Tryz.underlying31 hi0 hz0 hz1 hz2 rfl (by decide) w.heap.size (.slice va B.length vc) B.length (fVs B) rfl HO2.out [.string (str F)] rfl _ rfl rfl (by simp [Value.oneCell']) (by omega) (by unfold maxLen; omega) (by omega) ?_; intro v4 w4 ho4 hb4; obtain ⟨va4, vc4, rfl⟩ := (IsRow.own ho4).form))
            have HB4 : Hid (Below w.heap.size w w4) := HB2.out.trans hb4
            have HO4 : Hid (w4.ownsRow w.heap.size 9 1 (.slice va4 (B ++ [F]).length vc4) (B ++ [F]).length (fVs (B ++ [F]))) := by
              show World.ownsRow _ _ _ _ _ _ _
              have e : fVs (B ++ [F]) = fVs B ++ [.string (str F)] := by simp [fVs]
              rw [e, List.length_append, List.length_singleton]
              exact ho4
            clear ho4 hb4 HO2
            go_wp2
            go_roundw
            case rel => exact ⟨k + 1, B ++ [F], va4, vc4, by omega, by simp, by simp, by simp; omega, HG, HO4, HB4⟩
            case measure => simp [intOf]; omega
      · have nb : (C != 0) = true := by simpa using h0
        have HSt : Hid (clm [] ch = B) := HStop.out (fun hh => h0 hh.1)
        clear h0 HStop HGo HFk'
        go_wp2_with fail
        refine HCk.mono ?_
        rintro e w1 ⟨rfl, hb1⟩
        have HB1 : Hid (Below w.heap.size w w1) := HB.out.trans (hb1.mono hsz)
        clear hb1 HCk HO c0
        go_wp2
        try rw [Exit.noGoto_ret]
        go_ret
        exact ⟨by rw [HSt.out]; rfl, HB1.out⟩
    · have dk : decide ((k : Int) < ch.length) = false := by simp; omega
      have HSt : Hid (clm [] ch = B) := by
        show _ = _
        rw [HQ.out, List.drop_eq_nil_of_le (by omega)]
        rfl
      clear HQ HR HC HF
      go_wp2
      try rw [Exit.noGoto_ret]
      go_ret
      exact ⟨by rw [HSt.out]; rfl, HB.out⟩
end Go.Proofs.YtlndgepoekllkaaGreatDoor
/- slices.Equal at fields: its walk (EO over again). -/
namespace Go.Proofs.YtlndgepoekllkaaGreatDoor
open Go.RowKit

set_option maxRecDepth 100000 in
set_option maxHeartbeats 2000000 in
theorem equalF_any (v u : Value) (a l : List Fd) (w : World) (hq : IsRow w 3 v a.length (fCells a)) (hr : IsRow w 3 u l.length (fCells l)) (hal : a.length ≤ 1000000) (hl : l.length ≤ 1000000) :
    Calls Tryz.prog 65 #[v, u] w fun e w' => e = .returned (.bool (sameR a l)) ∧ Below w.heap.size w w' := by
  obtain ⟨a0, cap0, rfl⟩ := hq.form
  obtain ⟨a1, cap1, rfl⟩ := hr.form
  have HQ : Hid (∀ w', Below w.heap.size w w' → IsRow w' 3 (.slice a0 a.length cap0) a.length (fCells a)) := fun w' h => hq.below h
  have HR : Hid (∀ w', Below w.heap.size w w' → IsRow w' 3 (.slice a1 l.length cap1) l.length (fCells l)) := fun w' h => hr.below h
  clear hq hr
  by_cases hln : a.length = l.length
  rotate_left
  · have e0 : sameR a l = false := by unfold sameR; rw [decide_eq_false hln, Bool.false_and]
    have dn : ((a.length : Int) != (l.length : Int)) = true := by rw [bne_iff_ne]; omega
    rw [e0]
    go_enter Tryz.func65, Tryz.ntmps65
    go_wp2
    go_ret
    exact ⟨rfl, Below.refl _ _⟩
  have dn : ((a.length : Int) != (l.length : Int)) = false := by rw [hln]; simp
  have HL : Hid (a.length = l.length) := hln
  clear hln
  go_enter Tryz.func65, Tryz.ntmps65
  go_wp2_with fail
  go_loopw [4, 13] (fun r i wr => r = .bool false ∧ ∃ k : Nat, k ≤ a.length ∧ i = .int .i64 (k : Int) ∧ Hid (∀ (j : Nat) (h : j < a.length) (h2 : j < l.length), j < k → eqF a[j] l[j] = true) ∧ Below w.heap.size w wr) (fun _ i _ => a.length - (intOf i).toNat)
  case atStart => exact ⟨rfl, 0, Nat.zero_le _, rfl, fun j h h2 hj => absurd hj (Nat.not_lt_zero _), Below.refl _ _⟩
  case round =>
    obtain ⟨rfl, k, hk, rfl, HO, hB⟩ := hrel
    by_cases hlk : k < a.length
    · have hlk2 : k < l.length := by have := HL.out; omega
      have dk : decide ((k : Int) < a.length) = true := by simp; omega
      obtain ⟨b, off, rfl, hlt, hcap, hc⟩ := f_at (HQ.out wr hB) (by omega)
      obtain ⟨b', off', rfl, hlt', hcap', hc'⟩ := f_at (HR.out wr hB) (by omega)
      obtain ⟨ck0, ck1, ck2⟩ := hc k hlk
      obtain ⟨dk0, dk1, dk2⟩ := hc' k hlk2
      have HO2 : Hid (eqF a[k] l[k] = true → ∀ (j : Nat) (h : j < a.length) (h2 : j < l.length), j < k + 1 → eqF a[j] l[j] = true) := fun hs j h h2 hj => by
        by_cases e : j = k
        · subst e; exact hs
        · exact HO.out j h h2 (by omega)
      have HN : Hid (eqF a[k] l[k] = false → sameR a l = false) := sameR_no hlk hlk2
      generalize a[k]'hlk = x at *
      generalize l[k]'hlk2 = y at *
      obtain ⟨n, kk, m⟩ := x
      obtain ⟨n', kk', m'⟩ := y
      have q1 : (0 : Int) ≤ (k : Int) := by omega
      have q2 : (k : Int) < (a.length : Int) := by omega
      have q3 : (k : Int) < (l.length : Int) := by omega
      clear hc hc' HO
      have HBd : Hid (∀ q, Below w.heap.size w (wr.drewN q)) := fun q => ⟨hB.os, hB.tape, hB.output, hB.size, hB.block⟩
      clear hB
      cases hq : eqF ⟨n, kk, m⟩ ⟨n', kk', m'⟩ with
      | true =>
        have HO3 := HO2.out hq
        have he := (eqF_iff _ _).1 hq
        simp only [Fd.mk.injEq] at he
        obtain ⟨rfl, rfl, rfl⟩ := he
        clear hq HN HO2
        go_wp2_with fail
        refine wp_region_quiet (C := fun w' => ∃ q, w' = wr.drewN q) (by kernel_rfl) (by kernel_rfl) ⟨1, rfl⟩ ?_
        dsimp only
        repeat (first
          | (go_big_quiet_want
             apply Exists.intro
             refine ⟨fun W' hW' => ?_, ?_⟩
             · obtain ⟨q, rfl⟩ := hW'
               go_simp
               first
                 | done
                 | exact ⟨rfl, q, rfl⟩
                 | exact ⟨rfl, rfl⟩
                 | rfl
             go_big_quiet_on
             try simp only [Act.put, List.setIfInBounds_toArray, List.set_cons_zero, List.set_cons_succ]))
        refine wpQuiet_nil ?_
        rintro w2 ⟨q, rfl⟩
        go_wp2
        go_roundw
        case rel => exact ⟨rfl, k + 1, by omega, by simp, HO3, HBd.out q⟩
        case measure => simp [intOf]; omega
      | false =>
        have HN2 : Hid (sameR a l = false) := HN.out hq
        have hne : ¬ (n.toList = n'.toList ∧ kk = kk' ∧ m = m') := fun h => by
          obtain ⟨h1, rfl, rfl⟩ := h
          rw [ByteArray.toList_eq, ByteArray.toList_eq] at h1
          obtain rfl : n = n' := ba_eq h1
          rw [(eqF_iff _ _).2 rfl] at hq
          cases hq
        have HE : Hid (∀ q : Nat, ((if n.toList = n'.toList then if kk = kk' then if m = m' then Result.ok (Next.value (Value.bool false)) (wr.drewN q) else Result.ok (Next.value (Value.bool true)) (wr.drewN q) else Result.ok (Next.value (Value.bool true)) (wr.drewN q) else Result.ok (Next.value (Value.bool true)) (wr.drewN q))) = (Result.ok (Next.value (Value.bool true)) (wr.drewN q) : Result Next)) := fun q => by
          by_cases h1 : n.toList = n'.toList
          · by_cases h2 : kk = kk'
            · by_cases h3 : m = m'
              · exact absurd ⟨h1, h2, h3⟩ hne
              · simp [h1, h2, h3]
            · simp [h1, h2]
          · simp [h1]
        clear hq HN HO2 hne
        go_wp2_with fail
        refine wp_region_quiet (C := fun w' => ∃ q, w' = wr.drewN q) (by kernel_rfl) (by kernel_rfl) ⟨1, rfl⟩ ?_
        dsimp only
        repeat (first
          | (go_big_quiet_want
             apply Exists.intro
             refine ⟨fun W' hW' => ?_, ?_⟩
             · obtain ⟨q, rfl⟩ := hW'
               go_simp
               first
                 | done
                 | exact ⟨rfl, q, rfl⟩
                 | exact ⟨rfl, rfl⟩
                 | rfl
             go_big_quiet_on
             try simp only [Act.put, List.setIfInBounds_toArray, List.set_cons_zero, List.set_cons_succ]))
        go_big_quiet_want
        refine ⟨.bool true, fun W' hW' => ?_, ?_⟩
        · obtain ⟨q, rfl⟩ := hW'
          have := HE.out q
          go_simp
        go_big_quiet_on
        try simp only [Act.put, List.setIfInBounds_toArray, List.set_cons_zero, List.set_cons_succ]
        refine wpQuiet_nil ?_
        rintro w2 ⟨q, rfl⟩
        go_wp2
        go_ret
        exact ⟨by rw [HN2.out]; rfl, HBd.out q⟩
    · have hk' : k = a.length := by omega
      subst hk'
      have dk : decide ((a.length : Int) < a.length) = false := by simp
      have HY : Hid (sameR a l = true) := by show _ = _; unfold sameR; rw [decide_eq_true HL.out, decide_eq_true (fun j h h2 => HO.out j h h2 h)]; rfl
      clear HO
      have HBB : Hid (Below w.heap.size w wr) := hB
      clear hB
      go_wp2
      go_ret
      exact ⟨by rw [HY.out]; rfl, HBB.out⟩
end Go.Proofs.YtlndgepoekllkaaGreatDoor
