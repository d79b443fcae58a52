/- The reference's Read of a view: its walk. -/
import Derived.Test.YtciibeldmcakeaaDoorVxD
import Derived.Test.YtciibeldmcakeaaDoorVwL
import Derived.Deep.DeepCutAuto
import Derived.Deep.CutBlock
import Derived.Deep.RegionHeldLaw
namespace Go.Proofs.YtciibeldmcakeaaDoor
open Go.RowKit

/-- The reference's reading: up to sixteen members, and written again. -/
noncomputable def rrO (s : ByteArray) : Option (Int × List Mb) :=
  if hdE s = 0 then (rdL (min (hdC s).toNat 16) (hdR s)).bind fun r => if ¬ s.size = 0 ∧ txV (hdN s) r.1 = s then some (hdN s, r.1) else none else none
abbrev SvT (T b3 o3 c3 : Nat) (N1 N2 N3 : Int) (w' : World) : Prop :=
  w'.cell? ⟨T, 0, none⟩ = some (.slice (some ⟨b3, o3, none⟩) 3 c3) ∧ w'.cell? ⟨b3, o3 + 1, none⟩ = some (.int .i64 N1) ∧ w'.cell? ⟨b3, o3 + 3 + 1, none⟩ = some (.int .i64 N2) ∧ w'.cell? ⟨b3, o3 + 6 + 1, none⟩ = some (.int .i64 N3)
theorem SvT.keep {T b3 o3 c3 : Nat} {N1 N2 N3 : Int} {w w' : World} (h : SvT T b3 o3 c3 N1 N2 N3 w) (h1 : w'.heap[T]? = w.heap[T]?) (h2 : w'.heap[b3]? = w.heap[b3]?) : SvT T b3 o3 c3 N1 N2 N3 w' :=
  ⟨(World.cell?_of_block (a := ⟨T, 0, none⟩) h1).trans h.1, (World.cell?_of_block (a := ⟨b3, o3 + 1, none⟩) h2).trans h.2.1, (World.cell?_of_block (a := ⟨b3, o3 + 3 + 1, none⟩) h2).trans h.2.2.1, (World.cell?_of_block (a := ⟨b3, o3 + 6 + 1, none⟩) h2).trans h.2.2.2⟩
theorem three_R {w : World} {b : Nat} {x y z : Value} {t : TypeId} (h : w.heap[b]? = some (.cells #[x, y, z] t (0, 0))) : w.cell? ⟨b, 0, none⟩ = some x ∧ w.cell? ⟨b, 1, none⟩ = some y ∧ w.cell? ⟨b, 2, none⟩ = some z := (three_M h).1
set_option maxRecDepth 100000 in
set_option maxHeartbeats 4000000 in
theorem refRead_any (s : ByteArray) (w : World) (hs : s.size ≤ 140737488355328) :
    Calls Tryd.prog 7 #[.string s] w fun e w' => RdPost (rrO s) w e w' := by
  obtain ⟨i0, hi0, hz0, hz1, hz2⟩ := info_parts info_rm
  have HTk : Hid (Calls Tryd.prog 20 #[.string s, .slice (some ⟨w.heap.size + 1, 0, none⟩) 2 2] ((w.alloc (.cells #[.int .i64 0, .slice none 0 0] 32)).alloc (.cells #[.int .i64 1, .int .i64 1] 3)) fun e w' => Q.RTPost (Q.takeR s [1, 1]) ((w.alloc (.cells #[.int .i64 0, .slice none 0 0] 32)).alloc (.cells #[.int .i64 1, .int .i64 1] 3)) e w') :=
    Q.refTake_any s _ [1, 1] _ hs (kinds_row (C := Q.intCells [1, 1]) (al2V w _ _) rfl (by decide)) (by decide)
  have HB0 : Hid (Below w.heap.size w ((w.alloc (.cells #[.int .i64 0, .slice none 0 0] 32)).alloc (.cells #[.int .i64 1, .int .i64 1] 3))) := (al_belowV w _).trans ((al_belowV _ _).mono (by simp))
  have HX : Hid (∀ w', Below ((w.alloc (.cells #[.int .i64 0, .slice none 0 0] 32)).alloc (.cells #[.int .i64 1, .int .i64 1] 3)).heap.size ((w.alloc (.cells #[.int .i64 0, .slice none 0 0] 32)).alloc (.cells #[.int .i64 1, .int .i64 1] 3)) w' → w'.heap[w.heap.size]? = some (.cells #[.int .i64 0, .slice none 0 0] 32 (0, 0))) := fun w' h => (h.block _ (by simp; omega)).trans ((alloc_old _ _ (by simp)).trans (alloc_top w _))
  by_cases h0 : hdE s = 0
  · rw [take2_ok s h0] at HTk
    have hC0 := hdC_nn s
    have HO : Hid (rrO s = (rdL (min (hdC s).toNat 16) (hdR s)).bind fun r => if ¬ s.size = 0 ∧ txV (hdN s) r.1 = s then some (hdN s, r.1) else none) := if_pos h0
    have hRs := hdR_size s
    obtain ⟨n, hn⟩ : ∃ n : Nat, hdC s = (n : Int) := ⟨(hdC s).toNat, by omega⟩
    rw [hn] at HTk HO
    simp only [Int.toNat_natCast] at HO
    clear hn hC0 h0
    generalize hdN s = N at *
    generalize hdR s = R at *
    go_enter Tryd.func7, Tryd.ntmps7
    go_wp2_with fail
    refine HTk.out.mono ?_
    rintro e w1 ⟨v1, rfl, hr1, hb1⟩
    have HH : Hid (w1.heap[w.heap.size]? = some (.cells #[.int .i64 0, .slice none 0 0] 32 (0, 0))) := HX.out w1 hb1
    have HB1 : Hid (Below w.heap.size w w1) := HB0.out.trans (hb1.mono HB0.out.size)
    rcases hr1.2 with ⟨h, -⟩ | ⟨b, off, cap, rfl, hlt, hc1, hc2, hc⟩
    · cases h
    have c0 : w1.cell? ⟨b, off + 1, none⟩ = some (.int .i64 N) := hc 1 _ rfl
    have c1 : w1.cell? ⟨b, off + 3 + 1, none⟩ = some (.int .i64 (n : Int)) := hc 4 _ rfl
    have hs0 := (heap_at HH.out).2.2
    have c0' : (w1.alloc (.cells #[.slice (some ⟨b, off, none⟩) 2 cap, .string R, .int .i64 0] 56)).cell? ⟨b, off + 1, none⟩ = some (.int .i64 N) := ((al_belowV w1 _).cell (p := ⟨b, off + 1, none⟩) hlt).trans c0
    have HAs : Hid (((w1.alloc (.cells #[.slice (some ⟨b, off, none⟩) 2 cap, .string R, .int .i64 0] 56)).alloc (.cells #[.int .i64 N, .slice none 0 0] 32)).heap[w.heap.size]? = some (.cells #[.int .i64 0, .slice none 0 0] 32 (0, 0)) ∧ ((w1.alloc (.cells #[.slice (some ⟨b, off, none⟩) 2 cap, .string R, .int .i64 0] 56)).alloc (.cells #[.int .i64 N, .slice none 0 0] 32)).heap[w1.heap.size]? = some (.cells #[.slice (some ⟨b, off, none⟩) 2 cap, .string R, .int .i64 0] 56 (0, 0)) ∧ ((w1.alloc (.cells #[.slice (some ⟨b, off, none⟩) 2 cap, .string R, .int .i64 0] 56)).alloc (.cells #[.int .i64 N, .slice none 0 0] 32)).heap[w1.heap.size + 1]? = some (.cells #[.int .i64 N, .slice none 0 0] 32 (0, 0)) ∧ Below w.heap.size w ((w1.alloc (.cells #[.slice (some ⟨b, off, none⟩) 2 cap, .string R, .int .i64 0] 56)).alloc (.cells #[.int .i64 N, .slice none 0 0] 32)) ∧ ((w1.alloc (.cells #[.slice (some ⟨b, off, none⟩) 2 cap, .string R, .int .i64 0] 56)).alloc (.cells #[.int .i64 N, .slice none 0 0] 32)).cell? ⟨b, off + 3 + 1, none⟩ = some (.int .i64 (n : Int))) := by
      have hA : Below w1.heap.size w1 ((w1.alloc (.cells #[.slice (some ⟨b, off, none⟩) 2 cap, .string R, .int .i64 0] 56)).alloc (.cells #[.int .i64 N, .slice none 0 0] 32)) := (al_belowV w1 _).trans ((al_belowV _ _).mono (by simp))
      refine ⟨(hA.block _ hs0).trans HH.out, (alloc_old _ _ (by simp)).trans (alloc_top w1 _), al2V w1 _ _, HB1.out.trans (hA.mono HB1.out.size), (hA.cell (p := ⟨b, off + 3 + 1, none⟩) hlt).trans c1⟩
    have hs1 := HB1.out.size
    clear hc hr1 hb1 HTk HX HB0 HH HB1 c1
    go_upto_block 0 with fail
    generalize hH : w1.heap.size = H at *
    go_cut [6, 7, 8] (fun r i p wx => r = r ∧ i = i ∧ p = p ∧ ∃ (acc : List Mb) (va : Option Addr) (vc : Nat), Hid (rrO s = if ¬ s.size = 0 ∧ txV N acc = s then some (N, acc) else none) ∧ Hid (acc.length ≤ 16) ∧ Hid (wx.ownsRow (H + 2) 59 3 (.slice va acc.length vc) acc.length (mCells acc)) ∧ Hid (wx.heap[w.heap.size]? = some (.cells #[.int .i64 0, .slice none 0 0] 32 (0, 0))) ∧ Hid (wx.heap[H + 1]? = some (.cells #[.int .i64 N, .slice va acc.length vc] 32 (0, 0))) ∧ Hid (Below w.heap.size w wx))
    case first =>
      go_wp2_with fail
      go_loopw [6, 7, 8] (fun r i p wr => p = p ∧ ∃ (k : Nat) (acc : List Mb) (s' : ByteArray) (va : Option Addr) (vc : Nat), (k ≤ n ∧ k ≤ 16) ∧ r = .string s' ∧ i = .int .i64 (k : Int) ∧ acc.length = k ∧ s'.size ≤ 140737488355328 ∧ Hid (rdL (min n 16) R = (rdL (min n 16 - k) s').map fun r => (acc ++ r.1, r.2)) ∧ Hid (wr.ownsRow (H + 2) 59 3 (.slice va k vc) k (mCells acc)) ∧ Hid (wr.heap[w.heap.size]? = some (.cells #[.int .i64 0, .slice none 0 0] 32 (0, 0))) ∧ Hid (wr.heap[H]? = some (.cells #[.slice (some ⟨b, off, none⟩) 2 cap, .string R, .int .i64 0] 56 (0, 0))) ∧ Hid (wr.heap[H + 1]? = some (.cells #[.int .i64 N, .slice va k vc] 32 (0, 0))) ∧ Hid (Below w.heap.size w wr) ∧ Hid (wr.cell? ⟨b, off + 3 + 1, none⟩ = some (.int .i64 (n : Int)))) (fun _ i _ _ => n - (intOf i).toNat)
      case atStart => exact ⟨rfl, 0, [], R, none, 0, ⟨Nat.zero_le _, Nat.zero_le _⟩, rfl, rfl, rfl, by omega, by show _ = _; cases rdL (min n 16) R <;> simp, World.ownsRow_nil _ _ _ _, HAs.out.1, HAs.out.2.1, HAs.out.2.2.1, HAs.out.2.2.2.1, HAs.out.2.2.2.2⟩
      case round =>
        clear HAs c0 c0'
        obtain ⟨-, k, acc, s', va, vc, hk, rfl, rfl, hak, hs', HQ, HW, HH0, HHh, HH1, HB, HCn⟩ := hrel
        have hsz := HB.out.size
        have hx1 := (heap_at HH1.out).2.2
        have cn := HCn.out
        obtain ⟨t0, t1, t2⟩ := three_R HHh.out
        by_cases hlk : k < n ∧ k < 16
        · have dk : decide ((k : Int) < (n : Int)) = true := by simp; omega
          have dk2 : decide ((k : Int) < 16) = true := by simp; omega
          have wk : IntKind.i64.wrap ((k : Int) + 1) = (k : Int) + 1 := wrapI (by omega) (by omega)
          have hkm : k < min n 16 := by omega
          have HTr : Hid (Calls Tryd.prog 20 #[.string s', .slice (some ⟨wr.heap.size, 0, none⟩) 3 3] (wr.alloc (.cells #[.int .i64 1, .int .i64 1, .int .i64 3] 3)) fun e w' => Q.RTPostN (Q.takeR s' [1, 1, 3]) (wr.alloc (.cells #[.int .i64 1, .int .i64 1, .int .i64 3] 3)) e w') :=
            Q.refTake_new s' _ [1, 1, 3] _ hs' (kinds_row (C := Q.intCells [1, 1, 3]) (alloc_top wr _) rfl (by decide)) (by decide)
          have HA : Hid (∀ w2 : World, Below (wr.alloc (.cells #[.int .i64 1, .int .i64 1, .int .i64 3] 3)).heap.size (wr.alloc (.cells #[.int .i64 1, .int .i64 1, .int .i64 3] 3)) w2 → Below wr.heap.size wr w2) := fun w2 h => by
            have hA := al_belowV wr (.cells #[.int .i64 1, .int .i64 1, .int .i64 3] 3)
            exact hA.trans (h.mono hA.size)
          have hmr := mbR_size s'
          by_cases hm : mbE s' = 0
          · rw [take3_ok s' hm] at HTr
            have HQ2 : Hid (rdL (min n 16) R = (rdL (min n 16 - (k + 1)) (mbR s')).map fun r => ((acc ++ [mbM s']) ++ r.1, r.2)) := rdL_more hkm HQ.out hm
            have hM : mbM s' = ⟨Q.tN s' 1, Q.tN (Q.tR s' 1) 1, Q.tN (Q.tR (Q.tR s' 1) 1) 3 == 1⟩ := if_pos hm
            have hR : mbR s' = Q.tR (Q.tR (Q.tR s' 1) 1) 3 := if_pos hm
            rw [hM] at HQ2
            rw [← hR] at HTr
            have hal : ∀ m : Mb, (acc ++ [m]).length = k + 1 := fun m => by simp [hak]
            clear hM hR HQ hm
            generalize mbR s' = R' at *
            generalize Q.tN (Q.tR (Q.tR s' 1) 1) 3 = N3 at *
            generalize Q.tN (Q.tR s' 1) 1 = N2 at *
            generalize Q.tN s' 1 = N1 at *
            generalize Q.tS (Q.tR (Q.tR s' 1) 1) 3 = S3 at *
            generalize Q.tS (Q.tR s' 1) 1 = S2 at *
            generalize Q.tS s' 1 = S1 at *
            go_upto_region 9 with fail
            go_cut [8] (fun p wx => ∃ T b3 o3 c3, p = .pointer (some ⟨T, 0, none⟩) ∧ Hid (wx.ownsRow (H + 2) 59 3 (.slice va k vc) k (mCells acc)) ∧ Hid (wx.heap[w.heap.size]? = some (.cells #[.int .i64 0, .slice none 0 0] 32 (0, 0))) ∧ Hid (wx.heap[H]? = some (.cells #[.slice (some ⟨b, off, none⟩) 2 cap, .string R, .int .i64 0] 56 (0, 0))) ∧ Hid (wx.heap[H + 1]? = some (.cells #[.int .i64 N, .slice va k vc] 32 (0, 0))) ∧ Hid (Below w.heap.size w wx) ∧ Hid (wx.cell? ⟨b, off + 3 + 1, none⟩ = some (.int .i64 (n : Int))) ∧ Hid (wx.heap[T]? = some (.cells #[.slice (some ⟨b3, o3, none⟩) 3 c3, .string R', .int .i64 0] 56 (0, 0))) ∧ Hid (wr.heap.size ≤ T ∧ wr.heap.size ≤ b3 ∧ b3 < wx.heap.size) ∧ Hid (wx.cell? ⟨b3, o3 + 1, none⟩ = some (.int .i64 N1) ∧ wx.cell? ⟨b3, o3 + 3 + 1, none⟩ = some (.int .i64 N2) ∧ wx.cell? ⟨b3, o3 + 6 + 1, none⟩ = some (.int .i64 N3)))
            case first =>
              clear HQ2 HO
              go_wp2_with fail
              refine HTr.out.mono ?_
              rintro e w2 ⟨v2, rfl, hr2, hb2, hn2⟩
              have hbw := HA.out w2 hb2
              rcases hr2.2 with ⟨h, -⟩ | ⟨b3, o3, c3, rfl, hlt3, -, -, hc3⟩
              · cases h
              have hnb : wr.heap.size ≤ b3 := by have := hn2 _ _ _ rfl; simp at this; omega
              have HF : Hid (∀ ob : Obj, (w2.alloc ob).ownsRow (H + 2) 59 3 (.slice va k vc) k (mCells acc) ∧ (w2.alloc ob).heap[w.heap.size]? = some (.cells #[.int .i64 0, .slice none 0 0] 32 (0, 0)) ∧ (w2.alloc ob).heap[H]? = some (.cells #[.slice (some ⟨b, off, none⟩) 2 cap, .string R, .int .i64 0] 56 (0, 0)) ∧ (w2.alloc ob).heap[H + 1]? = some (.cells #[.int .i64 N, .slice va k vc] 32 (0, 0)) ∧ Below w.heap.size w (w2.alloc ob) ∧ (w2.alloc ob).cell? ⟨b, off + 3 + 1, none⟩ = some (.int .i64 (n : Int)) ∧ (wr.heap.size ≤ w2.heap.size ∧ wr.heap.size ≤ b3 ∧ b3 < (w2.alloc ob).heap.size) ∧ ((w2.alloc ob).cell? ⟨b3, o3 + 1, none⟩ = some (.int .i64 N1) ∧ (w2.alloc ob).cell? ⟨b3, o3 + 3 + 1, none⟩ = some (.int .i64 N2) ∧ (w2.alloc ob).cell? ⟨b3, o3 + 6 + 1, none⟩ = some (.int .i64 N3))) := fun ob => by
                have hA := al_belowV w2 ob
                have hb := hbw.trans (hA.mono hbw.size)
                refine ⟨Q.owns_below HW.out hb, (hb.block _ (by omega)).trans HH0.out, (hb.block _ (by omega)).trans HHh.out, (hb.block _ (by omega)).trans HH1.out, HB.out.trans (hb.mono hsz), (hb.cell (p := ⟨b, off + 3 + 1, none⟩) (by show b < _; omega)).trans HCn.out, ⟨hbw.size, hnb, by have : b3 < w2.heap.size := hlt3; simp; omega⟩, ?_⟩
                exact ⟨(hA.cell (p := ⟨b3, o3 + 1, none⟩) hlt3).trans (hc3 1 _ rfl), (hA.cell (p := ⟨b3, o3 + 3 + 1, none⟩) hlt3).trans (hc3 4 _ rfl), (hA.cell (p := ⟨b3, o3 + 6 + 1, none⟩) hlt3).trans (hc3 7 _ rfl)⟩
              clear hb2 hbw hr2 hc3 hn2 HW HH0 HHh HH1 HB HCn HTr HA
              go_wp2_with fail
              go_meet
              obtain ⟨g1, g2, g3, g4, g5, g6, g7, g8⟩ := HF.out (.cells #[.slice (some ⟨b3, o3, none⟩) 3 c3, .string R', .int .i64 0] 56)
              exact ⟨w2.heap.size, b3, o3, c3, rfl, g1, g2, g3, g4, g5, g6, alloc_top _ _, g7, g8⟩
            case rest =>
              obtain ⟨T, b3, o3, c3, rfl, HW2, HHa, HHc, HHb, HB2, HC2, HHt, HT2, HI⟩ := hcut
              obtain ⟨wd, hwd⟩ : ∃ wd, wd = wc := ⟨_, rfl⟩
              subst hwd
              have hTT := HT2.out
              obtain ⟨y0, y1, y2⟩ := HI.out
              obtain ⟨q0, q1, q2⟩ := three_R HHt.out
              obtain ⟨r0, r1, rf0, rf1⟩ := two_V HHb.out
              have hsd := HB2.out.size
              have hTd := (heap_at HHt.out).2.2
              have hHd := (heap_at HHb.out).2.2
              have hb1 : (k + 1) * 24 ≤ 140737488355328 := by omega
              have hb2 : k + 1 ≤ maxLen := by unfold maxLen; omega
              have hb3 : H + 2 ≤ wd.heap.size := by omega
              have h1c : ∀ u ∈ [Value.int .i64 N1, .int .i64 N2, .bool (N3 == 1)], u.oneCell' = true := by simp [Value.oneCell']
              have hoT : (Value.slice va k vc).ownBlock ≠ some T := fun e => by
                have := (HW.out.lt _ e).2
                omega
              have HOT : Hid ((Value.slice va k vc).ownBlock ≠ some T) := hoT
              have hob : (Value.slice va k vc).ownBlock ≠ some b3 := fun e => by
                have := (HW.out.lt _ e).2
                omega
              have hs0 : SvT T b3 o3 c3 N1 N2 N3 wd := ⟨q0, y0, y1, y2⟩
              have HSx : Hid ((∀ o, SvT T b3 o3 c3 N1 N2 N3 (wd.alloc o).drew) ∧ ∀ w3 : World, (∀ b, b < wd.heap.size → (Value.slice va k vc).ownBlock ≠ some b → w3.heap[b]? = wd.heap[b]?) → SvT T b3 o3 c3 N1 N2 N3 w3 ∧ ∀ v, SvT T b3 o3 c3 N1 N2 N3 (w3.setCell ⟨H + 1, 1, none⟩ v)) := by
                refine ⟨fun o => hs0.keep (Below.heap_alloc wd o T hTd) (Below.heap_alloc wd o b3 hTT.2.2), fun w3 hst => ?_⟩
                have e1 := hst T hTd HOT.out
                have e2 := hst b3 hTT.2.2 hob
                refine ⟨hs0.keep e1 e2, fun v => hs0.keep ((Below.heap_setCell _ _ _ _ (by show T ≠ H + 1; omega)).trans e1) ((Below.heap_setCell _ _ _ _ (by show b3 ≠ H + 1; omega)).trans e2)⟩
              have HC3 : Hid (mCells (acc ++ [⟨N1, N2, N3 == 1⟩]) = mCells acc ++ [.int .i64 N1, .int .i64 N2, .bool (N3 == 1)]) := by show _ = _; rw [mCells_snoc]; rfl
              have HNx : Hid (∀ w3 va3 vc3, w3.ownsRow (H + 2) 59 3 (.slice va3 (k + 1) vc3) (k + 1) (mCells acc ++ [.int .i64 N1, .int .i64 N2, .bool (N3 == 1)]) → Below (H + 2) wd w3 → (∀ b, b < wd.heap.size → (Value.slice va k vc).ownBlock ≠ some b → w3.heap[b]? = wd.heap[b]?) → Hid ((w3.setCell ⟨H + 1, 1, none⟩ (.slice va3 (k + 1) vc3)).ownsRow (H + 2) 59 3 (.slice va3 (k + 1) vc3) (k + 1) (mCells (acc ++ [⟨N1, N2, N3 == 1⟩]))) ∧ Hid ((w3.setCell ⟨H + 1, 1, none⟩ (.slice va3 (k + 1) vc3)).heap[w.heap.size]? = some (.cells #[.int .i64 0, .slice none 0 0] 32 (0, 0))) ∧ Hid ((w3.setCell ⟨H + 1, 1, none⟩ (.slice va3 (k + 1) vc3)).heap[H]? = some (.cells #[.slice (some ⟨b, off, none⟩) 2 cap, .string R, .int .i64 0] 56 (0, 0))) ∧ Hid ((w3.setCell ⟨H + 1, 1, none⟩ (.slice va3 (k + 1) vc3)).heap[H + 1]? = some (.cells #[.int .i64 N, .slice va3 (k + 1) vc3] 32 (0, 0))) ∧ Hid (Below w.heap.size w (w3.setCell ⟨H + 1, 1, none⟩ (.slice va3 (k + 1) vc3))) ∧ Hid ((w3.setCell ⟨H + 1, 1, none⟩ (.slice va3 (k + 1) vc3)).cell? ⟨b, off + 3 + 1, none⟩ = some (.int .i64 (n : Int))) ∧ (w3.setCell ⟨H + 1, 1, none⟩ (.slice va3 (k + 1) vc3)).cell? ⟨T, 1, none⟩ = some (.string R') ∧ w3.cell? ⟨T, 1, none⟩ = some (.string R')) := fun w3 va3 vc3 hown hb hst => by
                have k0 := (hb.block _ (by omega)).trans HHa.out
                have kh := (hb.block _ (by omega)).trans HHc.out
                have k2 := (hb.block _ (by omega)).trans HHb.out
                have kt := (hst T hTd hoT).trans HHt.out
                have kn := (hb.cell (p := ⟨b, off + 3 + 1, none⟩) (by show b < _; omega)).trans HC2.out
                have s1 := setCell_atV w3 1 k2 (.slice va3 (k + 1) vc3)
                have kt1 := (s1.2 T (by omega)).trans kt
                refine ⟨?_, (s1.2 _ (by omega)).trans k0, (s1.2 _ (by omega)).trans kh, s1.1, (HB2.out.trans (hb.mono (by omega))).setCell (p := ⟨H + 1, 1, none⟩) (by show w.heap.size ≤ H + 1; omega) _, ?_, (three_R kt1).2.1, (three_R kt).2.1⟩
                · show World.ownsRow _ _ _ _ _ _ _
                  rw [HC3.out]
                  refine hown.kept (row := some (H + 1)) ⟨rfl, rfl, rfl, by simp, fun j _ hj => s1.2 j (fun e => hj (by rw [e]))⟩ (.inr ?_)
                  intro e
                  have := (hown.lt _ e).1
                  omega
                · show World.cell? _ _ = _
                  rw [World.cell?_setCell_other _ _ _ _ (fun e => by have := congrArg Addr.block e; dsimp only at this; omega)]
                  exact kn
              have HQQ : Hid (∀ w3, Below (H + 2) wd w3 → w3.cell? ⟨H + 1, 1, none⟩ = some (.slice va k vc) ∧ w3.frozen? ⟨H + 1, 1, none⟩ = false) := fun w3 hb => by
                have := two_V ((hb.block _ (by omega)).trans HHb.out)
                exact ⟨this.2.1, this.2.2.2⟩
              clear HHa HHc HHb HB2 HC2 HHt HT2 HI HC3 HO HW HH0 HHh HH1 HB HCn HTr HA
              go_wp2_with fail
              refine wp_region_held_drew (S := SvT T b3 o3 c3 N1 N2 N3) (by kernel_rfl) hs0 (fun hHeld => ?_)
              refine wpAnyH_take (i := 0) (v := ?_) rfl (by kernel_rfl) (by kernel_rfl) (by kernel_rfl) (fun _ _ _ h => h) (Or.inl ⟨by rfl, ?_⟩) hHeld ?_
              rotate_left 1
              · intro w9 hSw; obtain ⟨g0, g1, g2, g4⟩ := hSw; go_simp; try with_reducible rfl
              change wpAnyH _ _ _ _ _ _ _ (Act.put _ (some 44) _) _
              simp only [Act.put, List.setIfInBounds_toArray, List.set_cons_zero, List.set_cons_succ]
              refine wpAnyH_take (i := 2) (v := ?_) rfl (by kernel_rfl) (by kernel_rfl) (by kernel_rfl) (fun _ _ _ h => h) (Or.inl ⟨by rfl, ?_⟩) hHeld ?_
              rotate_left 1
              · intro w9 hSw; obtain ⟨g0, g1, g2, g4⟩ := hSw; go_simp; try with_reducible rfl
              change wpAnyH _ _ _ _ _ _ _ (Act.put _ (some 46) _) _
              simp only [Act.put, List.setIfInBounds_toArray, List.set_cons_zero, List.set_cons_succ]
              refine wpAnyH_take (i := 3) (v := ?_) rfl (by kernel_rfl) (by kernel_rfl) (by kernel_rfl) (fun _ _ _ h => h) (Or.inl ⟨by rfl, ?_⟩) hHeld ?_
              rotate_left 1
              · intro w9 hSw; obtain ⟨g0, g1, g2, g4⟩ := hSw; go_simp; try with_reducible rfl
              change wpAnyH _ _ _ _ _ _ _ (Act.put _ (some 47) _) _
              simp only [Act.put, List.setIfInBounds_toArray, List.set_cons_zero, List.set_cons_succ]
              refine wpAnyH_take (i := 4) (v := ?_) rfl (by kernel_rfl) (by kernel_rfl) (by kernel_rfl) (fun _ _ _ h => h) (Or.inl ⟨by rfl, ?_⟩) hHeld ?_
              rotate_left 1
              · intro w9 hSw; obtain ⟨g0, g1, g2, g4⟩ := hSw; go_simp; try with_reducible rfl
              change wpAnyH _ _ _ _ _ _ _ (Act.put _ (some 48) _) _
              simp only [Act.put, List.setIfInBounds_toArray, List.set_cons_zero, List.set_cons_succ]
              refine wpAnyH_take (i := 5) (v := ?_) rfl (by kernel_rfl) (by kernel_rfl) (by kernel_rfl) (fun _ _ _ h => h) (Or.inl ⟨by rfl, ?_⟩) hHeld ?_
              rotate_left 1
              · intro w9 hSw; obtain ⟨g0, g1, g2, g4⟩ := hSw; go_simp; try with_reducible rfl
              change wpAnyH _ _ _ _ _ _ _ (Act.put _ (some 49) _) _
              simp only [Act.put, List.setIfInBounds_toArray, List.set_cons_zero, List.set_cons_succ]
              refine wpAnyH_take (i := 6) (v := ?_) rfl (by kernel_rfl) (by kernel_rfl) (by kernel_rfl) (fun _ _ _ h => h) (Or.inl ⟨by rfl, ?_⟩) hHeld ?_
              rotate_left 1
              · intro w9 hSw; obtain ⟨g0, g1, g2, g4⟩ := hSw; go_simp; try with_reducible rfl
              change wpAnyH _ _ _ _ _ _ _ (Act.put _ (some 50) _) _
              simp only [Act.put, List.setIfInBounds_toArray, List.set_cons_zero, List.set_cons_succ]
              refine wpAnyH_take (i := 7) (v := ?_) rfl (by kernel_rfl) (by kernel_rfl) (by kernel_rfl) (fun _ _ _ h => h) (Or.inl ⟨by rfl, ?_⟩) hHeld ?_
              rotate_left 1
              · intro w9 hSw; obtain ⟨g0, g1, g2, g4⟩ := hSw; go_simp; try with_reducible rfl
              change wpAnyH _ _ _ _ _ _ _ (Act.put _ (some 51) _) _
              simp only [Act.put, List.setIfInBounds_toArray, List.set_cons_zero, List.set_cons_succ]
              refine wpAnyH_take (i := 8) (v := ?_) rfl (by kernel_rfl) (by kernel_rfl) (by kernel_rfl) (fun _ _ _ h => h) (Or.inl ⟨by rfl, ?_⟩) hHeld ?_
              rotate_left 1
              · intro w9 hSw; obtain ⟨g0, g1, g2, g4⟩ := hSw; go_simp; try with_reducible rfl
              change wpAnyH _ _ _ _ _ _ _ (Act.put _ (some 52) _) _
              simp only [Act.put, List.setIfInBounds_toArray, List.set_cons_zero, List.set_cons_succ]
              refine wpAnyH_take (i := 9) (v := ?_) rfl (by kernel_rfl) (by kernel_rfl) (by kernel_rfl) (fun _ _ _ h => h) (Or.inl ⟨by rfl, ?_⟩) hHeld ?_
              rotate_left 1
              · intro w9 hSw; obtain ⟨g0, g1, g2, g4⟩ := hSw; go_simp; try with_reducible rfl
              change wpAnyH _ _ _ _ _ _ _ (Act.put _ (some 53) _) _
              simp only [Act.put, List.setIfInBounds_toArray, List.set_cons_zero, List.set_cons_succ]
              refine wpAnyH_take (i := 10) (v := ?_) rfl (by kernel_rfl) (by kernel_rfl) (by kernel_rfl) (fun _ _ _ h => h) (Or.inl ⟨by rfl, ?_⟩) hHeld ?_
              rotate_left 1
              · intro w9 hSw; obtain ⟨g0, g1, g2, g4⟩ := hSw; go_simp; try with_reducible rfl
              change wpAnyH _ _ _ _ _ _ _ (Act.put _ (some 54) _) _
              simp only [Act.put, List.setIfInBounds_toArray, List.set_cons_zero, List.set_cons_succ]
              refine wpAnyH_take (i := 11) (v := ?_) rfl (by kernel_rfl) (by kernel_rfl) (by kernel_rfl) (fun _ _ _ h => h) (Or.inl ⟨by rfl, ?_⟩) hHeld ?_
              rotate_left 1
              · intro w9 hSw; obtain ⟨g0, g1, g2, g4⟩ := hSw; go_simp; try with_reducible rfl
              change wpAnyH _ _ _ _ _ _ _ (Act.put _ (some 55) _) _
              simp only [Act.put, List.setIfInBounds_toArray, List.set_cons_zero, List.set_cons_succ]
              refine wpAnyH_take (i := 12) (v := ?_) rfl (by kernel_rfl) (by kernel_rfl) (by kernel_rfl) (fun _ _ _ h => h) (Or.inl ⟨by rfl, ?_⟩) hHeld ?_
              rotate_left 1
              · intro w9 hSw; obtain ⟨g0, g1, g2, g4⟩ := hSw; go_simp; try with_reducible rfl
              change wpAnyH _ _ _ _ _ _ _ (Act.put _ (some 56) _) _
              simp only [Act.put, List.setIfInBounds_toArray, List.set_cons_zero, List.set_cons_succ]
              refine wpAnyH_take (i := 13) (v := ?_) rfl (by kernel_rfl) (by kernel_rfl) (by kernel_rfl) (fun _ _ _ h => h) (Or.inl ⟨by rfl, ?_⟩) hHeld ?_
              rotate_left 1
              · intro w9 hSw; obtain ⟨g0, g1, g2, g4⟩ := hSw; go_simp; try with_reducible rfl
              change wpAnyH _ _ _ _ _ _ _ (Act.put _ (some 57) _) _
              simp only [Act.put, List.setIfInBounds_toArray, List.set_cons_zero, List.set_cons_succ]
              refine wpAnyH_take (i := 14) (v := ?_) rfl (by kernel_rfl) (by kernel_rfl) (by kernel_rfl) (fun _ _ _ h => h) (Or.inl ⟨by rfl, ?_⟩) hHeld ?_
              rotate_left 1
              · intro w9 hSw; obtain ⟨g0, g1, g2, g4⟩ := hSw; go_simp; try with_reducible rfl
              change wpAnyH _ _ _ _ _ _ _ (Act.put _ (some 58) _) _
              simp only [Act.put, List.setIfInBounds_toArray, List.set_cons_zero, List.set_cons_succ]
              refine wpAnyH_take (i := 15) (v := ?_) rfl (by kernel_rfl) (by kernel_rfl) (by kernel_rfl) (fun _ _ _ h => h) (Or.inl ⟨by rfl, ?_⟩) hHeld ?_
              rotate_left 1
              · intro w9 hSw; obtain ⟨g0, g1, g2, g4⟩ := hSw; go_simp; try with_reducible rfl
              change wpAnyH _ _ _ _ _ _ _ (Act.put _ (some 59) _) _
              simp only [Act.put, List.setIfInBounds_toArray, List.set_cons_zero, List.set_cons_succ]
              refine wpAnyH_take (i := 16) (v := ?_) rfl (by kernel_rfl) (by kernel_rfl) (by kernel_rfl) (fun _ _ _ h => h) (Or.inl ⟨by rfl, ?_⟩) hHeld ?_
              rotate_left 1
              · intro w9 hSw; obtain ⟨g0, g1, g2, g4⟩ := hSw; go_simp; try with_reducible rfl
              change wpAnyH _ _ _ _ _ _ _ (Act.put _ (some 60) _) _
              simp only [Act.put, List.setIfInBounds_toArray, List.set_cons_zero, List.set_cons_succ]
              refine wpAnyH_take (i := 17) (v := ?_) rfl (by kernel_rfl) (by kernel_rfl) (by kernel_rfl) (fun _ _ _ h => h) (Or.inl ⟨by rfl, ?_⟩) hHeld ?_
              rotate_left 1
              · intro w9 hSw; obtain ⟨g0, g1, g2, g4⟩ := hSw; go_simp; try with_reducible rfl
              change wpAnyH _ _ _ _ _ _ _ (Act.put _ (some 61) _) _
              simp only [Act.put, List.setIfInBounds_toArray, List.set_cons_zero, List.set_cons_succ]
              refine wpAnyH_take (i := 18) (v := ?_) rfl (by kernel_rfl) (by kernel_rfl) (by kernel_rfl) (fun _ _ _ h => h) (Or.inl ⟨by rfl, ?_⟩) hHeld ?_
              rotate_left 1
              · intro w9 hSw; obtain ⟨g0, g1, g2, g4⟩ := hSw; go_simp; try with_reducible rfl
              change wpAnyH _ _ _ _ _ _ _ (Act.put _ (some 62) _) _
              simp only [Act.put, List.setIfInBounds_toArray, List.set_cons_zero, List.set_cons_succ]
              refine wpAnyH_ready (rs := [1, 19]) (by kernel_rfl) (by simp) ?_
              refine AllReadyH.cons rfl (fun K hK => ?_) (AllReadyH.cons rfl (fun K hK => ?_) AllReadyH.nil)
              · go_simp
                refine hK.out _ _ hHeld (fun hHeld => ?_)
                clear hK K
                refine wpAnyH_ready (rs := [19]) (by kernel_rfl) (by simp) ?_
                refine AllReadyH.cons rfl (fun K hK => ?_) AllReadyH.nil
                go_simp
                refine hK.out _ _ (HSx.out.1 _) (fun hHeld => ?_)
                clear hK K
                refine wpAnyH_ready (rs := [20]) (by kernel_rfl) (by simp) ?_
                refine AllReadyH.cons rfl (fun K hK => ?_) AllReadyH.nil
                refine step_appd rfl (.tmp 45) (.tmp 63) 30 59 (by rfl) i0 _ 3 24 Tryd.underlying30 hi0 hz0 hz1 hz2 rfl (by decide) (H + 2) (.slice va k vc) k (mCells acc) (by rfl) HW2.out [.int .i64 N1, .int .i64 N2, .bool (N3 == 1)] rfl _ rfl (by rfl) h1c hb1 hb2 hb3 ?_
                intro v3 w3 hown3 hbw3 hst3 hform
                obtain ⟨g3, c4, rfl⟩ := hform
                obtain ⟨s0, sf⟩ := HQQ.out _ hbw3
                refine hK.out _ _ (HSx.out.2 _ hst3).1 (fun hHeld => ?_)
                clear hK K
                change wpAnyH _ _ _ _ _ _ _ (Act.put _ (some 64) _) _
                simp only [Act.put, List.setIfInBounds_toArray, List.set_cons_zero, List.set_cons_succ]
                refine wpAnyH_take (i := 21) (v := ?_) rfl (by kernel_rfl) (by kernel_rfl) (by kernel_rfl) (fun _ _ _ h => h) (Or.inl ⟨by rfl, ?_⟩) hHeld ?_
                rotate_left 1
                · intro w9 hSw; obtain ⟨g0, g1, g2, g4⟩ := hSw; go_simp; try with_reducible rfl
                change wpAnyH _ _ _ _ _ _ _ (Act.put _ (some 65) _) _
                simp only [Act.put, List.setIfInBounds_toArray, List.set_cons_zero, List.set_cons_succ]
                refine wpAnyH_ready (rs := [22]) (by kernel_rfl) (by simp) ?_
                refine AllReadyH.cons rfl (fun K hK => ?_) AllReadyH.nil
                go_simp
                refine hK.out _ _ ((HSx.out.2 _ hst3).2 _) (fun hHeld => ?_)
                clear hK K hHeld
                refine wpAnyH_done (by kernel_rfl) ?_ _
                obtain ⟨n0, n1, n2, n3, n4, n5, n6, n7⟩ := HNx.out _ _ _ hown3 hbw3 hst3
                clear hown3 hbw3 hst3 HW2 HNx HQQ HSx
                go_wp2
                go_roundw
                case rel => exact ⟨trivial, k + 1, acc ++ [⟨N1, N2, N3 == 1⟩], R', _, _, ⟨by omega, by omega⟩, rfl, by simp, hal _, by omega, HQ2, n0, n1, n2, n3, n4, n5⟩
                case measure => simp [intOf]; omega
              · go_simp
                refine hK.out _ _ (HSx.out.1 _) (fun hHeld => ?_)
                clear hK K
                refine wpAnyH_ready (rs := [1]) (by kernel_rfl) (by simp) ?_
                refine AllReadyH.cons rfl (fun K hK => ?_) AllReadyH.nil
                go_simp
                refine hK.out _ _ (HSx.out.1 _) (fun hHeld => ?_)
                clear hK K
                refine wpAnyH_ready (rs := [20]) (by kernel_rfl) (by simp) ?_
                refine AllReadyH.cons rfl (fun K hK => ?_) AllReadyH.nil
                refine step_appd rfl (.tmp 45) (.tmp 63) 30 59 (by rfl) i0 _ 3 24 Tryd.underlying30 hi0 hz0 hz1 hz2 rfl (by decide) (H + 2) (.slice va k vc) k (mCells acc) (by rfl) HW2.out [.int .i64 N1, .int .i64 N2, .bool (N3 == 1)] rfl _ rfl (by rfl) h1c hb1 hb2 hb3 ?_
                intro v3 w3 hown3 hbw3 hst3 hform
                obtain ⟨g3, c4, rfl⟩ := hform
                obtain ⟨s0, sf⟩ := HQQ.out _ hbw3
                refine hK.out _ _ (HSx.out.2 _ hst3).1 (fun hHeld => ?_)
                clear hK K
                change wpAnyH _ _ _ _ _ _ _ (Act.put _ (some 64) _) _
                simp only [Act.put, List.setIfInBounds_toArray, List.set_cons_zero, List.set_cons_succ]
                refine wpAnyH_take (i := 21) (v := ?_) rfl (by kernel_rfl) (by kernel_rfl) (by kernel_rfl) (fun _ _ _ h => h) (Or.inl ⟨by rfl, ?_⟩) hHeld ?_
                rotate_left 1
                · intro w9 hSw; obtain ⟨g0, g1, g2, g4⟩ := hSw; go_simp; try with_reducible rfl
                change wpAnyH _ _ _ _ _ _ _ (Act.put _ (some 65) _) _
                simp only [Act.put, List.setIfInBounds_toArray, List.set_cons_zero, List.set_cons_succ]
                refine wpAnyH_ready (rs := [22]) (by kernel_rfl) (by simp) ?_
                refine AllReadyH.cons rfl (fun K hK => ?_) AllReadyH.nil
                go_simp
                refine hK.out _ _ ((HSx.out.2 _ hst3).2 _) (fun hHeld => ?_)
                clear hK K hHeld
                refine wpAnyH_done (by kernel_rfl) ?_ _
                obtain ⟨n0, n1, n2, n3, n4, n5, n6, n7⟩ := HNx.out _ _ _ hown3 hbw3 hst3
                clear hown3 hbw3 hst3 HW2 HNx HQQ HSx
                go_wp2
                go_roundw
                case rel => exact ⟨trivial, k + 1, acc ++ [⟨N1, N2, N3 == 1⟩], R', _, _, ⟨by omega, by omega⟩, rfl, by simp, hal _, by omega, HQ2, n0, n1, n2, n3, n4, n5⟩
                case measure => simp [intOf]; omega
          · rw [take3_no s' hm] at HTr
            have HN : Hid (rrO s = none) := by show _ = _; rw [HO.out, rdL_no hkm HQ.out hm]; rfl
            have nb : (mbE s' != 0) = true := by simpa using hm
            generalize mbE s' = E at *
            clear HQ HO hm
            go_wp2_with fail
            refine HTr.out.mono ?_
            rintro e w2 ⟨v2, rfl, hr2, hb2, -⟩
            obtain ⟨va2, vc2, rfl⟩ := hr2.form
            have hbw := HA.out w2 hb2
            have hz0' := (hbw.block _ (by omega)).trans HH0.out
            obtain ⟨x0, x1, f0, f1⟩ := two_V hz0'
            have hz1' := (heap_at hz0').2.2
            have HB2 : Hid (Below w.heap.size w w2) := HB.out.trans (hbw.mono hsz)
            clear hr2 hb2 hbw hz0' HTr HA HW HH0 HHh HH1 HB HCn
            go_wp2
            refine bodyPost_ret (v := .tuple #[vwV 0 (.slice none 0 0), .int .i64 3]) ?_ rfl (by rw [HN.out]; exact rd_none _ _ (set2a_V HB2.out (by omega) _ _ _))
            rw [results_csV rfl]; go_simp
        · have hkm : k = min n 16 := by omega
          subst hak
          have HE : Hid (rrO s = if ¬ s.size = 0 ∧ txV N acc = s then some (N, acc) else none) := by
            show _ = _
            rw [HO.out, HQ.out, ← hkm, Nat.sub_self]
            simp [rdL]
          have HL : Hid (acc.length ≤ 16) := hk.2
          by_cases hkn : acc.length < n
          · have dk : decide ((acc.length : Int) < (n : Int)) = true := by simp; omega
            have dk2 : decide ((acc.length : Int) < 16) = false := by simp; omega
            clear HO HQ
            go_wp2_with fail
            go_meet
            exact ⟨trivial, trivial, trivial, acc, va, vc, HE, HL, HW, HH0, HH1, HB⟩
          · have dk : decide ((acc.length : Int) < (n : Int)) = false := by simp; omega
            clear HO HQ
            go_wp2_with fail
            go_meet
            exact ⟨trivial, trivial, trivial, acc, va, vc, HE, HL, HW, HH0, HH1, HB⟩
    case rest =>
      obtain ⟨-, -, -, acc, va, vc, HE, HL, HW, HH0, HH1, HB⟩ := hcut
      clear HAs c0 c0' HO
      obtain ⟨wr, hwr⟩ : ∃ wr, wr = wc := ⟨_, rfl⟩
      subst hwr
      have hown := HW.out
      have hsz := HB.out.size
      have hl16 := HL.out
      have HRw : Hid (IsRow wr 3 (.slice va acc.length vc) acc.length (mCells acc)) := IsRow.own hown
      obtain ⟨x0, x1, f0, f1⟩ := two_V HH0.out
      obtain ⟨z0, z1, g0, g1⟩ := two_V HH1.out
      by_cases h0 : s.size = 0
      · as_aux_lemma =>
        have HE2 : Hid (rrO s = none) := HE.out.trans (if_neg (fun h => h.1 h0))
        have es : (s.toList == []) = true := by
          have e : s.data.toList.length = s.size := by simp
          rw [ByteArray.toList_eq, List.length_eq_zero_iff.1 (e.trans h0)]; rfl
        have es2 : (s.toList == (⟨#[]⟩ : ByteArray).toList) = true := by
          have e : s.data.toList.length = s.size := by simp
          rw [ByteArray.toList_eq, ByteArray.toList_eq, List.length_eq_zero_iff.1 (e.trans h0)]; rfl
        clear HE h0 HW hown HRw HH1
        go_wp2
        refine bodyPost_ret (v := .tuple #[vwV 0 (.slice none 0 0), .int .i64 3]) ?_ rfl (by rw [HE2.out]; exact rd_none _ _ (set2_V HB.out (Nat.le_refl _) _ _))
        rw [results_csV rfl]; go_simp
      · have hd : s.data.toList ≠ [] := fun h => h0 (by
          have e : s.data.toList.length = s.size := by simp
          rw [h] at e
          exact e.symm)
        have ns : (s.toList == []) = false := by rw [beq_eq_false_iff_ne, ByteArray.toList_eq]; exact hd
        have ns2 : (s.toList == (⟨#[]⟩ : ByteArray).toList) = false := by rw [beq_eq_false_iff_ne, ByteArray.toList_eq, ByteArray.toList_eq]; exact hd
        have HCk : Hid (Calls Tryd.prog 9 #[.agg #[.int .i64 N, .slice va acc.length vc]] wr fun e w' => e = .returned (.string (txV N acc)) ∧ Below wr.heap.size wr w') := refVText_any N _ acc wr HRw.out (by omega)
        have HF : Hid (∀ w5, Below wr.heap.size wr w5 → (w5.heap[w.heap.size]? = some (.cells #[.int .i64 0, .slice none 0 0] 32 (0, 0)) ∧ w5.heap[H + 1]? = some (.cells #[.int .i64 N, .slice va acc.length vc] 32 (0, 0))) ∧ ∀ x y, IsRow ((w5.setCell ⟨w.heap.size, 0, none⟩ x).setCell ⟨w.heap.size, 1, none⟩ y) 3 (.slice va acc.length vc) acc.length (mCells acc) ∧ Below w.heap.size w ((w5.setCell ⟨w.heap.size, 0, none⟩ x).setCell ⟨w.heap.size, 1, none⟩ y)) := fun w5 h5 => by
          have hx1 := (heap_at HH1.out).2.2
          refine ⟨⟨(h5.block _ (by omega)).trans HH0.out, (h5.block _ (by omega)).trans HH1.out⟩, fun x y => ⟨?_, set2_V (HB.out.trans (h5.mono hsz)) (Nat.le_refl _) _ _⟩⟩
          exact ((HRw.out.below h5).far (NewB.own hown) (by omega) _).far (NewB.own hown) (by omega) _
        have HNw : Hid (NewB w.heap.size (.slice va acc.length vc)) := (NewB.own hown).mono (by omega)
        clear hown HW HH0 HH1 HRw hd HL
        go_wp2_with fail
        refine HCk.out.mono ?_
        rintro e w5 ⟨rfl, hb5⟩
        obtain ⟨⟨k0, k1⟩, hF⟩ := HF.out w5 hb5
        have HF5 : Hid (∀ x y, IsRow ((w5.setCell ⟨w.heap.size, 0, none⟩ x).setCell ⟨w.heap.size, 1, none⟩ y) 3 (.slice va acc.length vc) acc.length (mCells acc) ∧ Below w.heap.size w ((w5.setCell ⟨w.heap.size, 0, none⟩ x).setCell ⟨w.heap.size, 1, none⟩ y)) := hF
        clear x0 x1 f0 f1 z0 z1 g0 g1 HF HCk hb5 hF
        obtain ⟨x0, x1, f0, f1⟩ := two_V k0
        obtain ⟨z0, z1, g0, g1⟩ := two_V k1
        clear k0 k1
        by_cases hv : txV N acc = s
        · as_aux_lemma =>
          have HE2 : Hid (rrO s = some (N, acc)) := HE.out.trans (if_pos ⟨h0, hv⟩)
          have tt : ((txV N acc).toList == s.toList) = true := by rw [hv]; exact beq_self_eq_true _
          clear HE hv
          generalize txV N acc = TX at *
          go_wp2
          refine bodyPost_ret (v := .tuple #[vwV N (.slice va acc.length vc), .int .i64 0]) ?_ rfl (by rw [HE2.out]; exact ⟨_, rfl, (HF5.out _ _).1, HNw.out, (HF5.out _ _).2⟩)
          rw [results_csV rfl]; go_simp
        · as_aux_lemma =>
          have HE2 : Hid (rrO s = none) := HE.out.trans (if_neg (fun h => hv h.2))
          have tt : ((txV N acc).toList == s.toList) = false := by
            rw [beq_eq_false_iff_ne, ByteArray.toList_eq, ByteArray.toList_eq]
            exact fun h => hv (Q.ba_of h)
          clear HE hv
          generalize txV N acc = TX at *
          go_wp2
          refine bodyPost_ret (v := .tuple #[vwV 0 (.slice none 0 0), .int .i64 3]) ?_ rfl (by rw [HE2.out]; exact rd_none _ _ (HF5.out _ _).2)
          rw [results_csV rfl]; go_simp
  · have HO : Hid (rrO s = none) := if_neg h0
    rw [HO.out]
    rw [take2_no s h0] at HTk
    have nb : (hdE s != 0) = true := by simpa using h0
    clear HO h0
    generalize hdE s = E at *
    go_enter Tryd.func7, Tryd.ntmps7
    go_wp2_with fail
    refine HTk.out.mono ?_
    rintro e w1 ⟨v1, rfl, hr1, hb1⟩
    obtain ⟨va1, vc1, rfl⟩ := hr1.form
    obtain ⟨x0, x1, f0, f1⟩ := two_V (HX.out w1 hb1)
    have hs1 := (heap_at (HX.out w1 hb1)).2.2
    have HB1 : Hid (Below w.heap.size w w1) := HB0.out.trans (hb1.mono HB0.out.size)
    clear hr1 hb1 HTk HX HB0
    go_wp2
    refine bodyPost_ret (v := .tuple #[vwV 0 (.slice none 0 0), .int .i64 3]) ?_ rfl (rd_none _ _ (set2a_V HB1.out (by omega) _ _ _))
    rw [results_csV rfl]; go_simp
end Go.Proofs.YtciibeldmcakeaaDoor
