/- view.Read: its walk. -/
import Derived.Test.YtciibeldmcakeaaDoorVxA
import Derived.Deep.DeepCutAuto
namespace Go.Proofs.YtciibeldmcakeaaDoor
open Go.RowKit

/-- A view's head. -/
def hdE (s : ByteArray) : Int := if Q.tE s 1 = 0 then Q.tE (Q.tR s 1) 1 else Q.tE s 1
def hdN (s : ByteArray) : Int := Q.tN s 1
def hdC (s : ByteArray) : Int := Q.tN (Q.tR s 1) 1
def hdR (s : ByteArray) : ByteArray := Q.tR (Q.tR s 1) 1
theorem take2_ok (s : ByteArray) (h : hdE s = 0) : Q.takeR s [1, 1] = ([⟨1, hdN s, Q.tS s 1⟩, ⟨1, hdC s, Q.tS (Q.tR s 1) 1⟩], hdR s, 0) := by
  unfold hdE at h
  have h1 : Q.tE s 1 = 0 := by split at h <;> simp_all
  rw [if_pos h1] at h
  unfold Q.takeR
  rw [if_pos (by decide)]
  simp [Q.tk, h1, h, hdN, hdC, hdR]
theorem take2_no (s : ByteArray) (h : hdE s ≠ 0) : Q.takeR s [1, 1] = ([], e0, hdE s) := by
  unfold Q.takeR
  rw [if_pos (by decide)]
  unfold hdE at h ⊢
  by_cases h1 : Q.tE s 1 = 0
  · rw [if_pos h1] at h ⊢
    simp [Q.tk, h1, h]
  · rw [if_neg h1] at h ⊢
    simp [Q.tk, h1]
theorem hdR_size (s : ByteArray) : (hdR s).size ≤ s.size := Nat.le_trans (Q.tR_size _ _) (Q.tR_size _ _)
theorem hdC_nn (s : ByteArray) : 0 ≤ hdC s := by
  have := (Q.getV_nn (Q.tR s 1)).1
  unfold hdC Q.tN
  simpa using this
/-- So many members. -/
def rdL : Nat → ByteArray → Option (List Mb × ByteArray)
  | 0, s => some ([], s)
  | n + 1, s => if mbE s = 0 then (rdL n (mbR s)).map fun r => (mbM s :: r.1, r.2) else none
/-- The view of bytes. -/
noncomputable def rdO (s : ByteArray) : Option (Int × List Mb) :=
  if hdE s = 0 ∧ hdC s ≤ 15 then (rdL (hdC s).toNat (hdR s)).bind fun r => if r.2.size = 0 ∧ vB (hdN s) r.1 = true then some (hdN s, r.1) else none else none
def RdPost (o : Option (Int × List Mb)) (w : World) (e : Ending) (w' : World) : Prop := match o with
  | some x => VwPost x.1 x.2 0 w e w'
  | none => VwPost 0 [] 3 w e w'
theorem rd_none (w w' : World) (h : Below w.heap.size w w') : RdPost none w (.returned (.tuple #[vwV 0 (.slice none 0 0), .int .i64 3])) w' := VwPost.none 3 h
theorem rdL_more {n k : Nat} {R s : ByteArray} {acc : List Mb} (hk : k < n) (h : rdL n R = (rdL (n - k) s).map fun r => (acc ++ r.1, r.2)) (hm : mbE s = 0) : rdL n R = (rdL (n - (k + 1)) (mbR s)).map fun r => ((acc ++ [mbM s]) ++ r.1, r.2) := by
  rw [h, show n - k = (n - (k + 1)) + 1 by omega, rdL, if_pos hm]
  cases rdL (n - (k + 1)) (mbR s) <;> simp
theorem rdL_no {n k : Nat} {R s : ByteArray} {acc : List Mb} (hk : k < n) (h : rdL n R = (rdL (n - k) s).map fun r => (acc ++ r.1, r.2)) (hm : mbE s ≠ 0) : rdL n R = none := by
  rw [h, show n - k = (n - (k + 1)) + 1 by omega, rdL, if_neg hm]
  rfl
set_option maxRecDepth 100000 in
set_option maxHeartbeats 2000000 in
theorem read_any (s : ByteArray) (w : World) (hs : s.size ≤ 140737488355328) :
    Calls Tryd.prog 6 #[.string s] w fun e w' => RdPost (rdO s) w e w' := by
  obtain ⟨i0, hi0, hz0, hz1, hz2⟩ := info_parts info_mb
  have HTk : Hid (Calls Tryd.prog 18 #[.string s, .slice (some ⟨w.heap.size + 1, 0, none⟩) 2 2] ((w.alloc (.cells #[.int .i64 0, .slice none 0 0] 24)).alloc (.cells #[.int .i64 1, .int .i64 1] 3)) fun e w' => Q.TakePost (Q.takeR s [1, 1]) ((w.alloc (.cells #[.int .i64 0, .slice none 0 0] 24)).alloc (.cells #[.int .i64 1, .int .i64 1] 3)) e w') :=
    Q.take_any s _ [1, 1] _ hs (kinds_row (C := Q.intCells [1, 1]) (al2V w _ _) rfl (by decide)) (by decide)
  have HB0 : Hid (Below w.heap.size w ((w.alloc (.cells #[.int .i64 0, .slice none 0 0] 24)).alloc (.cells #[.int .i64 1, .int .i64 1] 3))) := (al_belowV w _).trans ((al_belowV _ _).mono (by simp))
  have HX : Hid (∀ w', Below ((w.alloc (.cells #[.int .i64 0, .slice none 0 0] 24)).alloc (.cells #[.int .i64 1, .int .i64 1] 3)).heap.size ((w.alloc (.cells #[.int .i64 0, .slice none 0 0] 24)).alloc (.cells #[.int .i64 1, .int .i64 1] 3)) w' → w'.heap[w.heap.size]? = some (.cells #[.int .i64 0, .slice none 0 0] 24 (0, 0))) := fun w' h => (h.block _ (by simp; omega)).trans ((alloc_old _ _ (by simp)).trans (alloc_top w _))
  by_cases h0 : hdE s = 0
  · rw [take2_ok s h0] at HTk
    have hC0 := hdC_nn s
    by_cases h15 : hdC s ≤ 15
    · have HO : Hid (rdO s = (rdL (hdC s).toNat (hdR s)).bind fun r => if r.2.size = 0 ∧ vB (hdN s) r.1 = true then some (hdN s, r.1) else none) := if_pos ⟨h0, h15⟩
      have hRs := hdR_size s
      obtain ⟨n, hn⟩ : ∃ n : Nat, hdC s = (n : Int) := ⟨(hdC s).toNat, by omega⟩
      rw [hn] at HTk HO h15
      simp only [Int.toNat_natCast] at HO
      have d1 : decide (15 < (n : Int)) = false := by simp; omega
      clear hn hC0 h0
      generalize hdN s = N at *
      generalize hdR s = R at *
      go_enter Tryd.func6, Tryd.ntmps6
      go_wp2_with fail
      refine HTk.out.mono ?_
      rintro e w1 ⟨v1, rfl, hr1, hb1⟩
      have HH : Hid (w1.heap[w.heap.size]? = some (.cells #[.int .i64 0, .slice none 0 0] 24 (0, 0))) := HX.out w1 hb1
      have HB1 : Hid (Below w.heap.size w w1) := HB0.out.trans (hb1.mono HB0.out.size)
      rcases hr1.2 with ⟨h, -⟩ | ⟨b, off, cap, rfl, hlt, hc1, hc2, hc⟩
      · cases h
      have c0 : w1.cell? ⟨b, off + 1, none⟩ = some (.int .i64 N) := hc 1 _ rfl
      have c1 : w1.cell? ⟨b, off + 3 + 1, none⟩ = some (.int .i64 (n : Int)) := hc 4 _ rfl
      have c1' : (w1.alloc (.cells #[.int .i64 N, .slice none 0 0] 24)).cell? ⟨b, off + 3 + 1, none⟩ = some (.int .i64 (n : Int)) := ((al_belowV w1 _).cell (p := ⟨b, off + 3 + 1, none⟩) hlt).trans c1
      have HB2 : Hid (Below w.heap.size w (w1.alloc (.cells #[.int .i64 N, .slice none 0 0] 24))) := HB1.out.alloc HB1.out.size _
      have HH0 : Hid ((w1.alloc (.cells #[.int .i64 N, .slice none 0 0] 24)).heap[w.heap.size]? = some (.cells #[.int .i64 0, .slice none 0 0] 24 (0, 0))) := (alloc_old _ _ (heap_at HH.out).2.2).trans HH.out
      have HH1 : Hid ((w1.alloc (.cells #[.int .i64 N, .slice none 0 0] 24)).heap[w1.heap.size]? = some (.cells #[.int .i64 N, .slice none 0 0] 24 (0, 0))) := alloc_top _ _
      have hs0 := (heap_at HH.out).2.2
      clear hc hr1 hb1 HTk HX HB0 HH
      go_wp2_with fail
      go_loopw [5, 6, 8, 35] (fun r e p i wr => e = .int .i64 0 ∧ p = p ∧ ∃ (k : Nat) (acc : List Mb) (s' : ByteArray) (va : Option Addr) (vc : Nat), k ≤ n ∧ r = .string s' ∧ i = .int .i64 (k : Int) ∧ acc.length = k ∧ s'.size ≤ 140737488355328 ∧ Hid (rdL n R = (rdL (n - k) s').map fun r => (acc ++ r.1, r.2)) ∧ Hid (wr.ownsRow (w1.heap.size + 1) 51 3 (.slice va k vc) k (mCells acc)) ∧ Hid (wr.heap[w.heap.size]? = some (.cells #[.int .i64 0, .slice none 0 0] 24 (0, 0))) ∧ Hid (wr.heap[w1.heap.size]? = some (.cells #[.int .i64 N, .slice va k vc] 24 (0, 0))) ∧ Hid (Below w.heap.size w wr)) (fun _ _ _ i _ => n - (intOf i).toNat)
      case atStart => exact ⟨rfl, rfl, 0, [], R, none, 0, Nat.zero_le _, rfl, rfl, rfl, by omega, by show _ = _; cases rdL n R <;> simp, World.ownsRow_nil _ _ _ _, HH0, HH1, HB2⟩
      case round =>
        clear HH0 HH1 HB2 HB1 c0 c1 c1'
        obtain ⟨rfl, -, k, acc, s', va, vc, hk, rfl, rfl, hak, hs', HQ, HW, HH0, HH1, HB⟩ := hrel
        have hsz := HB.out.size
        have hx1 := (heap_at HH1.out).2.2
        by_cases hlk : k < n
        · have dk : decide ((k : Int) < (n : Int)) = true := by simp; omega
          have wk : IntKind.i64.wrap ((k : Int) + 1) = (k : Int) + 1 := wrapI (by omega) (by omega)
          have HRm : Hid (∀ W, Calls Tryd.prog 19 #[.string s'] W fun e w' => e = .returned (.tuple #[mbV (mbM s'), .string (mbR s'), .int .i64 (mbE s')]) ∧ Below W.heap.size W w') := fun W => readMember_any s' W hs'
          have HW3 : Hid (∀ (w2 : World) (x y z : Value), Below (wr.alloc (.cells #[.int .i64 0, .int .i64 0, .bool false] 51)).heap.size (wr.alloc (.cells #[.int .i64 0, .int .i64 0, .bool false] 51)) w2 → (((w2.setCell ⟨wr.heap.size, 0, none⟩ x).setCell ⟨wr.heap.size, 1, none⟩ y).setCell ⟨wr.heap.size, 2, none⟩ z).ownsRow (w1.heap.size + 1) 51 3 (.slice va k vc) k (mCells acc) ∧ (((w2.setCell ⟨wr.heap.size, 0, none⟩ x).setCell ⟨wr.heap.size, 1, none⟩ y).setCell ⟨wr.heap.size, 2, none⟩ z).heap[w.heap.size]? = some (.cells #[.int .i64 0, .slice none 0 0] 24 (0, 0)) ∧ (((w2.setCell ⟨wr.heap.size, 0, none⟩ x).setCell ⟨wr.heap.size, 1, none⟩ y).setCell ⟨wr.heap.size, 2, none⟩ z).heap[w1.heap.size]? = some (.cells #[.int .i64 N, .slice va k vc] 24 (0, 0)) ∧ (((w2.setCell ⟨wr.heap.size, 0, none⟩ x).setCell ⟨wr.heap.size, 1, none⟩ y).setCell ⟨wr.heap.size, 2, none⟩ z).heap[wr.heap.size]? = some (.cells #[x, y, z] 51 (0, 0)) ∧ Below w.heap.size w (((w2.setCell ⟨wr.heap.size, 0, none⟩ x).setCell ⟨wr.heap.size, 1, none⟩ y).setCell ⟨wr.heap.size, 2, none⟩ z)) := fun w2 x y z hb2 => by
            have hA := al_belowV wr (.cells #[.int .i64 0, .int .i64 0, .bool false] 51)
            have hb := hA.trans (hb2.mono hA.size)
            have hq : w2.heap[wr.heap.size]? = some (.cells #[.int .i64 0, .int .i64 0, .bool false] 51 (0, 0)) := (hb2.block _ (by simp)).trans (alloc_top wr _)
            have t1 := setCell_atV w2 0 hq x
            have t2 := setCell_atV _ 1 t1.1 y
            have t3 := setCell_atV _ 2 t2.1 z
            have hne := Q.owns_ne HW.out
            refine ⟨Q.owns_set (Q.owns_set (Q.owns_set (Q.owns_below HW.out hb) hne) hne) hne, ?_, ?_, t3.1, set3_V (HB.out.trans (hb.mono hsz)) hsz _ _ _⟩
            · rw [t3.2 _ (by omega), t2.2 _ (by omega), t1.2 _ (by omega)]
              exact (hb.block _ (by omega)).trans HH0.out
            · rw [t3.2 _ (by omega), t2.2 _ (by omega), t1.2 _ (by omega)]
              exact (hb.block _ (by omega)).trans HH1.out
          have HM3 : Hid (∀ w2 : World, Below (wr.alloc (.cells #[.int .i64 0, .int .i64 0, .bool false] 51)).heap.size (wr.alloc (.cells #[.int .i64 0, .int .i64 0, .bool false] 51)) w2 → w2.heap[wr.heap.size]? = some (.cells #[.int .i64 0, .int .i64 0, .bool false] 51 (0, 0))) := fun w2 hb2 => (hb2.block _ (by simp)).trans (alloc_top wr _)
          have hmr := mbR_size s'
          go_upto_region 8 with fail
          go_cut [5, 6] (fun r e wx => r = .string (mbR s') ∧ e = .int .i64 (mbE s') ∧ Hid (wx.ownsRow (w1.heap.size + 1) 51 3 (.slice va k vc) k (mCells acc)) ∧ Hid (wx.heap[w.heap.size]? = some (.cells #[.int .i64 0, .slice none 0 0] 24 (0, 0))) ∧ Hid (wx.heap[w1.heap.size]? = some (.cells #[.int .i64 N, .slice va k vc] 24 (0, 0))) ∧ Hid (wx.heap[wr.heap.size]? = some (.cells #[.int .i64 (mbM s').nd, .int .i64 (mbM s').lf, .bool (mbM s').up] 51 (0, 0))) ∧ Hid (Below w.heap.size w wx))
          case first =>
            clear HQ HW HH0 HH1 HO
            go_wp2_with fail
            refine (HRm.out _).mono ?_
            rintro e w2 ⟨rfl, hb2⟩
            obtain ⟨⟨y0, y1, y2⟩, f0, f1, f2⟩ := three_M (HM3.out w2 hb2)
            have HF := HW3.out w2 (.int .i64 (mbM s').nd) (.int .i64 (mbM s').lf) (.bool (mbM s').up) hb2
            have HF' : Hid _ := HF
            clear HF hb2 HW3 HM3 HRm
            go_wp2_with fail
            go_meet
            obtain ⟨g1, g2, g3, g4, g5⟩ := HF'.out
            exact ⟨rfl, rfl, g1, g2, g3, g4, g5⟩
          case rest =>
            obtain ⟨rfl, rfl, HW2, HHa, HHb, HHm, HB2⟩ := hcut
            obtain ⟨wd, hwd⟩ : ∃ wd, wd = wc := ⟨_, rfl⟩
            subst hwd
            clear HW HH0 HH1 HW3 HM3 HRm
            obtain ⟨⟨y0, y1, y2⟩, -⟩ := three_M HHm.out
            obtain ⟨x0, x1, f0, f1⟩ := two_V HHa.out
            obtain ⟨z0, z1, g0, g1⟩ := two_V HHb.out
            have hsd := HB2.out.size
            have hxd := (heap_at HHb.out).2.2
            have hxm := (heap_at HHm.out).2.2
            by_cases hm : mbE s' = 0
            · have HQ2 : Hid _ := rdL_more hlk HQ.out hm
              rw [hm]
              have HC : Hid (mCells (acc ++ [mbM s']) = mCells acc ++ [.int .i64 (mbM s').nd, .int .i64 (mbM s').lf, .bool (mbM s').up]) := by show _ = _; rw [mCells_snoc]; rfl
              have hal : (acc ++ [mbM s']).length = k + 1 := by simp [hak]
              generalize hms : mbM s' = m at *
              clear hms HQ hm
              go_wp2_with (at_builtin; go_loud (refine wpl_appV wd rfl (.tmp 47) (.tmp 49) 22 51 rfl i0 _ 3 24 Tryd.underlying22 hi0 hz0 hz1 hz2 rfl (by decide) (w1.heap.size + 1) (.slice va k vc) k (mCells acc) rfl HW2.out [.int .i64 m.nd, .int .i64 m.lf, .bool m.up] rfl _ rfl wd.heap.size rfl rfl (by simp [Value.oneCell']) (by omega) (by unfold maxLen; omega) (by omega) ?_; intro v4 w4 hown4 hb4 hne4; obtain ⟨va4, vc4, rfl⟩ := (IsRow.own hown4).form; have q1 := (hb4.block _ (by omega)).trans HHb.out; have p00 := (heap_at q1).1 1; have p11 := (heap_at q1).2.1 1; simp only [List.getElem?_toArray, List.getElem?_cons_zero, List.getElem?_cons_succ] at p00))
              have q0 : w4.heap[w.heap.size]? = _ := (hb4.block _ (by omega)).trans HHa.out
              have s1 := setCell_atV w4 1 q1 (.slice va4 (k + 1) vc4)
              have HO4 : Hid ((w4.setCell ⟨w1.heap.size, 1, none⟩ (.slice va4 (k + 1) vc4)).ownsRow (w1.heap.size + 1) 51 3 (.slice va4 (k + 1) vc4) (k + 1) (mCells (acc ++ [m]))) := by
                show World.ownsRow _ _ _ _ _ _ _
                rw [HC.out]
                refine hown4.kept (row := some w1.heap.size) ⟨rfl, rfl, rfl, by simp, fun j _ hj => s1.2 j (fun e => hj (by rw [e]))⟩ (.inr ?_)
                intro e
                have := (hown4.lt _ e).1
                omega
              have HH0' : Hid ((w4.setCell ⟨w1.heap.size, 1, none⟩ (.slice va4 (k + 1) vc4)).heap[w.heap.size]? = some (.cells #[.int .i64 0, .slice none 0 0] 24 (0, 0))) := (s1.2 _ (by omega)).trans q0
              have HH1' : Hid ((w4.setCell ⟨w1.heap.size, 1, none⟩ (.slice va4 (k + 1) vc4)).heap[w1.heap.size]? = some (.cells #[.int .i64 N, .slice va4 (k + 1) vc4] 24 (0, 0))) := s1.1
              have HB4 : Hid (Below w.heap.size w (w4.setCell ⟨w1.heap.size, 1, none⟩ (.slice va4 (k + 1) vc4))) := (HB2.out.trans (hb4.mono (by omega))).setCell (p := ⟨w1.heap.size, 1, none⟩) (by show w.heap.size ≤ w1.heap.size; omega) _
              clear hown4 hb4 HC hne4 q0 q1 s1 HHa HHb HHm HW2
              go_wp2
              go_roundw
              case rel => exact ⟨rfl, trivial, k + 1, acc ++ [m], mbR s', va4, vc4, by omega, rfl, by simp, hal, by omega, HQ2, HO4, HH0', HH1', HB4⟩
              case measure => simp [intOf]; omega
            · have nb : (mbE s' != 0) = true := by simpa using hm
              have HN : Hid (rdO s = none) := by show _ = _; rw [HO.out, rdL_no hlk HQ.out hm]; rfl
              generalize mbE s' = E at *
              clear HQ HO hm HHm HHb HHa HW2
              go_wp2
              refine bodyPost_ret (v := .tuple #[vwV 0 (.slice none 0 0), .int .i64 3]) ?_ rfl (by rw [HN.out]; exact rd_none _ _ (set2_V HB2.out (by omega) _ _))
              rw [results_csV rfl]; go_simp
        · obtain rfl : k = n := by omega
          have dk : decide ((k : Int) < (k : Int)) = false := by simp
          have HE : Hid (rdO s = if s'.size = 0 ∧ vB N acc = true then some (N, acc) else none) := by
            show _ = _
            rw [HO.out, HQ.out, Nat.sub_self]
            simp [rdL]
          have hown := HW.out
          have HRw : Hid (IsRow wr 3 (.slice va k vc) acc.length (mCells acc)) := by show IsRow _ _ _ _ _; rw [hak]; exact IsRow.own hown
          obtain ⟨x0, x1, f0, f1⟩ := two_V HH0.out
          obtain ⟨z0, z1, g0, g1⟩ := two_V HH1.out
          clear HO HQ
          by_cases h0 : s'.size = 0
          · obtain rfl : s' = e0 := ByteArray.size_eq_zero_iff.1 h0
            have HCk : Hid (Calls Tryd.prog 12 #[.agg #[.int .i64 N, .slice va k vc]] wr fun e w' => e = .returned (.bool (vB N acc)) ∧ Below wr.heap.size wr w') := check_any N _ acc wr HRw.out (by omega)
            have HF : Hid (∀ w5, Below wr.heap.size wr w5 → (w5.heap[w.heap.size]? = some (.cells #[.int .i64 0, .slice none 0 0] 24 (0, 0)) ∧ w5.heap[w1.heap.size]? = some (.cells #[.int .i64 N, .slice va k vc] 24 (0, 0))) ∧ ∀ x y, IsRow ((w5.setCell ⟨w.heap.size, 0, none⟩ x).setCell ⟨w.heap.size, 1, none⟩ y) 3 (.slice va k vc) acc.length (mCells acc) ∧ Below w.heap.size w ((w5.setCell ⟨w.heap.size, 0, none⟩ x).setCell ⟨w.heap.size, 1, none⟩ y)) := fun w5 h5 => by
              refine ⟨⟨(h5.block _ (by omega)).trans HH0.out, (h5.block _ (by omega)).trans HH1.out⟩, fun x y => ⟨?_, set2_V (HB.out.trans (h5.mono hsz)) (Nat.le_refl _) _ _⟩⟩
              exact ((HRw.out.below h5).far (NewB.own hown) (by omega) _).far (NewB.own hown) (by omega) _
            have HNw : Hid (NewB w.heap.size (.slice va k vc)) := (NewB.own hown).mono (by omega)
            clear hown HW HH0 HH1 HRw
            go_wp2_with fail
            refine HCk.out.mono ?_
            rintro e w5 ⟨rfl, hb5⟩
            obtain ⟨⟨k0, k1⟩, hF⟩ := HF.out w5 hb5
            have HF5 : Hid _ := hF
            clear x0 x1 f0 f1 z0 z1 g0 g1 HF HCk hb5 hF
            obtain ⟨x0, x1, f0, f1⟩ := two_V k0
            obtain ⟨z0, z1, g0, g1⟩ := two_V k1
            clear k0 k1
            cases hv : vB N acc
            · rw [hv] at HE
              have HE2 : Hid (rdO s = none) := HE.out.trans (if_neg (by simp))
              clear HE hv
              go_wp2
              refine bodyPost_ret (v := .tuple #[vwV 0 (.slice none 0 0), .int .i64 3]) ?_ rfl (by rw [HE2.out]; exact rd_none _ _ (HF5.out _ _).2)
              rw [results_csV rfl]; go_simp
            · rw [hv] at HE
              have HE2 : Hid (rdO s = some (N, acc)) := HE.out.trans (if_pos ⟨rfl, rfl⟩)
              clear HE hv
              go_wp2
              refine bodyPost_ret (v := .tuple #[vwV N (.slice va k vc), .int .i64 0]) ?_ rfl (by rw [HE2.out]; exact ⟨_, rfl, (HF5.out _ _).1, HNw.out, (HF5.out _ _).2⟩)
              rw [results_csV rfl]; go_simp
          · have HE2 : Hid (rdO s = none) := HE.out.trans (if_neg (fun h => h0 h.1))
            have hd : s'.data.toList ≠ [] := fun h => h0 (by
              have e : s'.data.toList.length = s'.size := by simp
              rw [h] at e
              exact e.symm)
            have ns : (s'.toList == []) = false := by rw [beq_eq_false_iff_ne, ByteArray.toList_eq]; exact hd
            have ns2 : (s'.toList == (⟨#[]⟩ : ByteArray).toList) = false := by rw [beq_eq_false_iff_ne, ByteArray.toList_eq, ByteArray.toList_eq]; exact hd
            clear hd
            clear HE h0 HW hown HRw
            go_wp2
            refine bodyPost_ret (v := .tuple #[vwV 0 (.slice none 0 0), .int .i64 3]) ?_ rfl (by rw [HE2.out]; exact rd_none _ _ (set2_V HB.out (Nat.le_refl _) _ _))
            rw [results_csV rfl]; go_simp
    · have HO : Hid (rdO s = none) := if_neg (fun h => h15 h.2)
      rw [HO.out]
      have d1 : decide (15 < hdC s) = true := by simp; omega
      clear HO h15 h0
      generalize hdC s = C at *
      generalize hdN s = N at *
      generalize hdR s = R at *
      go_enter Tryd.func6, Tryd.ntmps6
      go_wp2_with fail
      refine HTk.out.mono ?_
      rintro e w1 ⟨v1, rfl, hr1, hb1⟩
      obtain ⟨x0, x1, f0, f1⟩ := two_V (HX.out w1 hb1)
      have HB1 : Hid (Below w.heap.size w w1) := HB0.out.trans (hb1.mono HB0.out.size)
      rcases hr1.2 with ⟨h, -⟩ | ⟨b, off, cap, rfl, hlt, hc1, hc2, hc⟩
      · cases h
      have c1 : w1.cell? ⟨b, off + 3 + 1, none⟩ = some (.int .i64 C) := hc 4 _ rfl
      clear hc hr1 hb1 HTk HX HB0
      go_wp2
      refine bodyPost_ret (v := .tuple #[vwV 0 (.slice none 0 0), .int .i64 3]) ?_ rfl (rd_none _ _ (set2_V HB1.out (by omega) _ _))
      rw [results_csV rfl]; go_simp
  · have HO : Hid (rdO s = none) := if_neg (fun h => h0 h.1)
    rw [HO.out]
    rw [take2_no s h0] at HTk
    have nb : (hdE s != 0) = true := by simpa using h0
    clear HO h0
    generalize hdE s = E at *
    go_enter Tryd.func6, Tryd.ntmps6
    go_wp2_with fail
    refine HTk.out.mono ?_
    rintro e w1 ⟨v1, rfl, hr1, hb1⟩
    obtain ⟨x0, x1, f0, f1⟩ := two_V (HX.out w1 hb1)
    have HB1 : Hid (Below w.heap.size w w1) := HB0.out.trans (hb1.mono HB0.out.size)
    clear hr1 hb1 HTk HX HB0
    go_wp2
    refine bodyPost_ret (v := .tuple #[vwV 0 (.slice none 0 0), .int .i64 3]) ?_ rfl (rd_none _ _ (set2_V HB1.out (by omega) _ _))
    rw [results_csV rfl]; go_simp
end Go.Proofs.YtciibeldmcakeaaDoor
