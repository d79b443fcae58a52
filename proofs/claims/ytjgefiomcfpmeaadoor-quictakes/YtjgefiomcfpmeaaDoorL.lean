/- quic.List and quic.Unlist: their walks. -/
import Derived.Test.YtjgefiomcfpmeaaDoorT3
namespace Go.Proofs.YtjgefiomcfpmeaaDoor
open Go.RowKit

def strVals (l : List ByteArray) : List Value := l.map Value.string
theorem strs_at {w : World} {a : Option Addr} {cap : Nat} {l : List ByteArray} (h : IsRow w 1 (.slice a l.length cap) l.length (strVals l)) (i : Nat) (hi : i < l.length) :
    ∃ b off, a = some ⟨b, off, none⟩ ∧ b < w.heap.size ∧ w.cell? ⟨b, off + i, none⟩ = some (.string (l[i]'hi)) := by
  obtain ⟨b, off, cap', hv, hlt, _, _, hc⟩ := h.open (by omega)
  simp only [Value.slice.injEq] at hv
  exact ⟨b, off, hv.1, hlt, hc i _ (by simp [strVals, hi])⟩

/-- A text with its length ahead. -/
def txB (s : ByteArray) : List UInt8 := numL s.size ++ s.data.toList
def okT (s : ByteArray) : Bool := decide (s.size ≤ 65536)
/-- What is gathered of so many texts. -/
def ul : List ByteArray → ByteArray → Nat → List ByteArray × ByteArray × Int
  | acc, s, 0 => (acc, s, 0)
  | acc, s, n + 1 => if ttE s = 0 then ul (acc ++ [ttS s]) (ttR s) n else ([], ⟨#[]⟩, ttE s)
def unlistR (s : ByteArray) : List ByteArray × ByteArray × Int :=
  if getE s ≠ 0 then ([], ⟨#[]⟩, getE s) else if 4096 < getV s then ([], ⟨#[]⟩, 2) else ul [] (getRest s) (getV s).toNat
def UnPost (r : List ByteArray × ByteArray × Int) (w : World) (e : Ending) (w' : World) : Prop :=
  ∃ v, e = .returned (.tuple #[v, .string r.2.1, .int .i64 r.2.2]) ∧ IsRow w' 1 v r.1.length (strVals r.1) ∧ Below w.heap.size w w'
theorem info_string : (Tryd.prog.info? 9).map (fun i => (i.zero, i.size, i.bytes)) = some (some (.string ⟨#[]⟩), 1, 16) := by kernel_rfl

set_option maxRecDepth 100000 in
set_option maxHeartbeats 2000000 in
theorem unlist_any (s : ByteArray) (w : World) (hs : s.size ≤ 140737488355328) :
    Calls Tryd.prog 17 #[.string s] w fun e w' => UnPost (unlistR s) w e w' := by
  obtain ⟨i0, hi0, hz0, hz1, hz2⟩ := info_parts info_string
  have hv := getV_nn s
  have hr := getRest_size s
  by_cases h0 : getE s = 0
  · by_cases h1 : 4096 < getV s
    · have E : Hid (unlistR s = ([], ⟨#[]⟩, 2)) := by show _ = _; unfold unlistR; rw [if_neg (by omega), if_pos h1]
      have H0 : Hid (getE s = 0) := h0
      clear h0
      go_enter Tryd.func17, Tryd.ntmps17
      go_wp2_with fail
      refine (get_any _ _ hs).mono ?_
      rintro e w1 ⟨rfl, hb1⟩
      rw [H0.out]
      go_wp2
      go_ret3
      refine ⟨.slice none 0 0, ?_, ?_, hb1⟩
      · rw [E.out]; rfl
      · rw [E.out]; exact IsRow.nil _ _
    · have E : Hid (unlistR s = ul [] (getRest s) (getV s).toNat) := by show _ = _; unfold unlistR; rw [if_neg (by omega), if_neg h1]
      have H0 : Hid (getE s = 0) := h0
      clear h0
      go_enter Tryd.func17, Tryd.ntmps17
      go_wp2_with fail
      refine (get_any _ _ hs).mono ?_
      rintro e w1 ⟨rfl, hb1⟩
      rw [H0.out]
      have hs1 := hb1.size
      go_wp2_with fail
      go_loopw [0, 2, 4, 19] (fun ss t ee i wx => ∃ (k : Nat) (acc : List ByteArray) (sj : ByteArray), (k : Int) ≤ getV s ∧ i = .int .i64 k ∧ ss = .string sj ∧ sj.size ≤ 140737488355328 ∧ acc.length = k ∧ ul acc sj ((getV s).toNat - k) = unlistR s ∧ wx.ownsRow w1.heap.size 9 1 t acc.length (strVals acc) ∧ Below w1.heap.size w1 wx) (fun _ _ _ i _ => (getV s).toNat - (intOf i).toNat)
      case atStart => exact ⟨0, [], getRest s, by omega, rfl, rfl, by omega, rfl, by rw [E.out]; rfl, World.ownsRow_nil _ _ _ _, Below.refl _ _⟩
      case round =>
        obtain ⟨k, acc, sj, hk, rfl, rfl, hsj, hal, htk, hown, hbx⟩ := hrel
        have HT : Hid (ul acc sj ((getV s).toNat - k) = unlistR s) := htk
        clear htk
        have hsx := hbx.size
        by_cases hlt : (k : Int) < getV s
        · have HD : Hid ((getV s).toNat - k = ((getV s).toNat - (k + 1)) + 1) := by show _ = _; omega
          go_wp2_with fail
          refine (takeText_any _ _ hsj).mono ?_
          rintro e w2 ⟨rfl, hb2⟩
          have hown2 := owns_below hown hb2
          have HS : Hid (Below w1.heap.size w1 w2) := hbx.trans (hb2.mono hsx)
          clear hb2
          by_cases hte : ttE sj = 0
          · have HN : Hid (ul (acc ++ [ttS sj]) (ttR sj) ((getV s).toNat - (k + 1)) = unlistR s) := by
              show _ = _
              rw [← HT.out, HD.out]
              show _ = (if ttE sj = 0 then _ else _)
              rw [if_pos hte]
            have htr := ttR_size sj
            have HZ : Hid (ttE sj = 0) := hte
            clear hte
            rw [HZ.out]
            go_wp2_with (at_builtin; refine wpl_app _ rfl (.tmp 30) (.tmp 32) 42 9 rfl i0 (.string ⟨#[]⟩) 16 Tryd.underlying42 hi0 hz0 hz1 hz2 rfl _ _ _ _ rfl hown2 (.string (ttS sj)) rfl rfl (by omega) (by unfold maxLen; omega) HS.out.size ?_; intro v3 w3 hown3 hb3 _)
            have HO : Hid (w3.ownsRow w1.heap.size 9 1 v3 (acc ++ [ttS sj]).length (strVals (acc ++ [ttS sj]))) := by
              show World.ownsRow _ _ _ _ _ _ _
              have e1 : strVals (acc ++ [ttS sj]) = strVals acc ++ [.string (ttS sj)] := by simp [strVals]
              rw [e1, List.length_append]
              exact hown3
            have HB3 : Hid (Below w1.heap.size w1 w3) := HS.out.trans hb3
            refine ⟨⟨k + 1, acc ++ [ttS sj], ttR sj, by omega, by go_num, rfl, by omega, by simp [hal], HN.out, HO.out, HB3.out⟩, ?_⟩
            simp [intOf]; omega
          · have HN : Hid ((([] : List ByteArray), (⟨#[]⟩ : ByteArray), ttE sj) = unlistR s) := by
              show _ = _
              rw [← HT.out, HD.out]
              show _ = (if ttE sj = 0 then _ else _)
              rw [if_neg hte]
            have hte' : (ttE sj != 0) = true := by rw [bne_iff_ne]; exact hte
            have HF : Hid (Below w.heap.size w w2) := hb1.trans (HS.out.mono hs1)
            clear hte
            go_wp2
            go_ret3
            refine ⟨.slice none 0 0, ?_, ?_, HF.out⟩
            · rw [← HN.out]; rfl
            · rw [← HN.out]; exact IsRow.nil _ _
        · have HN : Hid ((acc, sj, 0) = unlistR s) := by
            show _ = _
            rw [← HT.out, show (getV s).toNat - k = 0 by omega]
            rfl
          have HF : Hid (Below w.heap.size w wr) := hb1.trans (hbx.mono hs1)
          have HO : Hid (IsRow wr 1 u2 acc.length (strVals acc)) := IsRow.own hown
          clear hown
          go_wp2
          go_ret3
          refine ⟨u2, ?_, ?_, HF.out⟩
          · rw [← HN.out]; rfl
          · rw [← HN.out]; exact HO.out
  · have E : Hid (unlistR s = ([], ⟨#[]⟩, getE s)) := by show _ = _; unfold unlistR; rw [if_pos h0]
    have h0' : (getE s != 0) = true := by rw [bne_iff_ne]; exact h0
    clear h0
    go_enter Tryd.func17, Tryd.ntmps17
    go_wp2_with fail
    refine (get_any _ _ hs).mono ?_
    rintro e w1 ⟨rfl, hb1⟩
    go_wp2
    go_ret3
    refine ⟨.slice none 0 0, ?_, ?_, hb1⟩
    · rw [E.out]; rfl
    · rw [E.out]; exact IsRow.nil _ _

theorem allt_take {l : List ByteArray} {k : Nat} (h : k < l.length) (h1 : (l.take k).all okT = true) (h2 : okT (l[k]'h) = true) : (l.take (k + 1)).all okT = true := by
  rw [List.take_succ_eq_append_getElem h, List.all_append, h1]
  simp [h2]
theorem txB_len (s : ByteArray) (h : okT s = true) : (txB s).length ≤ 65544 := by
  have hq : (numL s.size).length ≤ 8 := by have := num_size_le s.size; have := strOfNums_len s.size; have := numL_len s.size; omega
  have hh := of_decide_eq_true h
  unfold txB
  rw [List.length_append]
  have e : s.data.toList.length = s.size := by simp
  omega
theorem flatT_len (l : List ByteArray) (h : l.all okT = true) : (l.flatMap txB).length ≤ l.length * 65544 := by
  induction l with
  | nil => simp
  | cons x l ih =>
    simp only [List.all_cons, Bool.and_eq_true] at h
    have h1 := txB_len x h.1
    have h2 := ih h.2
    simp only [List.flatMap_cons, List.length_append, List.length_cons]
    omega
theorem allt_take' (l : List ByteArray) (k : Nat) (h : l.all okT = true) : (l.take k).all okT = true := by
  rw [List.all_eq_true] at h ⊢
  exact fun x hx => h x (List.mem_of_mem_take hx)

set_option maxHeartbeats 1000000 in
theorem list_bad (v : Value) (l : List ByteArray) (w : World) (h : IsRow w 1 v l.length (strVals l)) (hl : l.length ≤ 4096) (hs : ∀ x ∈ l, x.size ≤ 140737488355328) (hbad : l.all okT = false) :
    Calls Tryd.prog 15 #[v] w fun e w' => e = .returned (.tuple #[.string ⟨#[]⟩, .int .i64 2]) ∧ Below w.heap.size w w' := by
  obtain ⟨a0, cap0, rfl⟩ := h.form
  have hl' : ¬ (4096 : Int) < l.length := by omega
  have HB : Hid (l.all okT = false) := hbad
  clear hbad
  go_enter Tryd.func15, Tryd.ntmps15
  go_wp2
  go_loopw [14] (fun i wr => ∃ k : Nat, k ≤ l.length ∧ i = .int .i64 k ∧ (l.take k).all okT = true ∧ Below w.heap.size w wr) (fun i _ => l.length - (intOf i).toNat)
  case atStart => exact ⟨0, Nat.zero_le _, rfl, rfl, Below.refl _ _⟩
  case round =>
    obtain ⟨k, hk, rfl, hall, hb⟩ := hrel
    have HA : Hid ((l.take k).all okT = true) := hall
    clear hall
    by_cases hlt : k < l.length
    · obtain ⟨b, off, rfl, hbl, c0⟩ := strs_at (h.below hb) k hlt
      have hi : (k : Int) < l.length := by omega
      have hxs := hs _ (List.getElem_mem hlt)
      by_cases hm : l[k].size ≤ 65536
      · have HN : Hid ((l.take (k + 1)).all okT = true) := allt_take hlt HA.out (by simp [okT, hm])
        have hm' : ¬ (65536 : Int) < l[k].size := by omega
        go_wp2
        go_roundw
        case rel => exact ⟨k + 1, by omega, by go_num, HN.out, hb⟩
        case measure => simp [intOf]; omega
      · have hm' : (65536 : Int) < l[k].size := by omega
        go_wp2
        go_ret2
        exact ⟨rfl, hb⟩
    · exfalso
      have e : l.take k = l := List.take_of_length_le (by omega)
      have h1 := HA.out
      rw [e, HB.out] at h1
      cases h1

set_option maxRecDepth 100000 in
set_option maxHeartbeats 2000000 in
theorem list_ok (v : Value) (l : List ByteArray) (w : World) (h : IsRow w 1 v l.length (strVals l)) (hT : Tab w) (hl : l.length ≤ 4096) (hok : l.all okT = true) :
    Calls Tryd.prog 15 #[v] w fun e w' => e = .returned (.tuple #[.string ⟨(numL l.length ++ l.flatMap txB).toArray⟩, .int .i64 0]) ∧ Below w.heap.size w w' := by
  obtain ⟨a0, cap0, rfl⟩ := h.form
  have hl' : ¬ (4096 : Int) < l.length := by omega
  have HB : Hid (l.all okT = true) := hok
  clear hok
  have hw1 := hT.size
  go_enter Tryd.func15, Tryd.ntmps15
  go_wp2
  go_loopw [14] (fun i wr => ∃ k : Nat, k ≤ l.length ∧ i = .int .i64 k ∧ Below w.heap.size w wr) (fun i _ => l.length - (intOf i).toNat)
  case atStart => exact ⟨0, Nat.zero_le _, rfl, Below.refl _ _⟩
  case round =>
    obtain ⟨k, hk, rfl, hb⟩ := hrel
    by_cases hlt : k < l.length
    · obtain ⟨b, off, rfl, hbl, c0⟩ := strs_at (h.below hb) k hlt
      have hi : (k : Int) < l.length := by omega
      have hm : l[k].size ≤ 65536 := of_decide_eq_true (List.all_eq_true.1 HB.out _ (List.getElem_mem hlt))
      have hm' : ¬ (65536 : Int) < l[k].size := by omega
      go_wp2
      go_roundw
      case rel => exact ⟨k + 1, by omega, by go_num, hb⟩
      case measure => simp [intOf]; omega
    · have hk' : k = l.length := by omega
      subst hk'
      obtain ⟨W1, rfl⟩ : ∃ W1, W1 = wr := ⟨_, rfl⟩
      have hT1 := hT.below hb hw1
      have hr1 := h.below hb
      have hs1 := hb.size
      have hnz := num_size_le l.length
      go_wp2_with fail
      refine (num_any _ _ (Tab_alloc hT1 _)).mono ?_
      rintro e w2 ⟨rfl, hb2⟩
      have hI2 : IsB W1.heap.size W1.heap.size [] w2 := IsB_below (Lib.IsBuilderF.of (Lib.fresh_isBuilder _ _ W1)) hb2
      have hz2 := hb2.size
      simp only [World.size_alloc] at hz2
      have HB2 : Hid (Below W1.heap.size W1 w2) := ((Below.refl _ _).alloc (Nat.le_refl _) _).trans (hb2.mono (by simp))
      clear hb2
      go_wp2_with fail
      refine (writeString_any W1.heap.size W1.heap.size _ _ _ hI2 (by simp; omega) (by omega)).mono ?_
      rintro e w3 ⟨rfl, hI3, hb3⟩
      rw [List.nil_append, strCells_num] at hI3
      have HB3 : Hid (Below W1.heap.size W1 w3) := HB2.out.trans hb3
      have HI3 : Hid (IsB W1.heap.size W1.heap.size (Lib.byteCells (numL l.length)) w3) := hI3
      have hz3 := hb3.size
      clear hI2 hI3 hb3
      go_wp2_with fail
      go_loopw [28] (fun i wx => ∃ k : Nat, k ≤ l.length ∧ i = .int .i64 k ∧ IsB W1.heap.size W1.heap.size (Lib.byteCells (numL l.length ++ (l.take k).flatMap txB)) wx ∧ Below W1.heap.size W1 wx) (fun i _ => l.length - (intOf i).toNat)
      case atStart => exact ⟨0, Nat.zero_le _, rfl, by simpa using HI3.out, HB3.out⟩
      case round =>
        obtain ⟨k, hk, rfl, hI, hbx⟩ := hrel
        have hsx := hbx.size
        by_cases hlt : k < l.length
        · obtain ⟨b, off, rfl, hbl, c0⟩ := strs_at (hr1.below hbx) k hlt
          have hi : (k : Int) < l.length := by omega
          have hm : l[k].size ≤ 65536 := of_decide_eq_true (List.all_eq_true.1 HB.out _ (List.getElem_mem hlt))
          have hfl := flatT_len (l.take k) (allt_take' l k HB.out)
          have hlk : (l.take k).length ≤ 4096 := by simp; omega
          have hnl : (numL l.length).length ≤ 8 := by have := strOfNums_len l.length; have := numL_len l.length; omega
          have HF : Hid ((numL l.length ++ (l.take k).flatMap txB) ++ (numL l[k].size ++ l[k].data.toList) = numL l.length ++ (l.take (k + 1)).flatMap txB) := by
            show _ = _
            rw [List.take_succ_eq_append_getElem hlt, List.flatMap_append, List.append_assoc]
            simp [txB]
          have hTx := hT1.below hbx hT1.size
          go_wp2_with fail
          refine (putText_any W1.heap.size W1.heap.size _ _ _ hI hTx (by rw [List.length_append]; omega) (by omega)).mono ?_
          rintro e w4 ⟨rfl, h4, hb4⟩
          have H4 : Hid (IsB W1.heap.size W1.heap.size (Lib.byteCells (numL l.length ++ (l.take (k + 1)).flatMap txB)) w4) := by rw [← HF.out]; exact h4
          have hbb : Hid (Below W1.heap.size W1 w4) := hbx.trans hb4
          clear c0 h4 hb4 hI hTx hfl
          go_wp2
          go_roundw
          case rel => exact ⟨k + 1, by omega, by go_num, H4.out, hbb.out⟩
          case measure => simp [intOf]; omega
        · have hk' : k = l.length := by omega
          subst hk'
          have e : l.take l.length = l := List.take_of_length_le (Nat.le_refl _)
          rw [e] at hI
          have hbf : Hid (Below w.heap.size w wr) := hb.trans (hbx.mono hs1)
          go_wp2_with fail
          refine (Tryd.Builder_String_any_k W1.heap.size W1.heap.size (numL l.length ++ l.flatMap txB) _ hI (by omega)).mono ?_
          rintro e w5 ⟨rfl, h5, hb5, _⟩
          have hfin : Hid (Below w.heap.size w w5) := hbf.out.trans (hb5.mono hs1)
          clear h5 hb5 hI hbf
          go_wp2
          go_ret2
          exact ⟨rfl, hfin.out⟩
end Go.Proofs.YtjgefiomcfpmeaaDoor
