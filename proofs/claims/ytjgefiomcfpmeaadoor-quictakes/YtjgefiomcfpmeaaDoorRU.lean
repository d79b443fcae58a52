/- The reference's Unlist: its walk. -/
import Derived.Test.YtjgefiomcfpmeaaDoorRT
import Derived.Test.YtjgefiomcfpmeaaDoorL
namespace Go.Proofs.YtjgefiomcfpmeaaDoor
open Go.RowKit

/-- An append of one element; blocks that are not its row stand. -/
theorem wpl_appg {P : Program} (wr : World) {ops : Array Oper} {rest : List Oper} {o : Oper} {a : Act} {Q : Exit → Act → World → Prop} (hgd : o.guard = none) (s x : Operand) (t e : TypeId)
    (ho : o.op = .call { callee := .builtin .append, args := #[s, x], argTypes := #[t, t] })
    (i : TypeInfo) (z : Value) (bytes : Nat) (ht : P.underlying t = some (.slice e)) (hi : P.info? e = some i) (hz : i.zero = some z)
    (hsize : i.size = 1) (hby : i.bytes = bytes) (hzs : z.cells.size = 1)
    (base : Nat) (v : Value) (n : Nat) (xs : List Value) (hs : a.eval s = v) (hown : wr.ownsRow base e 1 v n xs)
    (el : Value) (N : Nat) (hN : N = wr.heap.size) (hx : a.eval x = .slice (some ⟨N, 0, none⟩) 1 1) (h1 : el.oneCell' = true)
    (hbytes : (n + 1) * bytes ≤ 140737488355328) (h63 : n + 1 ≤ maxLen) (hbase : base ≤ wr.heap.size)
    (h : ∀ v' w', w'.ownsRow base e 1 v' (n + 1) (xs ++ [el]) → Below base wr w' → (∀ b, b < wr.heap.size → v.ownBlock ≠ some b → w'.heap[b]? = wr.heap[b]?) → (∃ a c, v' = .slice (some a) (n + 1) c) → wpList P ops Q rest (a.put o.dst v') w') :
    wpList P ops Q (o :: rest) a (wr.alloc (.cells #[el] e)) := by
  subst hN
  refine wpList_append_own _ hgd s x t ho base e i z 1 bytes ht hi hz hsize hby hzs (by omega) v n xs hs (hown.alloc _) ⟨wr.heap.size, 0, none⟩ 1 1 [el] hx rfl ?_ ?_ h63 hbytes ?_ ?_
  · intro j u hj
    match j, hj with
    | 0, hj => simp at hj; subst hj; simp [Addr.add]
  · intro u hu; simp at hu; subst hu; exact h1
  · simp; omega
  · intro v' w' h2 h3 h4
    refine h v' w' h2 ?_ ?_ ?_
    · exact ((Below.refl _ _).alloc hbase _).grown h3 (by simp; omega) (fun k hk => (hown.lt k hk).1)
    · intro b hb hne
      rw [h3.block b (by simp; omega) (fun e => hne e.symm)]
      exact Below.heap_alloc _ _ _ hb
    · rcases h2.2 with ⟨_, h0⟩ | ⟨g, cap, cur, hv, _⟩
      · omega
      · exact ⟨_, _, hv⟩


theorem addr_ne {a b i j : Nat} (h : a ≠ b) : (⟨a, i, none⟩ : Addr) ≠ ⟨b, j, none⟩ := fun e => h (congrArg Addr.block e)
/-- A block's three cells, the first two set. -/
theorem set_two {w : World} {T : Nat} {x y z a b : Value} (c0 : w.cell? ⟨T, 0, none⟩ = some x) (c1 : w.cell? ⟨T, 1, none⟩ = some y) (c2 : w.cell? ⟨T, 2, none⟩ = some z) :
    ((w.setCell ⟨T, 0, none⟩ a).setCell ⟨T, 1, none⟩ b).cell? ⟨T, 0, none⟩ = some a ∧ ((w.setCell ⟨T, 0, none⟩ a).setCell ⟨T, 1, none⟩ b).cell? ⟨T, 1, none⟩ = some b ∧ ((w.setCell ⟨T, 0, none⟩ a).setCell ⟨T, 1, none⟩ b).cell? ⟨T, 2, none⟩ = some z := by
  have d1 : (w.setCell ⟨T, 0, none⟩ a).cell? ⟨T, 1, none⟩ = some y := by rw [World.cell?_setCell_other _ _ _ _ (by simp)]; exact c1
  refine ⟨?_, ?_, ?_⟩
  · rw [World.cell?_setCell_other _ _ _ _ (by simp)]; exact World.cell?_setCell_same _ _ _ c0
  · exact World.cell?_setCell_same _ _ _ d1
  · rw [World.cell?_setCell_other _ _ _ _ (by simp), World.cell?_setCell_other _ _ _ _ (by simp)]; exact c2

/-- What Unlist leaves, in a struct. -/
def RUPost (r : List ByteArray × ByteArray × Int) (w : World) (e : Ending) (w' : World) : Prop :=
  ∃ v, e = .returned (.agg #[v, .string r.2.1, .int .i64 r.2.2]) ∧ IsRow w' 1 v r.1.length (strVals r.1) ∧ Below w.heap.size w w'

set_option maxRecDepth 100000 in
set_option maxHeartbeats 2000000 in
theorem refUnlist_x (s : ByteArray) (w : World) (hs : s.size ≤ 140737488355328) (h0 : getE s = 0) (h1 : ¬ 4096 < getV s) :
    Calls Tryd.prog 18 #[.string s] w fun e w' => RUPost (unlistR s) w e w' := by
  obtain ⟨i0, hi0, hz0, hz1, hz2⟩ := info_parts info_string
  have hv := getV_nn s
  have hr := getRest_size s
  have E : Hid (unlistR s = ul [] (getRest s) (getV s).toNat) := by show _ = _; unfold unlistR; rw [if_neg (by omega), if_neg h1]
  have H0 : Hid (getE s = 0) := h0
  clear h0
  go_enter Tryd.func18, Tryd.ntmps18
  go_wp2_with fail
  refine (refGet_any _ _ hs).mono ?_
  rintro e w1 ⟨rfl, hb1⟩
  obtain ⟨hc, hf, hbl, hz⟩ := part_cells0 hb1
  clear hb1
  rw [H0.out]
  go_wp2_with fail
  go_loopw [5] (fun i wx => ∃ (k : Nat) (acc : List ByteArray) (sj : ByteArray) (v : Value), (k : Int) ≤ getV s ∧ i = .int .i64 k ∧ sj.size ≤ 140737488355328 ∧ acc.length = k ∧ ul acc sj ((getV s).toNat - k) = unlistR s ∧
      wx.cell? ⟨w1.heap.size + 1, 0, none⟩ = some v ∧ wx.cell? ⟨w1.heap.size + 1, 1, none⟩ = some (.string sj) ∧ wx.cell? ⟨w1.heap.size + 1, 2, none⟩ = some (.int .i64 0) ∧ (∀ j, wx.frozen? ⟨w1.heap.size + 1, j, none⟩ = false) ∧
      wx.cell? ⟨w1.heap.size, 0, none⟩ = some (.int .i64 (getV s)) ∧ (∀ j, wx.cell? ⟨w.heap.size, j, none⟩ = #[Value.slice none 0 0, .string ⟨#[]⟩, .int .i64 0][j]?) ∧ (∀ j, wx.frozen? ⟨w.heap.size, j, none⟩ = false) ∧
      wx.ownsRow (w1.heap.size + 2) 9 1 v acc.length (strVals acc) ∧ Below w.heap.size w wx ∧ w1.heap.size + 1 < wx.heap.size) (fun i _ => (getV s).toNat - (intOf i).toNat)
  case atStart =>
    refine ⟨0, [], getRest s, .slice none 0 0, by omega, rfl, by omega, rfl, by rw [E.out]; rfl, by simp, by simp, by simp, ?_, by simp, ?_, ?_, World.ownsRow_nil _ _ _ _, ((hbl.alloc (by omega) _).alloc (by simp; omega) _), by simp⟩
    · intro j; simp
    · intro j
      rw [(((Below.refl w1.heap.size w1).alloc (Nat.le_refl _) _).alloc (by simp) _).cell (p := ⟨w.heap.size, j, none⟩) hz]
      exact hc j
    · intro j
      rw [(((Below.refl w1.heap.size w1).alloc (Nat.le_refl _) _).alloc (by simp) _).frozen (p := ⟨w.heap.size, j, none⟩) hz]
      exact hf j
  case round =>
    obtain ⟨k, acc, sj, v, hk, rfl, hsj, hal, htk, t0, t1, t2, tf, p0, r0, rf, hown, hbx, htz⟩ := hrel
    have HT : Hid (ul acc sj ((getV s).toNat - k) = unlistR s) := htk
    have HAL : Hid (acc.length = k) := hal
    have hal1 : acc.length ≤ 4096 := by omega
    clear htk hal
    have hsx := hbx.size
    by_cases hlt : (k : Int) < getV s
    · have HD : Hid ((getV s).toNat - k = ((getV s).toNat - (k + 1)) + 1) := by show _ = _; omega
      go_wp2_with fail
      refine (refText_any _ _ hsj).mono ?_
      rintro e w2 ⟨rfl, hb2⟩
      have hz2' := hb2.size
      have key : ∀ b j, b < wr.heap.size → (w2.alloc (.cells #[.int .i64 0, .string (ttS sj), .string (ttR sj), .int .i64 (ttE sj)] 71)).cell? ⟨b, j, none⟩ = wr.cell? ⟨b, j, none⟩ := fun b j hb => ((hb2.alloc (by omega) _).cell (p := ⟨b, j, none⟩) hb)
      have keyf : ∀ b j, b < wr.heap.size → (w2.alloc (.cells #[.int .i64 0, .string (ttS sj), .string (ttR sj), .int .i64 (ttE sj)] 71)).frozen? ⟨b, j, none⟩ = wr.frozen? ⟨b, j, none⟩ := fun b j hb => ((hb2.alloc (by omega) _).frozen (p := ⟨b, j, none⟩) hb)
      have own2 := owns_below hown hb2
      have hvne : ∀ b, wr.heap.size ≤ b → v.ownBlock ≠ some b := fun b hb e => by have := (hown.lt _ e).2; omega
      have hvT : v.ownBlock ≠ some (w1.heap.size + 1) := fun e => by have := (hown.lt _ e).1; omega
      have hvR : v.ownBlock ≠ some w.heap.size := fun e => by have := (hown.lt _ e).1; omega
      have hvP : v.ownBlock ≠ some w1.heap.size := fun e => by have := (hown.lt _ e).1; omega
      have HB2 : Hid (Below w.heap.size w w2) := hbx.trans (hb2.mono hsx)
      have s0 := (key (w1.heap.size + 1) 0 htz).trans t0
      have s1 := (key (w1.heap.size + 1) 1 htz).trans t1
      have s2 := (key (w1.heap.size + 1) 2 htz).trans t2
      have sf := fun j => (keyf (w1.heap.size + 1) j htz).trans (tf j)
      have q0 := (key w1.heap.size 0 (by omega)).trans p0
      have x0 := fun j => (key w.heap.size j (by omega)).trans (r0 j)
      have xf := fun j => (keyf w.heap.size j (by omega)).trans (rf j)
      have X : ∀ j, (w2.alloc (.cells #[.int .i64 0, .string (ttS sj), .string (ttR sj), .int .i64 (ttE sj)] 71)).cell? ⟨w2.heap.size, j, none⟩ = #[Value.int .i64 0, .string (ttS sj), .string (ttR sj), .int .i64 (ttE sj)][j]? := fun j => by simp
      have ownX := own2.alloc (.cells #[.int .i64 0, .string (ttS sj), .string (ttR sj), .int .i64 (ttE sj)] 71)
      have HBX : Hid (Below w.heap.size w (w2.alloc (.cells #[.int .i64 0, .string (ttS sj), .string (ttR sj), .int .i64 (ttE sj)] 71))) := HB2.out.alloc (by have := HB2.out.size; omega) _
      have hWs : (w2.alloc (.cells #[.int .i64 0, .string (ttS sj), .string (ttR sj), .int .i64 (ttE sj)] 71)).heap.size = w2.heap.size + 1 := by simp
      clear key keyf own2 hb2 t0 t1 t2 tf p0 r0 rf HB2
      by_cases hte : ttE sj = 0
      · have HN : Hid (ul (acc ++ [ttS sj]) (ttR sj) ((getV s).toNat - (k + 1)) = unlistR s) := by
          show _ = _
          rw [← HT.out, HD.out]
          show _ = (if ttE sj = 0 then _ else _)
          rw [if_pos hte]
        have htr := ttR_size sj
        have hte' : (ttE sj != 0) = false := by rw [hte]; rfl
        have HTE : Hid (ttE sj = 0) := hte
        clear hte
        clear hWs
        go_wp2_with (at_builtin; refine wpl_appg _ rfl (.tmp 38) (.tmp 41) 42 9 rfl i0 (.string ⟨#[]⟩) 16 Tryd.underlying42 hi0 hz0 hz1 hz2 rfl _ v _ _ rfl ownX (.string (ttS sj)) (w2.heap.size + 1) (by simp) rfl rfl (by omega) (by unfold maxLen; omega) (by simp; omega) ?_; intro v3 w3 hown3 hb3 hst3 hform; obtain ⟨g3, c3, rfl⟩ := hform; refine Hid.out ?_)
        have key3 : ∀ b j, b < w2.heap.size + 1 → v.ownBlock ≠ some b → w3.cell? ⟨b, j, none⟩ = (w2.alloc (.cells #[.int .i64 0, .string (ttS sj), .string (ttR sj), .int .i64 (ttE sj)] 71)).cell? ⟨b, j, none⟩ := fun b j hb hn => World.cell?_of_block (a := ⟨b, j, none⟩) (hst3 b (by simpa using hb) hn)
        have key3f : ∀ b j, b < w2.heap.size + 1 → v.ownBlock ≠ some b → w3.frozen? ⟨b, j, none⟩ = (w2.alloc (.cells #[.int .i64 0, .string (ttS sj), .string (ttR sj), .int .i64 (ttE sj)] 71)).frozen? ⟨b, j, none⟩ := fun b j hb hn => World.frozen?_of_block (a := ⟨b, j, none⟩) (hst3 b (by simpa using hb) hn)
        have y0 := (key3 (w1.heap.size + 1) 0 (by omega) hvT).trans s0
        have y1 := (key3 (w1.heap.size + 1) 1 (by omega) hvT).trans s1
        have y2 := (key3 (w1.heap.size + 1) 2 (by omega) hvT).trans s2
        have yf := fun j => (key3f (w1.heap.size + 1) j (by omega) hvT).trans (sf j)
        have z0 := (key3 w1.heap.size 0 (by omega) hvP).trans q0
        have zx := fun j => (key3 w.heap.size j (by omega) hvR).trans (x0 j)
        have zf := fun j => (key3f w.heap.size j (by omega) hvR).trans (xf j)
        have X3 := fun j => (key3 w2.heap.size j (by omega) (hvne _ (by omega))).trans (X j)
        have hz3 := hb3.size
        simp only [World.size_alloc] at hz3
        have HB3 : Hid (Below w.heap.size w w3) := HBX.out.trans (hb3.mono (by omega))
        have HO3 : Hid (w3.ownsRow (w1.heap.size + 2) 9 1 (.slice (some g3) (acc.length + 1) c3) (acc.length + 1) (strVals acc ++ [.string (ttS sj)])) := hown3
        have hne3 : (Value.slice (some g3) (acc.length + 1) c3).ownBlock ≠ some (w1.heap.size + 1) := fun e => by have := (hown3.lt _ e).1; omega
        clear key3 key3f hst3 hb3 hown3 s0 s1 s2 sf q0 x0 xf X ownX HBX hown
        unfold Hid
        go_wp2
        obtain ⟨n0, n1, n2⟩ := set_two (a := .slice (some g3) (acc.length + 1) c3) (b := .string (ttR sj)) y0 y1 y2
        refine ⟨⟨k + 1, acc ++ [ttS sj], ttR sj, .slice (some g3) (acc.length + 1) c3, by omega, by go_num, by omega, by simp [HAL.out], HN.out, n0, n1, n2, fun j => by simpa using yf j, ?_, ?_, fun j => by simpa using zf j, ?_, ?_, by simp; omega⟩, ?_⟩
        · rw [World.cell?_setCell_other _ _ _ _ (addr_ne (by omega)), World.cell?_setCell_other _ _ _ _ (addr_ne (by omega))]; exact z0
        · intro j
          rw [World.cell?_setCell_other _ _ _ _ (addr_ne (by omega)), World.cell?_setCell_other _ _ _ _ (addr_ne (by omega))]; exact zx j
        · have e1 : strVals (acc ++ [ttS sj]) = strVals acc ++ [.string (ttS sj)] := by simp [strVals]
          rw [e1, List.length_append]
          exact owns_set (owns_set HO3.out hne3) hne3
        · exact (HB3.out.setCell (p := ⟨w1.heap.size + 1, 0, none⟩) (by show w.heap.size ≤ w1.heap.size + 1; omega) _).setCell (p := ⟨w1.heap.size + 1, 1, none⟩) (by show w.heap.size ≤ w1.heap.size + 1; omega) _
        · simp [intOf]; omega
      · have HN : Hid ((([] : List ByteArray), (⟨#[]⟩ : ByteArray), ttE sj) = unlistR s) := by
          show _ = _
          rw [← HT.out, HD.out]
          show _ = (if ttE sj = 0 then _ else _)
          rw [if_neg hte]
        have hte' : (ttE sj != 0) = true := by rw [bne_iff_ne]; exact hte
        clear hte hWs
        go_wp2
        refine bodyPost_ret (v := .agg #[.slice none 0 0, .string ⟨#[]⟩, .int .i64 (ttE sj)]) (by simp [results, Tryd.results18, go_sem, x0]) rfl ⟨.slice none 0 0, ?_, ?_, ?_⟩
        · rw [← HN.out]
        · rw [← HN.out]; exact IsRow.nil _ _
        · exact ((HBX.out.setCell (p := ⟨w.heap.size, 0, none⟩) (Nat.le_refl _) _).setCell (p := ⟨w.heap.size, 1, none⟩) (Nat.le_refl _) _).setCell (p := ⟨w.heap.size, 2, none⟩) (Nat.le_refl _) _
    · have HN : Hid ((acc, sj, 0) = unlistR s) := by
        show _ = _
        rw [← HT.out, show (getV s).toNat - k = 0 by omega]
        rfl
      have HO : Hid (wr.ownsRow (w1.heap.size + 2) 9 1 v acc.length (strVals acc)) := hown
      have hvR : v.ownBlock ≠ some w.heap.size := fun e => by have := (hown.lt _ e).1; omega
      obtain ⟨av, cv, rfl⟩ := (IsRow.own hown).form
      clear hown
      go_wp2
      refine bodyPost_ret (v := .agg #[.slice av acc.length cv, .string sj, .int .i64 0]) (by simp [results, Tryd.results18, go_sem, r0]) rfl ⟨.slice av acc.length cv, ?_, ?_, ?_⟩
      · rw [← HN.out]
      · rw [← HN.out]; exact IsRow.own (owns_set (owns_set (owns_set HO.out hvR) hvR) hvR)
      · exact ((hbx.setCell (p := ⟨w.heap.size, 0, none⟩) (Nat.le_refl _) _).setCell (p := ⟨w.heap.size, 1, none⟩) (Nat.le_refl _) _).setCell (p := ⟨w.heap.size, 2, none⟩) (Nat.le_refl _) _

set_option maxRecDepth 100000 in
set_option maxHeartbeats 2000000 in
theorem refUnlist_any (s : ByteArray) (w : World) (hs : s.size ≤ 140737488355328) :
    Calls Tryd.prog 18 #[.string s] w fun e w' => RUPost (unlistR s) w e w' := by
  have hv := getV_nn s
  by_cases h0 : getE s = 0
  · by_cases h1 : 4096 < getV s
    · have E : Hid (unlistR s = ([], ⟨#[]⟩, 2)) := by show _ = _; unfold unlistR; rw [if_neg (by omega), if_pos h1]
      have H0 : Hid (getE s = 0) := h0
      clear h0
      go_enter Tryd.func18, Tryd.ntmps18
      go_wp2_with fail
      refine (refGet_any _ _ hs).mono ?_
      rintro e w1 ⟨rfl, hb1⟩
      obtain ⟨hc, hf, hbl, hz⟩ := part_cells0 hb1
      clear hb1
      rw [H0.out]
      go_wp2
      refine bodyPost_ret (v := .agg #[.slice none 0 0, .string ⟨#[]⟩, .int .i64 2]) (by simp [results, Tryd.results18, go_sem, hc, hz]) rfl ⟨.slice none 0 0, ?_, ?_, ?_⟩
      · rw [E.out]
      · rw [E.out]; exact IsRow.nil _ _
      · repeat (first | exact hbl | refine Below.setCell ?_ (by exact Nat.le_refl _) _ | refine Below.alloc ?_ (by simp; omega) _)
    · exact refUnlist_x s w hs h0 h1
  · have E : Hid (unlistR s = ([], ⟨#[]⟩, getE s)) := by show _ = _; unfold unlistR; rw [if_pos h0]
    have h0' : (getE s != 0) = true := by rw [bne_iff_ne]; exact h0
    clear h0
    go_enter Tryd.func18, Tryd.ntmps18
    go_wp2_with fail
    refine (refGet_any _ _ hs).mono ?_
    rintro e w1 ⟨rfl, hb1⟩
    obtain ⟨hc, hf, hbl, hz⟩ := part_cells0 hb1
    clear hb1
    go_wp2
    refine bodyPost_ret (v := .agg #[.slice none 0 0, .string ⟨#[]⟩, .int .i64 (getE s)]) (by simp [results, Tryd.results18, go_sem, hc, hz]) rfl ⟨.slice none 0 0, ?_, ?_, ?_⟩
    · rw [E.out]
    · rw [E.out]; exact IsRow.nil _ _
    · repeat (first | exact hbl | refine Below.setCell ?_ (by exact Nat.le_refl _) _ | refine Below.alloc ?_ (by simp; omega) _)
end Go.Proofs.YtjgefiomcfpmeaaDoor
