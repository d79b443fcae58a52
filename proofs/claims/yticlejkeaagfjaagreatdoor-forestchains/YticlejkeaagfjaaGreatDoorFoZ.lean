/- ForestGrows: its walk. -/
import Derived.Test.YticlejkeaagfjaaGreatDoorZh
namespace Go.Proofs.YticlejkeaagfjaaGreatDoor
open Go.RowKit Go.ChangeMaps

/-- A draft, and where its fields lie. -/
structure LD where
  n : ByteArray
  p : ByteArray
  own : List Fd
  ao : Option Addr
  co : Nat
  a : Int
  b : Int
  c : Int
abbrev LD.vo (x : LD) : Value := .slice x.ao x.own.length x.co
def enDr (x : LD) : List Value := [.string x.n, .string x.p, x.vo, .int .i64 x.a, .int .i64 x.b, .int .i64 x.c]
abbrev ldA (x : LD) : Array Value := #[.string x.n, .string x.p, x.vo, .int .i64 x.a, .int .i64 x.b, .int .i64 x.c]
abbrev ldV (x : LD) : Value := .agg (ldA x)
def dCells (D : List LD) : List Value := D.flatMap enDr
def IsDs (w : World) (v : Value) (D : List LD) : Prop := IsRow w 6 v D.length (dCells D) ∧ ∀ x ∈ D, IsRow w 3 x.vo x.own.length (fCells x.own)
theorem IsDs.below {w w' : World} {v : Value} {D : List LD} (h : IsDs w v D) (hb : Below w.heap.size w w') : IsDs w' v D := ⟨h.1.below hb, fun x hx => (h.2 x hx).below hb⟩
theorem dCells_get : ∀ (L : List LD) (k : Nat) (hk : k < L.length) (j : Nat), j < 6 → (dCells L)[k * 6 + j]? = (enDr L[k])[j]?
  | [], k, hk, _, _ => absurd hk (by simp)
  | d :: L, 0, _, j, hj => by
    unfold dCells
    rw [List.flatMap_cons, Nat.zero_mul, Nat.zero_add, List.getElem?_append_left (by exact hj)]
    rfl
  | d :: L, k + 1, hk, j, hj => by
    have ih := dCells_get L k (by simpa using hk) j hj
    unfold dCells at *
    rw [List.flatMap_cons, show (k + 1) * 6 + j = 6 + (k * 6 + j) by omega, List.getElem?_append_right (by show 6 ≤ _; omega), show 6 + (k * 6 + j) - (enDr d).length = k * 6 + j by show 6 + (k * 6 + j) - 6 = _; omega, ih]
    simp
theorem d_at {w : World} {a : Option Addr} {n cap : Nat} {L : List LD} (h : IsRow w 6 (.slice a n cap) L.length (dCells L)) (h0 : 0 < L.length) :
    ∃ b off, a = some ⟨b, off, none⟩ ∧ b < w.heap.size ∧ n = L.length ∧ L.length ≤ cap ∧ ∀ (k : Nat) (hk : k < L.length), w.cell? ⟨b, off + k * 6, none⟩ = some (.string L[k].n) ∧ w.cell? ⟨b, off + k * 6 + 1, none⟩ = some (.string L[k].p) ∧ w.cell? ⟨b, off + k * 6 + 2, none⟩ = some L[k].vo ∧ w.cell? ⟨b, off + k * 6 + 3, none⟩ = some (.int .i64 L[k].a) ∧ w.cell? ⟨b, off + k * 6 + 4, none⟩ = some (.int .i64 L[k].b) ∧ w.cell? ⟨b, off + k * 6 + 5, none⟩ = some (.int .i64 L[k].c) := by
  obtain ⟨b, off, cap', hv, hlt, q1, q2, hc⟩ := h.open (by omega)
  simp only [Value.slice.injEq] at hv
  have key : ∀ (k : Nat) (hk : k < L.length) (j : Nat) (u : Value), j < 6 → (enDr L[k])[j]? = some u → w.cell? ⟨b, off + k * 6 + j, none⟩ = some u := fun k hk j u hj hu => by
    have := hc (k * 6 + j) u (by rw [dCells_get L k hk j hj]; exact hu)
    rwa [← Nat.add_assoc] at this
  refine ⟨b, off, hv.1, hlt, hv.2.1, by omega, fun k hk => ⟨?_, ?_, ?_, ?_, ?_, ?_⟩⟩
  · have := key k hk 0 _ (by omega) rfl
    simpa using this
  · exact key k hk 1 _ (by omega) rfl
  · exact key k hk 2 _ (by omega) rfl
  · exact key k hk 3 _ (by omega) rfl
  · exact key k hk 4 _ (by omega) rfl
  · exact key k hk 5 _ (by omega) rfl
def fewD (x : LD) : Bool := decide (x.n.size ≤ 200) && (decide (x.p.size ≤ 200) && fewF x.own)
set_option maxRecDepth 100000 in
set_option maxHeartbeats 2000000 in
theorem fewD_any (x : LD) (w : World) (hr : IsRow w 3 x.vo x.own.length (fCells x.own)) (hl : x.own.length ≤ 140737488355328) :
    Calls Tryz.prog 9 #[ldV x] w fun e w' => e = .returned (.bool (fewD x)) ∧ Below w.heap.size w w' := by
  have HB : Hid (Below w.heap.size w (w.alloc (.cells (ldA x) 28))) := al_b w _
  have HF : Hid (Calls Tryz.prog 39 #[x.vo] (w.alloc (.cells (ldA x) 28)) fun e w' => e = .returned (.bool (fewF x.own)) ∧ w' = w.alloc (.cells (ldA x) 28)) := fewF_any _ x.own _ (hr.below HB.out) hl
  have HD : Hid (fewD x = (decide (x.n.size ≤ 200) && (decide (x.p.size ≤ 200) && fewF x.own))) := rfl
  generalize fewD x = R at *
  generalize fewF x.own = F at *
  clear hr
  by_cases h1 : x.n.size ≤ 200
  · have d1 : decide ((x.n.size : Int) ≤ 200) = true := decide_eq_true (by omega)
    have d1' : decide (x.n.size ≤ 200) = true := decide_eq_true h1
    by_cases h2 : x.p.size ≤ 200
    · have d2 : decide ((x.p.size : Int) ≤ 200) = true := decide_eq_true (by omega)
      have d2' : decide (x.p.size ≤ 200) = true := decide_eq_true h2
      have hR : R = F := by rw [HD.out, d1', d2', Bool.true_and, Bool.true_and]
      subst hR
      clear HD
      go_enter Tryz.func9, Tryz.ntmps9
      go_wp2_with fail
      refine HF.out.mono ?_
      rintro e w1 ⟨rfl, h⟩
      obtain rfl := h.symm
      go_wp2
      go_ret
      exact ⟨rfl, HB.out⟩
    · have d2 : decide ((x.p.size : Int) ≤ 200) = false := decide_eq_false (by omega)
      have d2' : decide (x.p.size ≤ 200) = false := decide_eq_false h2
      have hR : R = false := by rw [HD.out, d2', Bool.false_and, Bool.and_false]
      subst hR
      clear HD HF
      go_enter Tryz.func9, Tryz.ntmps9
      go_wp2
      go_ret
      exact ⟨rfl, HB.out⟩
  · have d1 : decide ((x.n.size : Int) ≤ 200) = false := decide_eq_false (by omega)
    have d1' : decide (x.n.size ≤ 200) = false := decide_eq_false h1
    have hR : R = false := by rw [HD.out, d1', Bool.false_and]
    subst hR
    clear HD HF
    go_enter Tryz.func9, Tryz.ntmps9
    go_wp2
    go_ret
    exact ⟨rfl, HB.out⟩
theorem fewD_ok {x : LD} (h : fewD x = true) : x.n.size ≤ 1000000 ∧ x.p.size ≤ 1000000 ∧ x.own.length ≤ 1000 ∧ NmF x.own := by
  unfold fewD at h
  simp only [Bool.and_eq_true, decide_eq_true_eq] at h
  obtain ⟨h1, h2, h3⟩ := h
  unfold fewF at h3
  rw [decide_eq_true_eq] at h3
  refine ⟨by omega, by omega, ?_, fun y hy => ?_⟩
  · rcases Nat.lt_or_ge 1000 x.own.length with hl | hl
    · have := (h3 1000 hl).1
      omega
    · exact hl
  · obtain ⟨k, hk, rfl⟩ := List.mem_iff_getElem.1 hy
    have := (h3 k hk).2
    omega
theorem chk_sm {t : Ty} (h : chkT t = true) : SmT t := by
  obtain ⟨-, h8, -, -, hr⟩ := (chkT_iff t).1 h
  unfold chkR at hr
  simp only [Bool.and_eq_true] at hr
  have l : ∀ l : List Fd, chkF l = true → l.length ≤ 24 := fun l h => by
    unfold chkF at h
    rw [Bool.and_eq_true] at h
    exact of_decide_eq_true h.1
  exact ⟨by have := l _ hr.2.1; omega, by have := l _ hr.2.2.1; omega, by omega⟩
theorem nm_root {s : ByteArray} {own : List Fd} {a b c : Int} (hs : s.size ≤ 1000000) (hn : NmF own) (hl : own.length ≤ 1000000) : NmT ⟨s, ⟨#[]⟩, own, own, [s], a, b, c⟩ where
  n := hs
  p := by show (0 : Nat) ≤ _; omega
  c := fun u hu => by obtain rfl := List.mem_singleton.1 hu; exact hs
  o := hn
  a := hn
  lo := hl
  la := hl
  lc := by simp
theorem nm_make {l : List Ty} {s p : ByteArray} {own : List Fd} {a b c : Int} {t : Ty} (h : mkR l s p own a b c = (t, 0)) (hl : ∀ u ∈ l, NmT u) (hs : s.size ≤ 1000000) (hn : NmF own) (ho : own.length ≤ 1000000) : NmT t := by
  have hck := (make_can h).2.2.1
  unfold mkR at h
  split at h
  · split at h
    · split at h
      · exact absurd (Prod.mk.inj h).2 (by decide)
      · split at h
        · obtain ⟨rfl, -⟩ := root_chk h
          exact nm_root hs hn ho
        · split at h
          · exact absurd (Prod.mk.inj h).2 (by decide)
          · rename_i o hp
            have hO := hl o (parN_some hp).1
            obtain ⟨rfl, -⟩ := bel_chk h
            have sm := chk_sm hck
            exact ⟨hs, hO.n, fun u hu => (List.mem_cons.1 hu).elim (fun e => by rw [e]; exact hs) (hO.c u), hn, fun u hu => (mgL_mem hu).elim (hO.a u) (hn u), ho, by have := sm.2.1; omega, by have := sm.2.2; omega⟩
    · rename_i hc
      exact absurd (Prod.mk.inj h).2 hc
  · exact absurd (Prod.mk.inj h).2 (by decide)
/-- What holds behind so many drafts. -/
def GrI (k : Nat) (K : List LT) (v : Value) (wr : World) : Prop := IsTys wr v K ∧ isB (tys K) = true ∧ NmL K ∧ K.length ≤ k
theorem GrI.sm {k : Nat} {K : List LT} {v : Value} {wr : World} (h : GrI k K v wr) : SmL K := fun x hx => chk_sm (((isB_iff _).1 h.2.1).2.1 _ (List.mem_map.2 ⟨x, hx, rfl⟩))
theorem GrI.below {k : Nat} {K : List LT} {v : Value} {wr w' : World} (h : GrI k K v wr) (hb : Below wr.heap.size wr w') : GrI k K v w' := ⟨h.1.below hb, h.2.1, h.2.2.1, h.2.2.2⟩
/-- One more is made and added. -/
theorem grow_step {wr w' : World} {k : Nat} {K K' : List LT} {v v' : Value} {s p : ByteArray} {own : List Fd} {a b c : Int} {t : Ty} (hG : GrI k K v wr) (h20 : k < 20) (hm : mkR (tys K) s p own a b c = (t, 0)) (hs : s.size ≤ 1000000) (hn : NmF own) (ho : own.length ≤ 1000) (hK : tys K' = (addR (tys K) t).1) (hI : IsTys w' v' K') :
    (addR (tys K) t).2 = 0 ∧ chkT t = true ∧ isB (tys K') = true ∧ K'.length = K.length + 1 ∧ parN (tys K') s = some t ∧ GrI (k + 1) K' v' w' := by
  obtain ⟨g1, g2, g3, g4⟩ := hG
  obtain ⟨m1, rfl, m2⟩ := make_can hm
  obtain ⟨c1, c2, c3, c4⟩ := add_can m1 m2 (by rw [tys_len]; omega)
  have hnt : NmT t := nm_make hm (fun u hu => by obtain ⟨x, hx, rfl⟩ := List.mem_map.1 hu; exact g3 x hx) hs hn (by omega)
  rw [c1] at hK
  have hlen : K'.length = K.length + 1 := by rw [← tys_len, hK, c3, tys_len]
  refine ⟨by rw [c1], m2.1, by rw [hK]; exact c2, hlen, by rw [hK]; exact c4, hI, by rw [hK]; exact c2, fun x hx => ?_, by omega⟩
  have hx' : x.t ∈ tys K' := List.mem_map.2 ⟨x, hx, rfl⟩
  rw [hK] at hx'
  rcases insT_mem.1 hx' with e | e
  · rw [e]; exact hnt
  · obtain ⟨z, hz, e⟩ := List.mem_map.1 e
    rw [← e]
    exact g3 z hz
theorem BxT.below {g : Nat} {t : Ty} {vo va vc : Value} {w w' : World} (h : BxT g t vo va vc w) (hb : Below w.heap.size w w') (hg : g < w.heap.size) : BxT g t vo va vc w' := by
  have q : ∀ j, w'.cell? ⟨g, j, none⟩ = w.cell? ⟨g, j, none⟩ := fun j => hb.cell (p := ⟨g, j, none⟩) hg
  obtain ⟨⟨c0, c1, c2, c3⟩, c4, c5, c6, c7⟩ := h
  exact ⟨⟨(q 0).trans c0, (q 1).trans c1, (q 2).trans c2, (q 3).trans c3⟩, (q 4).trans c4, (q 5).trans c5, (q 6).trans c6, (q 7).trans c7⟩
theorem nmZ : NmT zT := ⟨by decide, by decide, (fun s hs => nomatch hs), (fun s hs => nomatch hs), (fun s hs => nomatch hs), by decide, by decide, by decide⟩
/-- Behind the call of Make. -/
def CtG (w1 : World) (R : Ty × Int) (v6 v7 : Value) (wx : World) : Prop := ∃ (g : Nat) (y : LT), v6 = .pointer (some ⟨g, 0, none⟩) ∧ v7 = .int .i64 R.2 ∧ Hid (y.t = R.1) ∧ Hid (IsTy wx y.t y.vo y.va y.vc) ∧ Hid (BxT g y.t y.vo y.va y.vc wx) ∧ Hid (g < wx.heap.size) ∧ Hid (Below w1.heap.size w1 wx)
theorem CtG.A {w1 w3 : World} {R : Ty × Int} {y : LT} (hyt : Hid (y.t = R.1)) (hyI : IsTy w3 y.t y.vo y.va y.vc) (hB3 : Below w1.heap.size w1 w3) : CtG w1 R (.pointer (some ⟨w3.heap.size, 0, none⟩)) (.int .i64 R.2) (w3.alloc (.cells (tyA y.t y.vo y.va y.vc) 32)) := by
  have hn : (w3.alloc (.cells (tyA y.t y.vo y.va y.vc) 32)).heap[w3.heap.size]? = some (.cells (tyA y.t y.vo y.va y.vc) 32 (0, 0)) := new_at w3 _
  exact ⟨_, y, rfl, rfl, hyt, hyI.below (al_b w3 _), BxT.of hn, (Array.getElem?_eq_some_iff.1 hn).1, hB3.trans ((al_b w3 _).mono hB3.size)⟩
theorem CtG.B {w1 w3 : World} {R : Ty × Int} {y : LT} {g base : Nat} (hyt : Hid (y.t = R.1)) (hyI : IsTy w3 y.t y.vo y.va y.vc) (hyN : NewT base y) (hg : g < base) (hx : BxT g zT (.slice none 0 0) (.slice none 0 0) (.slice none 0 0) w3) (hl : g < w3.heap.size) (hw : w1.heap.size ≤ g) (hB3 : Below w1.heap.size w1 w3) : CtG w1 R (.pointer (some ⟨g, 0, none⟩)) (.int .i64 R.2) ((((((((w3.setCell ⟨g, 0, none⟩ (.string y.t.n)).setCell ⟨g, 1, none⟩ (.string y.t.p)).setCell ⟨g, 2, none⟩ y.vo).setCell ⟨g, 3, none⟩ y.va).setCell ⟨g, 4, none⟩ y.vc).setCell ⟨g, 5, none⟩ (.int .i64 y.t.nd)).setCell ⟨g, 6, none⟩ (.int .i64 y.t.lf)).setCell ⟨g, 7, none⟩ (.int .i64 y.t.sq)) :=
  ⟨g, y, rfl, rfl, hyt, ty_far8 hyI hyN hg _ _ _ _ _ _ _ _, hx.put8 y.t _ _ _, by simpa [Hid] using hl, below8 hB3 hw _ _ _ _ _ _ _ _⟩
set_option maxRecDepth 100000 in
set_option maxHeartbeats 8000000 in
theorem forestGrows_walk (v : Value) (D : List LD) (w : World) (hr : IsDs w v D) (hol : ∀ x ∈ D, x.own.length ≤ 140737488355328) (hW : W3 w) :
    Calls Tryz.prog 3 #[v] w fun e w' => e = .returned (.bool true) ∧ Below w.heap.size w w' := by
  obtain ⟨a0, cap0, rfl⟩ := hr.1.form
  have HR : Hid (∀ W, Below w.heap.size w W → IsDs W (.slice a0 D.length cap0) D) := fun W h => hr.below h
  have HW : Hid (∀ W, Below w.heap.size w W → W3 W) := fun W h => hW.below h
  have HFw : Hid (∀ (k : Nat) (hk : k < D.length) W, Below w.heap.size w W → Calls Tryz.prog 9 #[ldV D[k]] W fun e w' => e = .returned (.bool (fewD D[k])) ∧ Below W.heap.size W w') := fun k hk W h => fewD_any D[k] W ((hr.2 _ (List.getElem_mem hk)).below h) (hol _ (List.getElem_mem hk))
  have HAw : Hid (∀ W, Below w.heap.size w W → Calls Tryz.prog 16 #[] W fun e w' => e = .returned (.bool true) ∧ Below W.heap.size W w') := fun W h => awake5_any W (HW.out W h)
  have HI0 : Hid (GrI 0 [] (.slice none 0 0) w) := ⟨⟨IsRow.nil _ _, fun x hx => nomatch hx⟩, by kernel_rfl, (fun x hx => nomatch hx), Nat.le_refl _⟩
  clear hr hol hW
  go_enter Tryz.func3, Tryz.ntmps3
  go_wp2_with fail
  go_loopw [3, 4, 5, 6, 7, 8, 9, 10, 11] (fun o n i _ _ _ _ _ _ wr => ∃ (k : Nat) (K : List LT) (sa : Option Addr) (sc : Nat), k ≤ 20 ∧ o = .slice sa K.length sc ∧ n = .int .i64 (K.length : Int) ∧ i = .int .i64 (k : Int) ∧ Hid (GrI k K (.slice sa K.length sc) wr) ∧ Hid (Below w.heap.size w wr)) (fun _ _ i _ _ _ _ _ _ _ => 20 - (intOf i).toNat)
  case atStart => exact ⟨0, [], none, 0, Nat.zero_le _, rfl, rfl, rfl, HI0, Below.refl _ _⟩
  case round =>
    clear HI0
    obtain ⟨k, K, sa, sc, hk20, rfl, rfl, rfl, HI, HB⟩ := hrel
    have hsz := HB.out.size
    have hKk : K.length ≤ k := HI.out.2.2.2
    by_cases hlk : k < D.length
    rotate_left
    · have dk : decide ((k : Int) < (D.length : Int)) = false := by simp; omega
      have HAw' := HAw.out wr HB.out
      have HAw2 : Hid (Calls Tryz.prog 16 #[] wr fun e w' => e = .returned (.bool true) ∧ Below wr.heap.size wr w') := HAw'
      clear HAw' HAw HFw HR HW HI
      go_wp2_with fail
      refine HAw2.out.mono ?_
      rintro e w9 ⟨rfl, hb9⟩
      have HB9 : Hid (Below w.heap.size w w9) := HB.out.trans (hb9.mono hsz)
      clear hb9 HAw2
      go_wp2
      go_ret
      exact ⟨rfl, HB9.out⟩
    have dk : decide ((k : Int) < (D.length : Int)) = true := by simp; omega
    by_cases h20 : k < 20
    rotate_left
    · have d20 : decide ((k : Int) < 20) = false := by simp; omega
      have HAw' := HAw.out wr HB.out
      have HAw2 : Hid (Calls Tryz.prog 16 #[] wr fun e w' => e = .returned (.bool true) ∧ Below wr.heap.size wr w') := HAw'
      clear HAw' HAw HFw HR HW HI
      go_wp2_with fail
      refine HAw2.out.mono ?_
      rintro e w9 ⟨rfl, hb9⟩
      have HB9 : Hid (Below w.heap.size w w9) := HB.out.trans (hb9.mono hsz)
      clear hb9 HAw2
      go_wp2
      go_ret
      exact ⟨rfl, HB9.out⟩
    have d20 : decide ((k : Int) < 20) = true := by simp; omega
    clear HAw
    obtain ⟨b, off, rfl, hbl, -, hcap, hc⟩ := d_at (HR.out _ HB.out).1 (by omega)
    have hck := hc k hlk
    have HOw : Hid (∀ W, Below w.heap.size w W → IsRow W 3 D[k].vo D[k].own.length (fCells D[k].own)) := fun W h => (HR.out W h).2 _ (List.getElem_mem hlk)
    have HF1 : Hid (Calls Tryz.prog 9 #[ldV D[k]] wr fun e w' => e = .returned (.bool (fewD D[k])) ∧ Below wr.heap.size wr w') := HFw.out k hlk wr HB.out
    have HFo : Hid (fewD D[k] = true → D[k].n.size ≤ 1000000 ∧ D[k].p.size ≤ 1000000 ∧ D[k].own.length ≤ 1000 ∧ NmF D[k].own) := fewD_ok
    generalize D[k]'hlk = x at *
    obtain ⟨y0, y1, y2, y3, y4, y5⟩ := hck
    have HCe : Hid (∀ W, Below wr.heap.size wr W → W.cell? ⟨b, off + k * 6, none⟩ = some (.string x.n) ∧ W.cell? ⟨b, off + k * 6 + 1, none⟩ = some (.string x.p) ∧ W.cell? ⟨b, off + k * 6 + 2, none⟩ = some x.vo ∧ W.cell? ⟨b, off + k * 6 + 3, none⟩ = some (.int .i64 x.a) ∧ W.cell? ⟨b, off + k * 6 + 4, none⟩ = some (.int .i64 x.b) ∧ W.cell? ⟨b, off + k * 6 + 5, none⟩ = some (.int .i64 x.c)) := fun W h => by
      have q : ∀ j, W.cell? ⟨b, j, none⟩ = wr.cell? ⟨b, j, none⟩ := fun j => h.cell (p := ⟨b, j, none⟩) hbl
      exact ⟨(q _).trans y0, (q _).trans y1, (q _).trans y2, (q _).trans y3, (q _).trans y4, (q _).trans y5⟩
    have i1 : (0 : Int) ≤ (k : Int) := by omega
    have i2 : (k : Int) < (D.length : Int) := by omega
    clear hc HFw HR
    go_wp2_with fail
    refine HF1.out.mono ?_
    rintro e w1 ⟨rfl, hb⟩
    have H1 : Hid (Below wr.heap.size wr w1) := hb
    have HB1 : Hid (Below w.heap.size w w1) := HB.out.trans (hb.mono hsz)
    clear hb HF1 y0 y1 y2 y3 y4 y5
    cases hfw : fewD x
    · have HI1 : Hid (GrI (k + 1) K (.slice sa K.length sc) w1) := by
        have := HI.out.below H1.out
        exact ⟨this.1, this.2.1, this.2.2.1, by omega⟩
      clear hfw HFo HCe HOw HI HW
      go_wp2
      go_roundw
      case rel => exact ⟨k + 1, K, sa, sc, by omega, rfl, rfl, by simp, HI1, HB1⟩
      case measure => simp [intOf]; omega
    obtain ⟨fo1, fo2, fo3, fo4⟩ := HFo.out hfw
    have HI1 : Hid (GrI k K (.slice sa K.length sc) w1) := HI.out.below H1.out
    have HMk : Hid (∀ W, Below w1.heap.size w1 W → Calls Tryz.prog 10 #[.slice sa K.length sc, .string x.n, .string x.p, x.vo, idV x.a x.b x.c] W fun e w' => MkP (mkR (tys K) x.n x.p x.own x.a x.b x.c) W e w') := fun W h => make_any _ K x.n x.p _ x.own x.a x.b x.c W (HI1.out.1.below h) (by omega) HI1.out.2.2.1 fo1 fo2 (HOw.out W (HB1.out.trans (h.mono HB1.out.size))) fo3 fo4 (HW.out W (HB1.out.trans (h.mono HB1.out.size)))
    obtain ⟨R, hR⟩ : ∃ R, mkR (tys K) x.n x.p x.own x.a x.b x.c = R := ⟨_, rfl⟩
    have HRR : Hid (mkR (tys K) x.n x.p x.own x.a x.b x.c = R) := hR
    rw [hR] at HMk
    have HFo4 : Hid (x.n.size ≤ 1000000 ∧ NmF x.own ∧ x.own.length ≤ 1000) := ⟨fo1, fo4, fo3⟩
    clear hR hfw HFo fo1 fo2 fo3 fo4 HOw HI
    have HS : Hid (∀ W, Below w1.heap.size w1 W → W.cell? ⟨b, off + k * 6, none⟩ = some (.string x.n) ∧ W.cell? ⟨b, off + k * 6 + 1, none⟩ = some (.string x.p) ∧ W.cell? ⟨b, off + k * 6 + 2, none⟩ = some x.vo ∧ W.cell? ⟨b, off + k * 6 + 3, none⟩ = some (.int .i64 x.a) ∧ W.cell? ⟨b, off + k * 6 + 4, none⟩ = some (.int .i64 x.b) ∧ W.cell? ⟨b, off + k * 6 + 5, none⟩ = some (.int .i64 x.c)) := fun W h => HCe.out W (H1.out.trans (h.mono H1.out.size))
    have HR1 : Hid (Below w1.heap.size w1 w1.drew) := (Below.refl _ _).drew
    have HAl : Hid (∀ (W : World) (o : Obj), Below w1.heap.size w1 W → Below w1.heap.size w1 (W.alloc o)) := fun W o h => h.trans ((al_b _ o).mono h.size)
    go_wp2_with fail
    go_cut [6, 7] (fun v6 v7 wx => CtG w1 R v6 v7 wx)
    case first =>
      as_aux_lemma =>
        refine wp_region_held_drew (S := fun w' => w'.cell? ⟨b, off + k * 6, none⟩ = some (.string x.n) ∧ w'.cell? ⟨b, off + k * 6 + 1, none⟩ = some (.string x.p) ∧ w'.cell? ⟨b, off + k * 6 + 2, none⟩ = some x.vo ∧ w'.cell? ⟨b, off + k * 6 + 3, none⟩ = some (.int .i64 x.a) ∧ w'.cell? ⟨b, off + k * 6 + 4, none⟩ = some (.int .i64 x.b) ∧ w'.cell? ⟨b, off + k * 6 + 5, none⟩ = some (.int .i64 x.c)) (by kernel_rfl) (HS.out _ HR1.out) (fun hHeld => ?_)
        generalize w1.drew = wd at *
        refine wpAnyH_take (i := 0) (v := ?_) rfl (by kernel_rfl) (by kernel_rfl) (by kernel_rfl) (fun _ _ _ h => h) (Or.inl ⟨by rfl, ?_⟩) hHeld ?_
        rotate_left 1
        · intro w9 hSw; obtain ⟨y0, y1, y2, y3, y4, y5⟩ := hSw; go_simp; try with_reducible rfl
        change wpAnyH _ _ _ _ _ _ _ (Act.put _ (some 29) _) _
        simp only [Act.put, List.setIfInBounds_toArray, List.set_cons_zero, List.set_cons_succ]
        refine wpAnyH_take (i := 1) (v := ?_) rfl (by kernel_rfl) (by kernel_rfl) (by kernel_rfl) (fun _ _ _ h => h) (Or.inl ⟨by rfl, ?_⟩) hHeld ?_
        rotate_left 1
        · intro w9 hSw; obtain ⟨y0, y1, y2, y3, y4, y5⟩ := hSw; go_simp; try with_reducible rfl
        change wpAnyH _ _ _ _ _ _ _ (Act.put _ (some 30) _) _
        simp only [Act.put, List.setIfInBounds_toArray, List.set_cons_zero, List.set_cons_succ]
        refine wpAnyH_take (i := 2) (v := ?_) rfl (by kernel_rfl) (by kernel_rfl) (by kernel_rfl) (fun _ _ _ h => h) (Or.inl ⟨by rfl, ?_⟩) hHeld ?_
        rotate_left 1
        · intro w9 hSw; obtain ⟨y0, y1, y2, y3, y4, y5⟩ := hSw; go_simp; try with_reducible rfl
        change wpAnyH _ _ _ _ _ _ _ (Act.put _ (some 31) _) _
        simp only [Act.put, List.setIfInBounds_toArray, List.set_cons_zero, List.set_cons_succ]
        refine wpAnyH_take (i := 3) (v := ?_) rfl (by kernel_rfl) (by kernel_rfl) (by kernel_rfl) (fun _ _ _ h => h) (Or.inl ⟨by rfl, ?_⟩) hHeld ?_
        rotate_left 1
        · intro w9 hSw; obtain ⟨y0, y1, y2, y3, y4, y5⟩ := hSw; go_simp; try with_reducible rfl
        change wpAnyH _ _ _ _ _ _ _ (Act.put _ (some 32) _) _
        simp only [Act.put, List.setIfInBounds_toArray, List.set_cons_zero, List.set_cons_succ]
        refine wpAnyH_take (i := 4) (v := ?_) rfl (by kernel_rfl) (by kernel_rfl) (by kernel_rfl) (fun _ _ _ h => h) (Or.inl ⟨by rfl, ?_⟩) hHeld ?_
        rotate_left 1
        · intro w9 hSw; obtain ⟨y0, y1, y2, y3, y4, y5⟩ := hSw; go_simp; try with_reducible rfl
        change wpAnyH _ _ _ _ _ _ _ (Act.put _ (some 33) _) _
        simp only [Act.put, List.setIfInBounds_toArray, List.set_cons_zero, List.set_cons_succ]
        refine wpAnyH_take (i := 5) (v := ?_) rfl (by kernel_rfl) (by kernel_rfl) (by kernel_rfl) (fun _ _ _ h => h) (Or.inl ⟨by rfl, ?_⟩) hHeld ?_
        rotate_left 1
        · intro w9 hSw; obtain ⟨y0, y1, y2, y3, y4, y5⟩ := hSw; go_simp; try with_reducible rfl
        change wpAnyH _ _ _ _ _ _ _ (Act.put _ (some 34) _) _
        simp only [Act.put, List.setIfInBounds_toArray, List.set_cons_zero, List.set_cons_succ]
        refine wpAnyH_take (i := 6) (v := ?_) rfl (by kernel_rfl) (by kernel_rfl) (by kernel_rfl) (fun _ _ _ h => h) (Or.inl ⟨by rfl, ?_⟩) hHeld ?_
        rotate_left 1
        · intro w9 hSw; obtain ⟨y0, y1, y2, y3, y4, y5⟩ := hSw; go_simp; try with_reducible rfl
        change wpAnyH _ _ _ _ _ _ _ (Act.put _ (some 35) _) _
        simp only [Act.put, List.setIfInBounds_toArray, List.set_cons_zero, List.set_cons_succ]
        refine wpAnyH_take (i := 7) (v := ?_) rfl (by kernel_rfl) (by kernel_rfl) (by kernel_rfl) (fun _ _ _ h => h) (Or.inl ⟨by rfl, ?_⟩) hHeld ?_
        rotate_left 1
        · intro w9 hSw; obtain ⟨y0, y1, y2, y3, y4, y5⟩ := hSw; go_simp; try with_reducible rfl
        change wpAnyH _ _ _ _ _ _ _ (Act.put _ (some 36) _) _
        simp only [Act.put, List.setIfInBounds_toArray, List.set_cons_zero, List.set_cons_succ]
        refine wpAnyH_take (i := 8) (v := ?_) rfl (by kernel_rfl) (by kernel_rfl) (by kernel_rfl) (fun _ _ _ h => h) (Or.inl ⟨by rfl, ?_⟩) hHeld ?_
        rotate_left 1
        · intro w9 hSw; obtain ⟨y0, y1, y2, y3, y4, y5⟩ := hSw; go_simp; try with_reducible rfl
        change wpAnyH _ _ _ _ _ _ _ (Act.put _ (some 37) _) _
        simp only [Act.put, List.setIfInBounds_toArray, List.set_cons_zero, List.set_cons_succ]
        refine wpAnyH_take (i := 9) (v := ?_) rfl (by kernel_rfl) (by kernel_rfl) (by kernel_rfl) (fun _ _ _ h => h) (Or.inl ⟨by rfl, ?_⟩) hHeld ?_
        rotate_left 1
        · intro w9 hSw; obtain ⟨y0, y1, y2, y3, y4, y5⟩ := hSw; go_simp; try with_reducible rfl
        change wpAnyH _ _ _ _ _ _ _ (Act.put _ (some 38) _) _
        simp only [Act.put, List.setIfInBounds_toArray, List.set_cons_zero, List.set_cons_succ]
        refine wpAnyH_take (i := 10) (v := ?_) rfl (by kernel_rfl) (by kernel_rfl) (by kernel_rfl) (fun _ _ _ h => h) (Or.inl ⟨by rfl, ?_⟩) hHeld ?_
        rotate_left 1
        · intro w9 hSw; obtain ⟨y0, y1, y2, y3, y4, y5⟩ := hSw; go_simp; try with_reducible rfl
        change wpAnyH _ _ _ _ _ _ _ (Act.put _ (some 39) _) _
        simp only [Act.put, List.setIfInBounds_toArray, List.set_cons_zero, List.set_cons_succ]
        refine wpAnyH_take (i := 11) (v := ?_) rfl (by kernel_rfl) (by kernel_rfl) (by kernel_rfl) (fun _ _ _ h => h) (Or.inl ⟨by rfl, ?_⟩) hHeld ?_
        rotate_left 1
        · intro w9 hSw; obtain ⟨y0, y1, y2, y3, y4, y5⟩ := hSw; go_simp; try with_reducible rfl
        change wpAnyH _ _ _ _ _ _ _ (Act.put _ (some 40) _) _
        simp only [Act.put, List.setIfInBounds_toArray, List.set_cons_zero, List.set_cons_succ]
        refine wpAnyH_take (i := 12) (v := ?_) rfl (by kernel_rfl) (by kernel_rfl) (by kernel_rfl) (fun _ _ _ h => h) (Or.inl ⟨by rfl, ?_⟩) hHeld ?_
        rotate_left 1
        · intro w9 hSw; obtain ⟨y0, y1, y2, y3, y4, y5⟩ := hSw; go_simp; try with_reducible rfl
        change wpAnyH _ _ _ _ _ _ _ (Act.put _ (some 41) _) _
        simp only [Act.put, List.setIfInBounds_toArray, List.set_cons_zero, List.set_cons_succ]
        refine wpAnyH_take (i := 13) (v := ?_) rfl (by kernel_rfl) (by kernel_rfl) (by kernel_rfl) (fun _ _ _ h => h) (Or.inl ⟨by rfl, ?_⟩) hHeld ?_
        rotate_left 1
        · intro w9 hSw; obtain ⟨y0, y1, y2, y3, y4, y5⟩ := hSw; go_simp; try with_reducible rfl
        change wpAnyH _ _ _ _ _ _ _ (Act.put _ (some 42) _) _
        simp only [Act.put, List.setIfInBounds_toArray, List.set_cons_zero, List.set_cons_succ]
        refine wpAnyH_take (i := 14) (v := ?_) rfl (by kernel_rfl) (by kernel_rfl) (by kernel_rfl) (fun _ _ _ h => h) (Or.inl ⟨by rfl, ?_⟩) hHeld ?_
        rotate_left 1
        · intro w9 hSw; obtain ⟨y0, y1, y2, y3, y4, y5⟩ := hSw; go_simp; try with_reducible rfl
        change wpAnyH _ _ _ _ _ _ _ (Act.put _ (some 43) _) _
        simp only [Act.put, List.setIfInBounds_toArray, List.set_cons_zero, List.set_cons_succ]
        refine wpAnyH_take (i := 15) (v := ?_) rfl (by kernel_rfl) (by kernel_rfl) (by kernel_rfl) (fun _ _ _ h => h) (Or.inl ⟨by rfl, ?_⟩) hHeld ?_
        rotate_left 1
        · intro w9 hSw; obtain ⟨y0, y1, y2, y3, y4, y5⟩ := hSw; go_simp; try with_reducible rfl
        change wpAnyH _ _ _ _ _ _ _ (Act.put _ (some 44) _) _
        simp only [Act.put, List.setIfInBounds_toArray, List.set_cons_zero, List.set_cons_succ]
        refine wpAnyH_take (i := 16) (v := ?_) rfl (by kernel_rfl) (by kernel_rfl) (by kernel_rfl) (fun _ _ _ h => h) (Or.inl ⟨by rfl, ?_⟩) hHeld ?_
        rotate_left 1
        · intro w9 hSw; obtain ⟨y0, y1, y2, y3, y4, y5⟩ := hSw; go_simp; try with_reducible rfl
        change wpAnyH _ _ _ _ _ _ _ (Act.put _ (some 45) _) _
        simp only [Act.put, List.setIfInBounds_toArray, List.set_cons_zero, List.set_cons_succ]
        refine wpAnyH_take (i := 17) (v := ?_) rfl (by kernel_rfl) (by kernel_rfl) (by kernel_rfl) (fun _ _ _ h => h) (Or.inl ⟨by rfl, ?_⟩) hHeld ?_
        rotate_left 1
        · intro w9 hSw; obtain ⟨y0, y1, y2, y3, y4, y5⟩ := hSw; go_simp; try with_reducible rfl
        change wpAnyH _ _ _ _ _ _ _ (Act.put _ (some 46) _) _
        simp only [Act.put, List.setIfInBounds_toArray, List.set_cons_zero, List.set_cons_succ]
        refine wpAnyH_take (i := 18) (v := ?_) rfl (by kernel_rfl) (by kernel_rfl) (by kernel_rfl) (fun _ _ _ h => h) (Or.inl ⟨by rfl, ?_⟩) hHeld ?_
        rotate_left 1
        · intro w9 hSw; obtain ⟨y0, y1, y2, y3, y4, y5⟩ := hSw; go_simp; try with_reducible rfl
        change wpAnyH _ _ _ _ _ _ _ (Act.put _ (some 47) _) _
        simp only [Act.put, List.setIfInBounds_toArray, List.set_cons_zero, List.set_cons_succ]
        refine wpAnyH_take (i := 19) (v := ?_) rfl (by kernel_rfl) (by kernel_rfl) (by kernel_rfl) (fun _ _ _ h => h) (Or.inl ⟨by rfl, ?_⟩) hHeld ?_
        rotate_left 1
        · intro w9 hSw; obtain ⟨y0, y1, y2, y3, y4, y5⟩ := hSw; go_simp; try with_reducible rfl
        change wpAnyH _ _ _ _ _ _ _ (Act.put _ (some 48) _) _
        simp only [Act.put, List.setIfInBounds_toArray, List.set_cons_zero, List.set_cons_succ]
        refine wpAnyH_take (i := 20) (v := ?_) rfl (by kernel_rfl) (by kernel_rfl) (by kernel_rfl) (fun _ _ _ h => h) (Or.inl ⟨by rfl, ?_⟩) hHeld ?_
        rotate_left 1
        · intro w9 hSw; obtain ⟨y0, y1, y2, y3, y4, y5⟩ := hSw; go_simp; try with_reducible rfl
        change wpAnyH _ _ _ _ _ _ _ (Act.put _ (some 49) _) _
        simp only [Act.put, List.setIfInBounds_toArray, List.set_cons_zero, List.set_cons_succ]
        refine wpAnyH_ready (rs := [21, 25]) (by kernel_rfl) (by simp) ?_
        refine AllReadyH.cons rfl (fun K hK => ?_) (AllReadyH.cons rfl (fun K hK => ?_) AllReadyH.nil)
        · go_simp
          refine (HMk.out _ (HR1.out)).mono ?_
          rintro e w3 ⟨y, rfl, hyt, hyI, hyN, hb⟩
          have HYt : Hid (y.t = R.1) := hyt
          clear hyt
          have hB3 : Below w1.heap.size w1 w3 := (HR1.out).trans (hb.mono (HR1.out).size)
          go_simp
          refine hK.out _ _ (HS.out _ hB3) (fun hHeld => ?_)
          clear hK K
          refine wpAnyH_take (i := 22) (v := ?_) rfl (by kernel_rfl) (by kernel_rfl) (by kernel_rfl) (fun _ _ _ h => h) (Or.inl ⟨by rfl, ?_⟩) hHeld ?_
          rotate_left 1
          · intro w9 hSw; obtain ⟨y0, y1, y2, y3, y4, y5⟩ := hSw; go_simp; try with_reducible rfl
          change wpAnyH _ _ _ _ _ _ _ (Act.put _ (some 28) _) _
          simp only [Act.put, List.setIfInBounds_toArray, List.set_cons_zero, List.set_cons_succ]
          refine wpAnyH_take (i := 23) (v := ?_) rfl (by kernel_rfl) (by kernel_rfl) (by kernel_rfl) (fun _ _ _ h => h) (Or.inl ⟨by rfl, ?_⟩) hHeld ?_
          rotate_left 1
          · intro w9 hSw; obtain ⟨y0, y1, y2, y3, y4, y5⟩ := hSw; go_simp; try with_reducible rfl
          change wpAnyH _ _ _ _ _ _ _ (Act.put _ (some 51) _) _
          simp only [Act.put, List.setIfInBounds_toArray, List.set_cons_zero, List.set_cons_succ]
          refine wpAnyH_take (i := 24) (v := ?_) rfl (by kernel_rfl) (by kernel_rfl) (by kernel_rfl) (fun _ _ _ h => h) (Or.inl ⟨by rfl, ?_⟩) hHeld ?_
          rotate_left 1
          · intro w9 hSw; obtain ⟨y0, y1, y2, y3, y4, y5⟩ := hSw; go_simp; try with_reducible rfl
          change wpAnyH _ _ _ _ _ _ _ (Act.put _ (some 52) _) _
          simp only [Act.put, List.setIfInBounds_toArray, List.set_cons_zero, List.set_cons_succ]
          refine wpAnyH_ready (rs := [25]) (by kernel_rfl) (by simp) ?_
          refine AllReadyH.cons rfl (fun K hK => ?_) AllReadyH.nil
          go_simp
          refine hK.out _ _ (HS.out _ (HAl.out _ _ hB3)) (fun hHeld => ?_)
          clear hK K
          refine wpAnyH_ready (rs := [26]) (by kernel_rfl) (by simp) ?_
          refine AllReadyH.cons rfl (fun K hK => ?_) AllReadyH.nil
          go_simp
          refine hK.out _ _ (HS.out _ (HAl.out _ _ hB3)) (fun hHeld => ?_)
          clear hK K
          refine wpAnyH_ready (rs := [27]) (by kernel_rfl) (by simp) ?_
          refine AllReadyH.cons rfl (fun K hK => ?_) AllReadyH.nil
          go_simp
          refine hK.out _ _ hHeld (fun hHeld => ?_)
          clear hK K
          refine wpAnyH_done (by kernel_rfl) ?_ _
          try go_wp2_with fail
          go_meet
          exact CtG.A HYt hyI hB3
        · have hBz : Below w1.heap.size w1 (wd.alloc (.cells zTyA 32)) := HAl.out _ _ HR1.out
          have hnz : (wd.alloc (.cells zTyA 32)).heap[wd.heap.size]? = some (.cells zTyA 32 (0, 0)) := new_at wd _
          have hgz : w1.heap.size ≤ wd.heap.size := HR1.out.size
          go_simp
          refine hK.out _ _ (HS.out _ hBz) (fun hHeld => ?_)
          clear hK K
          generalize hWz : wd.alloc (.cells zTyA 32) = Wz at *
          refine wpAnyH_ready (rs := [21]) (by kernel_rfl) (by simp) ?_
          refine AllReadyH.cons rfl (fun K hK => ?_) AllReadyH.nil
          go_simp
          refine (HMk.out _ (hBz)).mono ?_
          rintro e w3 ⟨y, rfl, hyt, hyI, hyN, hb⟩
          have HYt : Hid (y.t = R.1) := hyt
          clear hyt
          have hB3 : Below w1.heap.size w1 w3 := (hBz).trans (hb.mono (hBz).size)
          go_simp
          refine hK.out _ _ (HS.out _ hB3) (fun hHeld => ?_)
          clear hK K
          refine wpAnyH_take (i := 22) (v := ?_) rfl (by kernel_rfl) (by kernel_rfl) (by kernel_rfl) (fun _ _ _ h => h) (Or.inl ⟨by rfl, ?_⟩) hHeld ?_
          rotate_left 1
          · intro w9 hSw; obtain ⟨y0, y1, y2, y3, y4, y5⟩ := hSw; go_simp; try with_reducible rfl
          change wpAnyH _ _ _ _ _ _ _ (Act.put _ (some 28) _) _
          simp only [Act.put, List.setIfInBounds_toArray, List.set_cons_zero, List.set_cons_succ]
          refine wpAnyH_take (i := 23) (v := ?_) rfl (by kernel_rfl) (by kernel_rfl) (by kernel_rfl) (fun _ _ _ h => h) (Or.inl ⟨by rfl, ?_⟩) hHeld ?_
          rotate_left 1
          · intro w9 hSw; obtain ⟨y0, y1, y2, y3, y4, y5⟩ := hSw; go_simp; try with_reducible rfl
          change wpAnyH _ _ _ _ _ _ _ (Act.put _ (some 51) _) _
          simp only [Act.put, List.setIfInBounds_toArray, List.set_cons_zero, List.set_cons_succ]
          refine wpAnyH_take (i := 24) (v := ?_) rfl (by kernel_rfl) (by kernel_rfl) (by kernel_rfl) (fun _ _ _ h => h) (Or.inl ⟨by rfl, ?_⟩) hHeld ?_
          rotate_left 1
          · intro w9 hSw; obtain ⟨y0, y1, y2, y3, y4, y5⟩ := hSw; go_simp; try with_reducible rfl
          change wpAnyH _ _ _ _ _ _ _ (Act.put _ (some 52) _) _
          simp only [Act.put, List.setIfInBounds_toArray, List.set_cons_zero, List.set_cons_succ]
          have hlz : wd.heap.size < Wz.heap.size := (Array.getElem?_eq_some_iff.1 hnz).1
          have hn3 : w3.heap[wd.heap.size]? = some (.cells zTyA 32 (0, 0)) := (hb.block _ hlz).trans hnz
          have hbx : BxT wd.heap.size zT (.slice none 0 0) (.slice none 0 0) (.slice none 0 0) w3 := BxT.of hn3
          obtain ⟨⟨m0, m1, m2, m3⟩, m4, m5, m6, m7⟩ := hbx
          have mf : ∀ j, w3.frozen? ⟨wd.heap.size, j, none⟩ = false := fun j => Lib.frozen_of_heap hn3 j
          have hl3 : wd.heap.size < w3.heap.size := Nat.lt_of_lt_of_le hlz hb.size
          have HB8 : Hid (∀ u0 u1 u2 u3 u4 u5 u6 u7, Below w1.heap.size w1 ((((((((w3.setCell ⟨wd.heap.size, 0, none⟩ u0).setCell ⟨wd.heap.size, 1, none⟩ u1).setCell ⟨wd.heap.size, 2, none⟩ u2).setCell ⟨wd.heap.size, 3, none⟩ u3).setCell ⟨wd.heap.size, 4, none⟩ u4).setCell ⟨wd.heap.size, 5, none⟩ u5).setCell ⟨wd.heap.size, 6, none⟩ u6).setCell ⟨wd.heap.size, 7, none⟩ u7)) := fun u0 u1 u2 u3 u4 u5 u6 u7 => below8 hB3 hgz u0 u1 u2 u3 u4 u5 u6 u7
          have HyI : Hid (IsTy w3 y.t y.vo y.va y.vc) := hyI
          have HyN : Hid (NewT Wz.heap.size y) := hyN
          have HB3 : Hid (Below w1.heap.size w1 w3) := hB3
          have Hlz : Hid (wd.heap.size < Wz.heap.size) := hlz
          clear hyI hyN hB3 hlz hn3 hnz hWz hBz hb
          refine wpAnyH_ready (rs := [26]) (by kernel_rfl) (by simp) ?_
          refine AllReadyH.cons rfl (fun K hK => ?_) AllReadyH.nil
          rw [if_pos]
          rotate_left
          · kernel_rfl
          refine wp_store_ty (g := wd.heap.size) (y := y) (t0 := zT) (.tmp 6) (.tmp 51) rfl rfl rfl rfl ⟨⟨m0, m1, m2, m3⟩, m4, m5, m6, m7⟩ mf ?_
          refine hK.out _ _ (HS.out _ (HB8.out _ _ _ _ _ _ _ _)) (fun hHeld => ?_)
          clear hK K
          refine wpAnyH_ready (rs := [27]) (by kernel_rfl) (by simp) ?_
          refine AllReadyH.cons rfl (fun K hK => ?_) AllReadyH.nil
          go_simp
          refine hK.out _ _ hHeld (fun hHeld => ?_)
          clear hK K
          refine wpAnyH_done (by kernel_rfl) ?_ _
          try go_wp2_with fail
          go_meet
          exact CtG.B HYt HyI.out HyN.out Hlz.out ⟨⟨m0, m1, m2, m3⟩, m4, m5, m6, m7⟩ hl3 hgz HB3.out
    case rest =>
      as_aux_lemma =>
      clear HR1 HAl HMk HCe
      obtain ⟨g, y, rfl, rfl, HYt, HTy, HBx, HLt, HBl⟩ := hcut
      have HBc : Hid (Below w.heap.size w wc) := HB1.out.trans (HBl.out.mono HB1.out.size)
      have HIc : Hid (GrI k K (.slice sa K.length sc) wc) := HI1.out.below HBl.out
      have hlg := HLt.out
      have HWc : Hid (∀ W, Below wc.heap.size wc W → W3 W) := fun W h => HW.out W (HBc.out.trans (h.mono HBc.out.size))
      have HXc : Hid (∀ W, Below wc.heap.size wc W → BxT g y.t y.vo y.va y.vc W ∧ IsTy W y.t y.vo y.va y.vc ∧ g < W.heap.size ∧ Below w.heap.size w W) := fun W h => ⟨HBx.out.below h hlg, HTy.out.below h, Nat.lt_of_lt_of_le hlg h.size, HBc.out.trans (h.mono HBc.out.size)⟩
      have HSc : Hid (∀ W, Below wc.heap.size wc W → W.cell? ⟨b, off + k * 6, none⟩ = some (.string x.n) ∧ W.cell? ⟨b, off + k * 6 + 1, none⟩ = some (.string x.p) ∧ W.cell? ⟨b, off + k * 6 + 2, none⟩ = some x.vo ∧ W.cell? ⟨b, off + k * 6 + 3, none⟩ = some (.int .i64 x.a) ∧ W.cell? ⟨b, off + k * 6 + 4, none⟩ = some (.int .i64 x.b) ∧ W.cell? ⟨b, off + k * 6 + 5, none⟩ = some (.int .i64 x.c)) := fun W h => HS.out W (HBl.out.trans (h.mono HBl.out.size))
      obtain ⟨E2, hE2⟩ : ∃ E2, E2 = R.2 := ⟨_, rfl⟩
      rw [← hE2]
      obtain ⟨⟨⟨c0, c1, c2, c3⟩, c4, c5, c6, c7⟩, -, -, -⟩ := HXc.out wc (Below.refl _ _)
      clear HB1 HI1 HBl HS HW HB H1 HLt
      by_cases hE : E2 = 0
      rotate_left
      · have dC : (E2 != 0) = true := by simp [hE]
        have dC' : (!(E2 == 0)) = true := by simp [hE]
        have dC'' : (E2 == 0) = false := by simp [hE]
        have HCk : Hid (Calls Tryz.prog 11 #[ltV y] wc fun e w' => e = .returned (.bool false) ∧ Below wc.heap.size wc w') := by
          have hz : y.t = zT := HYt.out.trans (by rw [← HRR.out]; exact make_bad (by rw [HRR.out, ← hE2]; exact hE))
          have h := checkT_any y.t y.vo y.va y.vc wc HTy.out (by rw [hz]; exact nmZ) (HWc.out wc (Below.refl _ _)).t (HWc.out wc (Below.refl _ _)).m
          have e0 : chkT y.t = false := by rw [hz]; exact chkT_zT
          rw [e0] at h
          exact h
        have HI2 : Hid (∀ W, Below wc.heap.size wc W → GrI (k + 1) K (.slice sa K.length sc) W ∧ Below w.heap.size w W) := fun W h => by
          have q := HIc.out.below h
          exact ⟨⟨q.1, q.2.1, q.2.2.1, by omega⟩, HBc.out.trans (h.mono HBc.out.size)⟩
        clear HIc HWc HXc HSc hE HYt HTy HBx HRR HFo4 hE2
        go_wp2_with fail
        refine HCk.out.mono ?_
        rintro e w5 ⟨rfl, hb⟩
        obtain ⟨q1, q2⟩ := HI2.out w5 hb
        have HI5 : Hid (GrI (k + 1) K (.slice sa K.length sc) w5) := q1
        have HB5 : Hid (Below w.heap.size w w5) := q2
        clear q1 q2 hb HCk HI2 c0 c1 c2 c3 c4 c5 c6 c7
        go_wp2
        go_roundw
        case rel => exact ⟨k + 1, K, sa, sc, by omega, rfl, rfl, by simp, HI5, HB5⟩
        case measure => simp [intOf]; omega
      have hm : mkR (tys K) x.n x.p x.own x.a x.b x.c = (R.1, 0) := by
        rw [HRR.out]
        exact Prod.ext rfl (by rw [← hE2]; exact hE)
      obtain ⟨fo1, fo4, fo3⟩ := HFo4.out
      have hck := (make_can hm).2.2.1
      have hnm : NmT R.1 := nm_make hm (fun u hu => by obtain ⟨z, hz, rfl⟩ := List.mem_map.1 hu; exact HIc.out.2.2.1 z hz) fo1 fo4 (by omega)
      have HAd : Hid (Calls Tryz.prog 12 #[.slice sa K.length sc, ltV y] wc fun e w' => AdP (addR (tys K) R.1) wc e w') := by
        have h := add_any _ K y wc HIc.out.1 (by omega) HIc.out.2.2.1 HIc.out.sm HTy.out (by rw [HYt.out]; exact hnm) (by rw [HYt.out]; exact chk_sm hck) (HWc.out wc (Below.refl _ _))
        rw [HYt.out] at h
        exact h
      have HGs : Hid (∀ (K' : List LT) (v' : Value) (w' : World), tys K' = (addR (tys K) R.1).1 → IsTys w' v' K' → (addR (tys K) R.1).2 = 0 ∧ chkT R.1 = true ∧ isB (tys K') = true ∧ K'.length = K.length + 1 ∧ parN (tys K') x.n = some R.1 ∧ GrI (k + 1) K' v' w') := fun K' v' w' h1 h2 => grow_step HIc.out h20 hm fo1 fo4 fo3 h1 h2
      have HNt : Hid (NmT R.1 ∧ x.n.size ≤ 1000000 ∧ SmT R.1) := ⟨hnm, fo1, chk_sm hck⟩
      subst hE
      clear hm hck hnm fo1 fo3 fo4 HFo4 HRR HIc hE2 HTy HBx
      go_wp2_with fail
      refine HAd.out.mono ?_
      rintro e w5 ⟨sa2, sc2, K2, rfl, hK2, hI2, hb⟩
      obtain ⟨q1, q2, q3, q4, q5, q6⟩ := HGs.out K2 _ w5 hK2 hI2
      rw [q1]
      have H5 : Hid (Below wc.heap.size wc w5) := hb
      have HG2 : Hid (GrI (k + 1) K2 (.slice sa2 K2.length sc2) w5) := q6
      have HQ4 : Hid (K2.length = K.length + 1) := q4
      have hK2l : K2.length ≤ 21 := by omega
      have dl : ((K2.length : Int) != (K.length : Int) + 1) = false := by rw [q4]; simp
      have dl' : ((K2.length : Int) == (K.length : Int) + 1) = true := by rw [q4]; simp
      have HC1 : Hid (∀ W, Below wc.heap.size wc W → Calls Tryz.prog 11 #[ltV y] W fun e w' => e = .returned (.bool true) ∧ Below W.heap.size W w') := fun W h => by
        have hh := checkT_any y.t y.vo y.va y.vc W (HXc.out W h).2.1 (by rw [HYt.out]; exact HNt.out.1) (HWc.out W h).t (HWc.out W h).m
        have e0 : chkT y.t = true := by rw [HYt.out]; exact q2
        rw [e0] at hh
        exact hh
      have HC2 : Hid (∀ W, Below w5.heap.size w5 W → Calls Tryz.prog 13 #[.slice sa2 K2.length sc2] W fun e w' => e = .returned (.bool true) ∧ Below W.heap.size W w') := fun W h => by
        have hh := is_any _ K2 W (HG2.out.1.below h) (by omega) HG2.out.2.2.1 (HWc.out W (H5.out.trans (h.mono H5.out.size)))
        rw [q3] at hh
        exact hh
      have HC3 : Hid (∀ W, Below w5.heap.size w5 W → Calls Tryz.prog 14 #[.slice sa2 K2.length sc2, .string x.n] W fun e w' => ∃ u : LT, e = .returned (.tuple #[ltV u, .bool true]) ∧ u.t = R.1 ∧ IsTy w' u.t u.vo u.va u.vc ∧ Below W.heap.size W w') := fun W h => by
        refine (findT_any _ K2 x.n W (HG2.out.1.below h) (by omega) (nmN HG2.out.2.2.1) HG2.out.sm HNt.out.2.1 (HWc.out W (H5.out.trans (h.mono H5.out.size))).t).mono ?_
        rintro e w' ⟨u, rfl, hu, hI, -, hb⟩
        rw [q5] at hu ⊢
        exact ⟨u, rfl, hu, hI, hb⟩
      have HC4 : Hid (∀ (u : LT) W, u.t = R.1 → IsTy W u.t u.vo u.va u.vc → Below wc.heap.size wc W → Calls Tryz.prog 15 #[ltV u, ltV y] W fun e w' => e = .returned (.bool true) ∧ Below W.heap.size W w') := fun u W hu hI h => by
        have sm := HNt.out.2.2
        have hh := sameT_any u y W hI (HXc.out W h).2.1 (by rw [hu]; exact ⟨by have := sm.1; omega, by have := sm.2.1; omega, by have := sm.2.2; omega⟩) (by rw [HYt.out]; exact ⟨by have := sm.1; omega, by have := sm.2.1; omega, by have := sm.2.2; omega⟩)
        have e0 : sameT u.t y.t = true := (sameT_iff _ _).2 (by rw [hu, HYt.out])
        rw [e0] at hh
        exact hh
      clear hb q1 q2 q3 q4 q5 q6 hK2 hI2 HAd HGs HNt HYt HWc c0 c1 c2 c3 c4 c5 c6 c7
      obtain ⟨⟨⟨c0, c1, c2, c3⟩, c4, c5, c6, c7⟩, -, -, -⟩ := HXc.out w5 H5.out
      go_wp2_with fail
      refine (HC1.out _ H5.out).mono ?_
      rintro e w6 ⟨rfl, hb⟩
      have H6 : Hid (Below wc.heap.size wc w6) := H5.out.trans (hb.mono H5.out.size)
      have H56 : Hid (Below w5.heap.size w5 w6) := hb
      clear hb c0 c1 c2 c3 c4 c5 c6 c7
      go_wp2_with fail
      refine (HC2.out _ H56.out).mono ?_
      rintro e w7 ⟨rfl, hb⟩
      have H7 : Hid (Below wc.heap.size wc w7) := H6.out.trans (hb.mono H6.out.size)
      have H57 : Hid (Below w5.heap.size w5 w7) := H56.out.trans (hb.mono H56.out.size)
      clear hb H56 H6
      obtain ⟨y0, y1, y2, y3, y4, y5⟩ := HSc.out w7 H7.out
      go_wp2_with fail
      refine (HC3.out _ H57.out).mono ?_
      rintro e w8 ⟨u, rfl, hut, huI, hb⟩
      have H8 : Hid (Below wc.heap.size wc w8) := H7.out.trans (hb.mono H7.out.size)
      have H58 : Hid (Below w5.heap.size w5 w8) := H57.out.trans (hb.mono H57.out.size)
      obtain ⟨⟨⟨c0, c1, c2, c3⟩, c4, c5, c6, c7⟩, -, hlg8, -⟩ := HXc.out w8 H8.out
      have HC5 : Hid (Calls Tryz.prog 15 #[ltV u, ltV y] (w8.alloc (.cells (tyA u.t u.vo u.va u.vc) 32)) fun e w' => e = .returned (.bool true) ∧ Below (w8.alloc (.cells (tyA u.t u.vo u.va u.vc) 32)).heap.size (w8.alloc (.cells (tyA u.t u.vo u.va u.vc) 32)) w') := HC4.out u _ hut (huI.below (al_b w8 _)) (H8.out.trans ((al_b w8 _).mono H8.out.size))
      have HFi : Hid (∀ W, Below (w8.alloc (.cells (tyA u.t u.vo u.va u.vc) 32)).heap.size (w8.alloc (.cells (tyA u.t u.vo u.va u.vc) 32)) W → GrI (k + 1) K2 (.slice sa2 K2.length sc2) W ∧ Below w.heap.size w W) := fun W h => by
        have h8 : Below w8.heap.size w8 W := (al_b w8 _).trans (h.mono (al_b w8 _).size)
        exact ⟨HG2.out.below (H58.out.trans (h8.mono H58.out.size)), HBc.out.trans ((H8.out.trans (h8.mono H8.out.size)).mono HBc.out.size)⟩
      clear hb hut huI HC1 HC2 HC3 HC4 y0 y1 y2 y3 y4 y5 H7 H57 H8 H58 HXc HSc HG2 HBc H5
      go_wp2_with fail
      refine HC5.out.mono ?_
      rintro e w9 ⟨rfl, hb⟩
      obtain ⟨q1, q2⟩ := HFi.out w9 hb
      have HI9 : Hid (GrI (k + 1) K2 (.slice sa2 K2.length sc2) w9) := q1
      have HB9 : Hid (Below w.heap.size w w9) := q2
      clear q1 q2 hb HC5 HFi c0 c1 c2 c3 c4 c5 c6 c7
      go_wp2
      go_roundw
      case rel => exact ⟨k + 1, K2, sa2, sc2, by omega, rfl, by rw [HQ4.out]; simp, by simp, HI9, HB9⟩
      case measure => simp [intOf]; omega
end Go.Proofs.YticlejkeaagfjaaGreatDoor
