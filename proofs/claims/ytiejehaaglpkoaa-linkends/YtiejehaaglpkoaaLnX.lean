/- The pair's come: its walk. -/
import Derived.Test.YtiejehaaglpkoaaLnW
namespace Go.Proofs.Ytiejehaaglpkoaa
open Go.RowKit Go.ChangeMaps

/-- Behind the net's Take. -/
def CmR (w0 : World) (P : Nat) (a : Ad) (s : Pr) (ext : List (Tg w0.heap.size)) (R1 : Nat → List Pk) (x : Pk) (E : Int) (p q : Value) (w : World) : Prop := ∃ N, p = .pointer (some ⟨N, 0, none⟩) ∧ q = .int .i64 E ∧ PSn w0 P a s (blkT _ N (.cells (pA x) 37 (0, 0)) :: ext) R1 w
theorem CmR.late {w0 w : World} {P : Nat} {a : Ad} {s : Pr} {ext : List (Tg w0.heap.size)} {R1 : Nat → List Pk} (x : Pk) {E : Int} (h : PSn w0 P a s ext R1 w) : CmR w0 P a s ext R1 x E (.pointer (some ⟨w.heap.size, 0, none⟩)) (.int .i64 E) (w.alloc (.cells (pA x) 37)) := ⟨_, rfl, rfl, h.alloc _⟩
theorem CmR.soon {w0 w : World} {P N : Nat} {a : Ad} {s : Pr} {ext : List (Tg w0.heap.size)} {R1 : Nat → List Pk} (x : Pk) {E : Int} (h : PSn w0 P a s (blkT _ N (.cells #[.int .i64 0, .int .i64 0, .int .i64 0, .int .i64 0, .int .i64 0, .int .i64 0, .string ⟨#[]⟩] 37 (0, 0)) :: ext) R1 w) : CmR w0 P a s ext R1 x E (.pointer (some ⟨N, 0, none⟩)) (.int .i64 E) (set7 w N (.int .i64 x.f) (.int .i64 x.t) (.int .i64 x.fl) (.int .i64 x.tl) (.int .i64 x.sq) (.int .i64 x.ak) (.string x.x)) := ⟨N, rfl, rfl, h.set7 _ _ _ _ _ _ _⟩
theorem PSn.box {w0 w : World} {P N : Nat} {a : Ad} {s : Pr} {ext : List (Tg w0.heap.size)} {R : Nat → List Pk} {o : Obj} (h : PSn w0 P a s ext R w) (ht : blkT _ N o ∈ ext) : w.heap[N]? = some o := (h.ext ht).2
theorem pk_cells {w : World} {N : Nat} {x : Pk} (h : w.heap[N]? = some (.cells (pA x) 37 (0, 0))) : w.cell? ⟨N, 0, none⟩ = some (.int .i64 x.f) ∧ w.cell? ⟨N, 1, none⟩ = some (.int .i64 x.t) ∧ w.cell? ⟨N, 2, none⟩ = some (.int .i64 x.fl) ∧ w.cell? ⟨N, 3, none⟩ = some (.int .i64 x.tl) ∧ w.cell? ⟨N, 4, none⟩ = some (.int .i64 x.sq) ∧ w.cell? ⟨N, 5, none⟩ = some (.int .i64 x.ak) ∧ w.cell? ⟨N, 6, none⟩ = some (.string x.x) :=
  ⟨by rw [Lib.cell_of_heap h]; rfl, by rw [Lib.cell_of_heap h]; rfl, by rw [Lib.cell_of_heap h]; rfl, by rw [Lib.cell_of_heap h]; rfl, by rw [Lib.cell_of_heap h]; rfl, by rw [Lib.cell_of_heap h]; rfl, by rw [Lib.cell_of_heap h]; rfl⟩
theorem PSn.takeN {w0 w : World} {P : Nat} {a : Ad} {s : Pr} {ext : List (Tg w0.heap.size)} {R : Nat → List Pk} (h : PSn w0 P a s ext R w) (f t k : Int) (hc : cntN R 256 ≤ 400) :
    Calls Try.prog 51 #[nP a.gn, hV f t, .int .i64 k] w fun e w' => e = .returned (.tuple #[pV (takeP R noA f t k), .int .i64 (takeE R noA f t k)]) ∧ PSn w0 P a s ext (takeR R noA f t k) w' :=
  h.net (R' := takeR R noA f t k) (r := .tuple #[pV (takeP R noA f t k), .int .i64 (takeE R noA f t k)]) fun V hv => take_any (A := noA) (V := V) f t k hv (by omega)
theorem below_dr2 (w : World) : Below w.heap.size w w.drew := ⟨rfl, rfl, rfl, Nat.le_refl _, fun _ _ => rfl⟩
/-- Behind an end's Take. -/
def TkN (w0 : World) (P : Nat) (a : Ad) (s : Pr) (ext : List (Tg w0.heap.size)) (R : Nat → List Pk) (i : Nat) (L5 : Lk) (T5 : List ByteArray) (O5 : List Pk) (lk : Int) (tr r q : Value) (w : World) : Prop := q = .int .i64 lk ∧ ∃ v', PSn w0 P (adL a i v') (setL s i L5) (strT _ tr T5 :: pkT _ r O5 :: ext) R w
/-- What a packet that comes leaves. -/
def cmS (s : Pr) (i : Nat) (x : Pk) : Pr := setG (setL s i (tkL (s.L i) x)) i (s.G i ++ tkT (s.L i) x)
def CmP (w0 : World) (P : Nat) (a : Ad) (s : Pr) (ext : List (Tg w0.heap.size)) (R : Nat → List Pk) (i : Nat) (k : Int) (e : Ending) (w' : World) : Prop :=
  if takeE R noA (2 - (i : Int)) (1 + (i : Int)) k = 0 then e = .returned (.bool (lookE (s.L i) (takeP R noA (2 - (i : Int)) (1 + (i : Int)) k) == 0)) ∧ ∃ a', PSn w0 P a' (cmS s i (takeP R noA (2 - (i : Int)) (1 + (i : Int)) k)) ext (outR (takeR R noA (2 - (i : Int)) (1 + (i : Int)) k) (tkO (s.L i) (takeP R noA (2 - (i : Int)) (1 + (i : Int)) k))) w'
  else e = .returned (.bool true) ∧ PSn w0 P a s ext R w'
set_option maxRecDepth 100000 in
set_option maxHeartbeats 4000000 in
theorem come_any {w0 w : World} {P : Nat} {a : Ad} {s : Pr} {ext : List (Tg w0.heap.size)} {R : Nat → List Pk} (h : PSn w0 P a s ext R w) {i : Nat} (hi : i < 2) (k : Int) (hok : LkOk (s.L i)) (hel : (s.L i).e.length ≤ 900) (hc : cntN R 256 ≤ 400) (hgl : (s.G i).length ≤ 1000)
    (hx : ∀ x, takeP R noA (2 - (i : Int)) (1 + (i : Int)) k = x → x.x.size ≤ 140737488355328 ∧ (∀ p ∈ tkO (s.L i) x, p.x.size ≤ 140737488355328) ∧ (tkO (s.L i) x).length ≤ 1000 ∧ (tkT (s.L i) x).length ≤ 1000) (hcr : cntN (takeR R noA (2 - (i : Int)) (1 + (i : Int)) k) 256 ≤ 400) :
    Calls Try.prog 31 #[.pointer (some ⟨P, 0, none⟩), .int .i64 (i : Int), .int .i64 k] w fun e w' => CmP w0 P a s ext R i k e w' := by
  have w1 : IntKind.i64.wrap (2 - (i : Int)) = 2 - (i : Int) := wrapI (by omega) (by omega)
  have w2 : IntKind.i64.wrap (1 + (i : Int)) = 1 + (i : Int) := wrapI (by omega) (by omega)
  have HP0 : Hid (PSn w0 P a s (blkT _ w.heap.size (.cells #[.int .i64 (2 - (i : Int)), .int .i64 (1 + (i : Int))] 97) :: ext) R (w.alloc (.cells #[.int .i64 (2 - (i : Int)), .int .i64 (1 + (i : Int))] 97))) := h.alloc _
  have HCa : Hid (∀ w', takeE R noA (2 - (i : Int)) (1 + (i : Int)) k = 0 → (∃ a', PSn w0 P a' (cmS s i (takeP R noA (2 - (i : Int)) (1 + (i : Int)) k)) ext (outR (takeR R noA (2 - (i : Int)) (1 + (i : Int)) k) (tkO (s.L i) (takeP R noA (2 - (i : Int)) (1 + (i : Int)) k))) w') → CmP w0 P a s ext R i k (.returned (.bool (lookE (s.L i) (takeP R noA (2 - (i : Int)) (1 + (i : Int)) k) == 0))) w') := fun w' he hp => by unfold CmP; rw [if_pos he]; exact ⟨rfl, hp⟩
  have HCb : Hid (∀ w', takeE R noA (2 - (i : Int)) (1 + (i : Int)) k ≠ 0 → PSn w0 P a s ext R w' → CmP w0 P a s ext R i k (.returned (.bool true)) w') := fun w' he hp => by unfold CmP; rw [if_neg he]; exact ⟨rfl, hp⟩
  have HTk : Hid (∀ (ex : List (Tg w0.heap.size)) w', PSn w0 P a s ex R w' → Calls Try.prog 51 #[nP a.gn, hV (2 - (i : Int)) (1 + (i : Int)), .int .i64 k] w' fun e w'' => e = .returned (.tuple #[pV (takeP R noA (2 - (i : Int)) (1 + (i : Int)) k), .int .i64 (takeE R noA (2 - (i : Int)) (1 + (i : Int)) k)]) ∧ PSn w0 P a s ex (takeR R noA (2 - (i : Int)) (1 + (i : Int)) k) w'') := fun ex w' hp => hp.takeN _ _ _ hc
  obtain ⟨x1, x2, x3, x4⟩ := hx _ rfl
  have HXs : Hid (∀ p ∈ tkO (s.L i) (takeP R noA (2 - (i : Int)) (1 + (i : Int)) k), p.x.size ≤ 140737488355328) := x2
  have HOK : Hid (LkOk (s.L i)) := hok
  have HR0 : Hid (takeE R noA (2 - (i : Int)) (1 + (i : Int)) k ≠ 0 → takeR R noA (2 - (i : Int)) (1 + (i : Int)) k = R) := fun hn => by unfold takeR; rw [if_neg hn]
  clear h hok hx x2
  generalize takeP R noA (2 - (i : Int)) (1 + (i : Int)) k = x at *
  generalize takeE R noA (2 - (i : Int)) (1 + (i : Int)) k = E at *
  generalize takeR R noA (2 - (i : Int)) (1 + (i : Int)) k = R1 at *
  go_enter Try.func31, Try.ntmps31
  go_wp2_with fail
  generalize hW1 : w.alloc (.cells #[.int .i64 (2 - (i : Int)), .int .i64 (1 + (i : Int))] 97) = W1 at *
  generalize hHH : w.heap.size = H at *
  clear hW1 hHH
  go_cut [8, 9] (fun p q wx => CmR w0 P a s (blkT _ H (.cells #[.int .i64 (2 - (i : Int)), .int .i64 (1 + (i : Int))] 97) :: ext) R1 x E p q wx)
  case first =>
    obtain ⟨-, p2, -, -, -⟩ := HP0.out.cells
    have hh := HP0.out.box (N := H) (o := .cells #[.int .i64 (2 - (i : Int)), .int .i64 (1 + (i : Int))] 97) (by simp)
    have h0 : W1.cell? ⟨H, 0, none⟩ = some (.int .i64 (2 - (i : Int))) := by rw [Lib.cell_of_heap hh]; rfl
    have h1 : W1.cell? ⟨H, 1, none⟩ = some (.int .i64 (1 + (i : Int))) := by rw [Lib.cell_of_heap hh]; rfl
    have hA : PSn w0 P a s (blkT _ H (.cells #[.int .i64 (2 - (i : Int)), .int .i64 (1 + (i : Int))] 97) :: ext) R W1.drew := HP0.out.below (below_dr2 W1)
    have hB : PSn w0 P a s (blkT _ W1.heap.size (.cells (pA zP) 37) :: blkT _ H (.cells #[.int .i64 (2 - (i : Int)), .int .i64 (1 + (i : Int))] 97) :: ext) R (W1.alloc (.cells (pA zP) 37)).drew := (HP0.out.alloc _).below (below_dr2 _)
    obtain ⟨-, q2, -, -, -⟩ := hB.cells
    have hh2 := hB.box (N := H) (o := .cells #[.int .i64 (2 - (i : Int)), .int .i64 (1 + (i : Int))] 97) (by simp)
    have g0 : (W1.alloc (.cells (pA zP) 37)).cell? ⟨H, 0, none⟩ = some (.int .i64 (2 - (i : Int))) := by rw [← drew_cell, Lib.cell_of_heap hh2]; rfl
    have g1 : (W1.alloc (.cells (pA zP) 37)).cell? ⟨H, 1, none⟩ = some (.int .i64 (1 + (i : Int))) := by rw [← drew_cell, Lib.cell_of_heap hh2]; rfl
    rw [drew_cell] at q2
    obtain ⟨xf, xt, xfl, xtl, xsq, xak, xx⟩ := x
    dsimp only [pA, zP, pV] at *
    have HSo : Hid (∀ w5, PSn w0 P a s (blkT _ W1.heap.size (.cells #[.int .i64 0, .int .i64 0, .int .i64 0, .int .i64 0, .int .i64 0, .int .i64 0, .string ⟨#[]⟩] 37) :: blkT _ H (.cells #[.int .i64 (2 - (i : Int)), .int .i64 (1 + (i : Int))] 97) :: ext) R1 w5 → (∀ o, w5.frozen? ⟨W1.heap.size, o, none⟩ = false) ∧ w5.cell? ⟨W1.heap.size, 0, none⟩ = some (.int .i64 0) ∧ w5.cell? ⟨W1.heap.size, 1, none⟩ = some (.int .i64 0) ∧ w5.cell? ⟨W1.heap.size, 2, none⟩ = some (.int .i64 0) ∧ w5.cell? ⟨W1.heap.size, 3, none⟩ = some (.int .i64 0) ∧ w5.cell? ⟨W1.heap.size, 4, none⟩ = some (.int .i64 0) ∧ w5.cell? ⟨W1.heap.size, 5, none⟩ = some (.int .i64 0) ∧ w5.cell? ⟨W1.heap.size, 6, none⟩ = some (.string ⟨#[]⟩)) := fun w5 h5 => by
      have hb := h5.box (N := W1.heap.size) (o := .cells #[.int .i64 0, .int .i64 0, .int .i64 0, .int .i64 0, .int .i64 0, .int .i64 0, .string ⟨#[]⟩] 37) (by simp)
      exact ⟨fun o => by unfold World.frozen?; rw [hb]; simp, by rw [Lib.cell_of_heap hb]; rfl, by rw [Lib.cell_of_heap hb]; rfl, by rw [Lib.cell_of_heap hb]; rfl, by rw [Lib.cell_of_heap hb]; rfl, by rw [Lib.cell_of_heap hb]; rfl, by rw [Lib.cell_of_heap hb]; rfl, by rw [Lib.cell_of_heap hb]; rfl⟩
    clear hh hh2 HCa HCb
    go_region_with (go_at_call 51; refine (HTk.out _ _ (by with_reducible assumption)).mono ?_; rintro e w5 ⟨rfl, T5⟩; first | (have hso := (by with_reducible exact HSo.out _ T5); obtain ⟨s9, s0, s1, s2, s3, s4, s5, s6⟩ := hso) | skip)
    all_goals (try go_wp2_with fail)
    all_goals go_meet
    all_goals first | with_reducible exact CmR.late ⟨xf, xt, xfl, xtl, xsq, xak, xx⟩ T5 | with_reducible exact CmR.soon ⟨xf, xt, xfl, xtl, xsq, xak, xx⟩ T5
  case rest =>
    obtain ⟨N, rfl, rfl, T1⟩ := hcut
    clear HP0 HTk
    by_cases hE : E = 0
    · subst hE
      obtain ⟨e0, e1, e2, e3, e4, e5, e6⟩ := pk_cells (T1.box (N := N) (o := .cells (pA x) 37) (by simp))
      obtain ⟨-, -, pc, pz, -⟩ := T1.cells
      obtain ⟨pl, -, -⟩ := pc i hi
      have HL : Hid (Calls Try.prog 17 #[lP (a.gl i), pV x] wc.drew fun e w' => ∃ tr r q, e = .returned (.tuple #[tr, r, q]) ∧ TkN w0 P a s (blkT _ N (.cells (pA x) 37 (0, 0)) :: ext) R1 i (tkL (s.L i) x) (tkT (s.L i) x) (tkO (s.L i) x) (lookE (s.L i) x) tr r q w') := by
        refine (PSn.takeL (T1.rot.tl.below (below_dr2 wc)) hi HOK.out hel x x1).mono fun e w' hp => ?_
        obtain ⟨tr, r, v', he, hT⟩ := hp
        exact ⟨tr, r, _, he, rfl, v', hT⟩
      have HFin : Hid (∀ w', (∃ a', PSn w0 P a' (setG (setL s i (tkL (s.L i) x)) i (s.G i ++ tkT (s.L i) x)) ext (outR R1 (tkO (s.L i) x)) w') → CmP w0 P a s ext R i k (.returned (.bool (lookE (s.L i) x == 0))) w') := fun w' hp => HCa.out w' rfl hp
      clear HCa HCb HR0 hc
      generalize tkL (s.L i) x = L5 at *
      generalize tkT (s.L i) x = T5 at *
      generalize tkO (s.L i) x = O5 at *
      generalize lookE (s.L i) x = lk at *
      have i1 : (0 : Int) ≤ (i : Int) := by omega
      have i2 : (i : Int) < 2 := by omega
      clear T1 pc
      have HKp : Hid (∀ tr r q w', TkN w0 P a s (blkT _ N (.cells (pA x) 37 (0, 0)) :: ext) R1 i L5 T5 O5 lk tr r q w' → w'.cell? ⟨P, i, none⟩ = some (lP (a.gl i)) ∧ w'.cell? ⟨N, 0, none⟩ = some (.int .i64 x.f) ∧ w'.cell? ⟨N, 1, none⟩ = some (.int .i64 x.t) ∧ w'.cell? ⟨N, 2, none⟩ = some (.int .i64 x.fl) ∧ w'.cell? ⟨N, 3, none⟩ = some (.int .i64 x.tl) ∧ w'.cell? ⟨N, 4, none⟩ = some (.int .i64 x.sq) ∧ w'.cell? ⟨N, 5, none⟩ = some (.int .i64 x.ak) ∧ w'.cell? ⟨N, 6, none⟩ = some (.string x.x)) := fun tr r q w' hT => by
        obtain ⟨-, v', hT⟩ := hT
        obtain ⟨-, -, pc, -, -⟩ := hT.cells
        exact ⟨(pc i hi).1, pk_cells (hT.box (N := N) (o := .cells (pA x) 37) (by simp))⟩
      obtain ⟨xf, xt, xfl, xtl, xsq, xak, xx⟩ := x
      dsimp only [pV] at e0 e1 e2 e3 e4 e5 e6 HL HKp
      go_wp2_with fail
      go_region_held3 (fun w' => w'.cell? ⟨P, i, none⟩ = some (lP (a.gl i)) ∧ w'.cell? ⟨N, 0, none⟩ = some (.int .i64 xf) ∧ w'.cell? ⟨N, 1, none⟩ = some (.int .i64 xt) ∧ w'.cell? ⟨N, 2, none⟩ = some (.int .i64 xfl) ∧ w'.cell? ⟨N, 3, none⟩ = some (.int .i64 xtl) ∧ w'.cell? ⟨N, 4, none⟩ = some (.int .i64 xsq) ∧ w'.cell? ⟨N, 5, none⟩ = some (.int .i64 xak) ∧ w'.cell? ⟨N, 6, none⟩ = some (.string xx))
        (first | exact HKp.out _ _ _ _ (by with_reducible assumption) | go_keep)
        ((go_at_call 17; refine HL.out.mono ?_; rintro e w5 ⟨tr, r, q, rfl, T6⟩))
      rename_i hH9
      clear hH9 e0 e1 e2 e3 e4 e5 e6 HL HKp pl pz
      obtain ⟨rfl, v', T7⟩ := T6
      obtain ⟨exN, hexN⟩ : ∃ exN, exN = (blkT w0.heap.size N (.cells (pA ⟨xf, xt, xfl, xtl, xsq, xak, xx⟩) 37 (0, 0)) :: ext) := ⟨_, rfl⟩
      rw [← hexN] at T7
      have HEx : Hid (∀ a' s' R' w', PSn w0 P a' s' exN R' w' → PSn w0 P a' s' ext R' w') := fun a' s' R' w' h => by rw [hexN] at h; exact h.tl
      clear hexN
      have HT7 : Hid (PSn w0 P (adL a i v') (setL s i L5) (strT _ tr T5 :: pkT _ r O5 :: exN) R1 w5) := T7
      have HT8 : Hid (PSn w0 P (adL a i v') (setL s i L5) (strT _ tr T5 :: pkT _ r O5 :: exN) R1 w5.drew) := T7.below (below_dr2 w5)
      obtain ⟨hpb, -, pc, pz, -⟩ := T7.cells
      obtain ⟨-, -, pg⟩ := pc i hi
      have pg : w5.cell? ⟨P, 5 + i, none⟩ = some (a.vg i) := pg
      have hgr : w5.drew.ownsRow w0.heap.size 9 1 (a.vg i) (s.G i).length ((s.G i).map .string) := (HT8.out.rows hi).2
      have htr : IsRow w5.drew 1 tr T5.length (T5.map .string) := IsRow.own (HT8.out.ext (t := strT _ tr T5) (List.mem_cons_self ..))
      have HGR : Hid (w5.drew.ownsRow w0.heap.size 9 1 (a.vg i) (s.G i).length ((s.G i).map .string)) := hgr
      have HTR : Hid (IsRow w5.drew 1 tr T5.length (T5.map .string)) := htr
      have hz5 : w0.heap.size ≤ w5.drew.heap.size := T7.to.size
      obtain ⟨ta, tcap, rfl⟩ := htr.form
      have HKP : Hid (∀ w6, w5.drew.grownBy w6 (a.vg i).ownBlock → w6.heap[P]? = some (.cells (pairC (adL a i v')) 66 (0, 0))) := fun w6 hg => HT8.out.keepP (HT8.out.far hi).1 hg
      have HPz := pz
      clear T7 hpb pc hgr htr
      have hln : (s.G i).length + T5.length ≤ 1000000 := by omega
      go_wp2_with fail
      go_region_law (refine step_strs w5.drew rfl (.tmp 49) (.tmp 50) rfl w0.heap.size (a.vg i) (.slice ta T5.length tcap) (s.G i) T5 rfl rfl HGR.out HTR.out hln hz5 ?_; intro v8 w8 hown8 hgrow8 hat8; have hk8 := pair_cells2 (HKP.out w8 hgrow8) hi; obtain ⟨-, c8, z8⟩ := hk8; obtain ⟨va8, vcap8, rfl⟩ := (IsRow.own hown8).form)
      have HX9 : Hid (PSn w0 P (adG (adL a i v') i (.slice va8 (s.G i ++ T5).length vcap8)) (setG (setL s i L5) i (s.G i ++ T5)) (pkT _ r O5 :: exN) R1 (w8.setCell ⟨P, 5 + i, none⟩ (.slice va8 (s.G i ++ T5).length vcap8))) := (HT8.out.got hi hown8 hgrow8 hat8).tl
      clear hown8 hgrow8 hat8 c8 z8 HT7 HT8 HGR HTR HKP pg pz HPz
      rw [List.length_append] at HX9
      generalize w8.setCell ⟨P, 5 + i, none⟩ (.slice va8 ((s.G i).length + T5.length) vcap8) = Z at *
      have HOu : Hid (Calls Try.prog 29 #[.pointer (some ⟨P, 0, none⟩), r] Z fun e w' => e = .returned (.tuple #[]) ∧ PSn w0 P (adG (adL a i v') i (.slice va8 ((s.G i).length + T5.length) vcap8)) (setG (setL s i L5) i (s.G i ++ T5)) (pkT _ r O5 :: exN) (outR R1 O5) w') := out_any HX9.out hcr HXs.out x3
      go_wp2_with fail
      refine HOu.out.mono ?_
      rintro e w9 ⟨rfl, T9⟩
      have HF9 : Hid (CmP w0 P a s ext R i k (.returned (.bool (lk == 0))) w9) := HFin.out w9 ⟨_, HEx.out _ _ _ _ T9.tl⟩
      clear T9 HOu HX9 HFin HEx
      go_wp2
      go_ret
      exact HF9.out
    · have n0 : (E != 0) = true := ne_f hE
      have HF : Hid (CmP w0 P a s ext R i k (.returned (.bool true)) wc) := HCb.out wc hE (by rw [← HR0.out hE]; exact T1.tl.tl)
      clear T1 HCa HCb
      go_wp2
      go_ret
      exact HF.out
end Go.Proofs.Ytiejehaaglpkoaa
