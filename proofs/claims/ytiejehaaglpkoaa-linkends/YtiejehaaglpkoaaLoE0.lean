/- Deeds, plainly; a pair and the law's packet beside. -/
import Derived.Test.YtiejehaaglpkoaaLoD
namespace Go.Proofs.Ytiejehaaglpkoaa
open Go.RowKit Go.ChangeMaps

/-- A deed, plainly. -/
structure Dd where
  kd : Int
  ad : Int
  n : Int
  t : ByteArray
deriving Inhabited
def enD (d : Dd) : List Value := [.int .i64 d.kd, .int .i64 d.ad, .int .i64 d.n, .string d.t]
abbrev dCells (l : List Dd) : List Value := l.flatMap enD
theorem dCells_get : ∀ (l : List Dd) (i : Nat) (hi : i < l.length) (j : Nat), j < 4 → (dCells l)[i * 4 + j]? = (enD l[i])[j]?
  | d :: l, 0, _, j, hj => by
    rw [show dCells (d :: l) = enD d ++ dCells l from rfl, List.getElem?_append_left (by simp [enD]; omega)]
    simp
  | d :: l, i + 1, hi, j, hj => by
    rw [show dCells (d :: l) = enD d ++ dCells l from rfl, List.getElem?_append_right (by simp [enD]; omega)]
    rw [show (i + 1) * 4 + j - (enD d).length = i * 4 + j by simp [enD]; omega]
    exact dCells_get l i (by simpa using hi) j hj
theorem deed_at {w : World} {v : Value} {l : List Dd} (h : IsRow w 4 v l.length (dCells l)) {i : Nat} (hi : i < l.length) :
    ∃ b off cap, v = .slice (some ⟨b, off, none⟩) l.length cap ∧ l.length ≤ cap ∧ cap ≤ maxLen ∧ (w.cell? ⟨b, off + i * 4, none⟩ = some (.int .i64 l[i].kd) ∧ w.cell? ⟨b, off + i * 4 + 1, none⟩ = some (.int .i64 l[i].ad) ∧ w.cell? ⟨b, off + i * 4 + 2, none⟩ = some (.int .i64 l[i].n) ∧ w.cell? ⟨b, off + i * 4 + 3, none⟩ = some (.string l[i].t)) := by
  rcases h.2 with ⟨h0, -⟩ | ⟨b, off, cap, hv, hb, h1, h2, hc⟩
  · omega
  refine ⟨b, off, cap, hv, h1, h2, ?_, ?_, ?_, ?_⟩
  · exact hc (i * 4 + 0) _ (dCells_get l i hi 0 (by omega))
  · exact hc (i * 4 + 1) _ (dCells_get l i hi 1 (by omega))
  · exact hc (i * 4 + 2) _ (dCells_get l i hi 2 (by omega))
  · exact hc (i * 4 + 3) _ (dCells_get l i hi 3 (by omega))
/-- A pair, and the law's packet beside. -/
def PX (w : World) (P : Nat) (x : Pk) (a : Ad) (s : Pr) (R : Nat → List Pk) (wr : World) : Prop := PSn w P a s [blkT _ w.heap.size (.cells (pA x) 37 (0, 0))] R wr
theorem PX.cells {w wr : World} {P : Nat} {x : Pk} {a : Ad} {s : Pr} {R : Nat → List Pk} (h : PX w P x a s R wr) : (wr.cell? ⟨P, 0, none⟩ = some (lP (a.gl 0)) ∧ wr.cell? ⟨P, 1, none⟩ = some (lP (a.gl 1))) ∧ (wr.cell? ⟨w.heap.size, 0, none⟩ = some (.int .i64 x.f) ∧ wr.cell? ⟨w.heap.size, 1, none⟩ = some (.int .i64 x.t) ∧ wr.cell? ⟨w.heap.size, 2, none⟩ = some (.int .i64 x.fl) ∧ wr.cell? ⟨w.heap.size, 3, none⟩ = some (.int .i64 x.tl) ∧ wr.cell? ⟨w.heap.size, 4, none⟩ = some (.int .i64 x.sq) ∧ wr.cell? ⟨w.heap.size, 5, none⟩ = some (.int .i64 x.ak) ∧ wr.cell? ⟨w.heap.size, 6, none⟩ = some (.string x.x)) ∧ ∀ o, wr.frozen? ⟨w.heap.size, o, none⟩ = false := by
  obtain ⟨-, -, pc, -, -⟩ := PSn.cells h
  have hb := PSn.box (N := w.heap.size) (o := .cells (pA x) 37) h (by simp)
  exact ⟨⟨(pc 0 (by omega)).1, (pc 1 (by omega)).1⟩, pk_cells hb, fun o => by simp [World.frozen?, hb]⟩
theorem PX.below {w wr w' : World} {P : Nat} {x : Pk} {a : Ad} {s : Pr} {R : Nat → List Pk} (h : PX w P x a s R wr) (hb : Below wr.heap.size wr w') : PX w P x a s R w' := PSn.below h hb
/-- Behind k deeds. -/
def PK (w : World) (P : Nat) (x : Pk) (k : Nat) (wr : World) : Prop := ∃ a s R, PX w P x a s R wr ∧ PI s R k
theorem PK.do {w wr : World} {P : Nat} {x : Pk} {k : Nat} (h : PK w P x k wr) (hk : k ≤ 500) (kd ad n : Int) (t : ByteArray) : Calls Try.prog 27 #[.pointer (some ⟨P, 0, none⟩), dV kd ad n t] wr fun e w' => e = .returned (.bool true) ∧ PK w P x (k + 1) w' := by
  obtain ⟨a, s, R, h1, h2⟩ := h
  exact (PI.do h1 h2 hk kd ad n t).mono fun e w' ⟨he, a', s', R', h3, h4⟩ => ⟨he, a', s', R', h3, h4⟩
theorem PK.to {w wr : World} {P : Nat} {x : Pk} {k : Nat} (h : PK w P x k wr) : Below w.heap.size w wr := by
  obtain ⟨a, s, R, h1, -⟩ := h
  exact PSn.to h1
theorem PX.set3 {w wr : World} {P : Nat} {xf xt xfl xtl xsq xak : Int} {xx : ByteArray} {a : Ad} {s : Pr} {R : Nat → List Pk} (h : PX w P ⟨xf, xt, xfl, xtl, xsq, xak, xx⟩ a s R wr) (u : Int) : PX w P ⟨xf, xt, xfl, u, xsq, xak, xx⟩ a s R (wr.setCell ⟨w.heap.size, 3, none⟩ (.int .i64 u)) := by
  obtain ⟨V', h⟩ := h
  have h1 : St w (blkT _ w.heap.size (.cells (pA ⟨xf, xt, xfl, xtl, xsq, xak, xx⟩) 37 (0, 0)) :: tgs _ P (pairC (adN a V')) (adN a V') (setR s R)) wr := h.perm List.perm_append_comm
  have hk : w.heap.size ≤ w.heap.size ∧ wr.heap[w.heap.size]? = some (.cells (pA ⟨xf, xt, xfl, xtl, xsq, xak, xx⟩) 37 (0, 0)) := h1.hd
  have h2 := h1.step (t' := blkT _ w.heap.size (.cells (pA ⟨xf, xt, xfl, u, xsq, xak, xx⟩) 37 (0, 0))) (stp_set hk.2 (.int .i64 u)) ⟨hk.1, by rw [(setCell_at wr 3 hk.2 _).1]; rfl⟩
  exact ⟨V', h2.perm (List.perm_append_comm (l₁ := [blkT _ w.heap.size (.cells (pA ⟨xf, xt, xfl, u, xsq, xak, xx⟩) 37 (0, 0))]))⟩
theorem PSn.lv {w0 w : World} {P : Nat} {a : Ad} {s : Pr} {ext : List (Tg w0.heap.size)} {R : Nat → List Pk} (h : PSn w0 P a s ext R w) : LinkV w0.heap.size w (a.gl 0) (a.ml 0) (a.vl 0) (s.L 0) := by
  obtain ⟨V', h⟩ := h
  obtain ⟨rest, f1, -⟩ := foc_link h (i := 0) (by omega)
  exact f1.hd
theorem old_look2 {i : Nat} {L : Lk} (hx : EndX i L) (y : Pk) (hy : ¬ (y.fl = 1 ∧ y.tl = 1)) : (lookE L y = 1 ∨ lookE L y = 4) ∧ tkL L y = L ∧ tkT L y = [] ∧ tkO L y = [] := by
  have := old_look hx y
  rw [show oldP y = y by unfold oldP; rw [if_neg hy]] at this
  exact this
/-- The end at block g is L, and nothing of what was there ahead is touched. -/
def TL (w : World) (g : Nat) (L : Lk) (w' : World) : Prop := (∃ m vq, LinkV w.heap.size w' g m vq L) ∧ Below w.heap.size w w'
theorem TL.calls {w w' : World} {g : Nat} {L : Lk} (h : TL w g L w') : (Calls Try.prog 22 #[lP g] w' fun e w'' => e = .returned (.int .i64 L.q.length) ∧ w'' = w') ∧ (Calls Try.prog 23 #[lP g] w' fun e w'' => e = .returned (.int .i64 L.b) ∧ w'' = w') ∧ (Calls Try.prog 24 #[lP g] w' fun e w'' => e = .returned (.int .i64 L.wn) ∧ w'' = w') ∧ (Calls Try.prog 25 #[lP g] w' fun e w'' => e = .returned (.int .i64 L.e.length) ∧ w'' = w') := by
  obtain ⟨⟨m, vq, h⟩, -⟩ := h
  exact ⟨left_any h, base_any h, wants_any h, early_any h⟩
theorem PX.take {w wr : World} {P : Nat} {x : Pk} {a : Ad} {s : Pr} {R : Nat → List Pk} {k : Nat} (h : PX w P x a s R wr) (hI : PI s R k) (hk : k ≤ 500) (hx : x.x.size ≤ 140737488355328) (hy : ¬ (x.fl = 1 ∧ x.tl = 1)) :
    TL w (a.gl 0) (s.L 0) wr ∧ Calls Try.prog 17 #[lP (a.gl 0), pV x] wr fun e w' => ∃ ta tcap ra rcap lk, e = .returned (.tuple #[.slice ta 0 tcap, .slice ra 0 rcap, .int .i64 lk]) ∧ (lk = 1 ∨ lk = 4) ∧ TL w (a.gl 0) (s.L 0) w' := by
  refine ⟨⟨⟨_, _, PSn.lv h⟩, PSn.to h⟩, (PSn.takeL h (i := 0) (by omega) (hI.en 0 (by omega)).ok (by have := hI.G 0 (by omega); omega) x hx).mono fun e w' hp => ?_⟩
  obtain ⟨tr, r, v', he, hT⟩ := hp
  obtain ⟨o1, o2, o3, o4⟩ := old_look2 (hI.en 0 (by omega)).x x hy
  rw [o2, o3, o4] at hT
  obtain ⟨ta, tcap, rfl⟩ := (IsRow.own (show w'.ownsRow _ 9 1 tr ([] : List ByteArray).length (([] : List ByteArray).map .string) from hT.ext (t := strT _ tr []) (by simp))).form
  obtain ⟨ra, rcap, rfl⟩ := (show OwnW w' _ r [] from hT.ext (t := pkT _ r []) (by simp)).form
  exact ⟨ta, tcap, ra, rcap, _, he, o1, ⟨a.ml 0, v', (show LinkV _ w' (a.gl 0) (a.ml 0) v' (s.L 0) from PSn.lv hT)⟩, PSn.to hT⟩
end Go.Proofs.Ytiejehaaglpkoaa
