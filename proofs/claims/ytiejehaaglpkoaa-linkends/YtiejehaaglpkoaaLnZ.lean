/- The law's fresh: its walk. -/
import Derived.Test.YtiejehaaglpkoaaLnY
namespace Go.Proofs.Ytiejehaaglpkoaa
open Go.RowKit Go.ChangeMaps

abbrev n0V : Value := .slice none 0 0
/-- A pair at its beginning. -/
def pr0 (f : Int) : Pr := ⟨fun i => if i = 0 then newL (edA f) else newL (edB f), noR, fun _ => [], fun _ => []⟩
def Fb (w0 : World) (H : Nat) (f : Int) (l : List (Tg w0.heap.size)) (w : World) : Prop := St w0 l w ∧ Bx2 H f w
theorem Fb.below {w0 w w' : World} {H : Nat} {f : Int} {l : List (Tg w0.heap.size)} (h : Fb w0 H f l w) (hb : Below w.heap.size w w') : Fb w0 H f l w' := ⟨h.1.below hb, h.2.below hb⟩
theorem Fb.newL {w0 w : World} {H : Nat} {f : Int} {l : List (Tg w0.heap.size)} (h : Fb w0 H f l w) (x : Ed) (hx : mayX x = true) :
    Calls Try.prog 8 #[eV x] w fun e w' => ∃ g m, e = .returned (lP g) ∧ Fb w0 H f (linkT _ g m n0V (newL x) :: l) w' :=
  (newE_any h.1 x hx).mono fun _ _ ⟨g, m, he, h1, h2⟩ => ⟨g, m, he, h1, h.2.below h2⟩
theorem Fb.newN {w0 w : World} {H : Nat} {f : Int} {l : List (Tg w0.heap.size)} (h : Fb w0 H f l w) :
    Calls Try.prog 46 #[] w fun e w' => ∃ g, e = .returned (nP g) ∧ Fb w0 H f (netT _ g noV noR noA :: l) w' := by
  refine (new_any w).mono fun e w' hp => ?_
  obtain ⟨he, rfl⟩ := hp
  have hn := net_new w
  have hz := h.1.2.2.size
  exact ⟨w.heap.size, he, h.1.new (al_b w _) (t := netT _ w.heap.size noV noR noA) ⟨hz, hn.blk, fun c hc => .inl ⟨rfl, rfl⟩, fun c _ => by simp [noV, Value.ownBlock], fun c d _ _ _ => .inl rfl⟩ (fun k hk => (hn.lt hk).1), h.2.below (al_b w _)⟩
theorem St.nilS {w0 w : World} {l : List (Tg w0.heap.size)} (h : St w0 l w) : St w0 (strT _ n0V [] :: l) w :=
  h.new (Below.refl _ _) (t := strT _ n0V []) (World.ownsRow_nil _ _ _ _) fun k hk => by simp [strT, Value.ownBlock] at hk
/-- What a fresh pair is. -/
def FrP (w0 : World) (f : Int) (l : List (Tg w0.heap.size)) (e : Ending) (w : World) : Prop := ∃ P a, e = .returned (.pointer (some ⟨P, 0, none⟩)) ∧ PSn w0 P a (pr0 f) l noR w
theorem FrP.mk {w0 w : World} {f : Int} {ga ma gb mb gn : Nat} {l : List (Tg w0.heap.size)} (h : St w0 (linkT _ ga ma n0V (newL (edA f)) :: linkT _ gb mb n0V (newL (edB f)) :: netT _ gn noV noR noA :: l) w) :
    FrP w0 f l (.returned (.pointer (some ⟨w.heap.size, 0, none⟩))) (w.alloc (.cells #[lP ga, lP gb, nP gn, n0V, n0V, n0V, n0V] 66)) := by
  refine ⟨w.heap.size, ⟨fun i => if i = 0 then ga else gb, fun i => if i = 0 then ma else mb, fun _ => n0V, fun _ => n0V, fun _ => n0V, gn, noV⟩, rfl, noV, ?_⟩
  have h2 := (h.alloc (.cells #[lP ga, lP gb, nP gn, n0V, n0V, n0V, n0V] 66)).nilS.nilS.nilS.nilS
  exact h2.perm ((List.perm_append_comm (l₁ := [strT _ n0V [], strT _ n0V [], strT _ n0V [], strT _ n0V []]) (l₂ := [blkT _ w.heap.size (.cells #[lP ga, lP gb, nP gn, n0V, n0V, n0V, n0V] 66 (0, 0)), linkT _ ga ma n0V (newL (edA f)), linkT _ gb mb n0V (newL (edB f)), netT _ gn noV noR noA])).append_right l)
set_option maxRecDepth 100000 in
set_option maxHeartbeats 4000000 in
theorem fresh_any (f : Int) {w0 w : World} {l : List (Tg w0.heap.size)} (h : St w0 l w) (ha : mayX (edA f) = true) (hb : mayX (edB f) = true) : Calls Try.prog 26 #[.int .i64 f] w fun e w' => FrP w0 f l e w' := by
  have HT0 : Hid (St w0 l w) := h
  clear h
  have HEn : Hid (Calls Try.prog 34 #[.int .i64 f] w fun e w' => e = .returned (.tuple #[eV (edA f), eV (edB f)]) ∧ Below w.heap.size w w') := ends13_any f w
  have HNw : Hid (∀ H (l : List (Tg w0.heap.size)) w', Fb w0 H f l w' → ∀ me lf pe pl fi : Int, mayX ⟨me, lf, pe, pl, fi⟩ = true → Calls Try.prog 8 #[.agg #[.int .i64 me, .int .i64 lf, .int .i64 pe, .int .i64 pl, .int .i64 fi]] w' fun e w'' => ∃ g m, e = .returned (lP g) ∧ Fb w0 H f (linkT _ g m n0V (newL ⟨me, lf, pe, pl, fi⟩) :: l) w'') := fun H l w' h me lf pe pl fi hm => h.newL ⟨me, lf, pe, pl, fi⟩ hm
  have HNn : Hid (∀ H (l : List (Tg w0.heap.size)) w', Fb w0 H f l w' → Calls Try.prog 46 #[] w' fun e w'' => ∃ g, e = .returned (nP g) ∧ Fb w0 H f (netT _ g noV noR noA :: l) w'') := fun H l w' h => h.newN
  dsimp only [edA, edB] at ha hb
  go_enter Try.func26, Try.ntmps26
  go_wp2_with fail
  refine HEn.out.mono ?_
  rintro e w1 ⟨rfl, hb1⟩
  dsimp only [eV, edA, edB]
  have hbx := bx2_new w1 f
  have hbb : Below w.heap.size w ((w1.alloc (.cells (eA (edA f)) 23)).alloc (.cells (eA (edB f)) 23)) := (hb1.trans ((al_b w1 _).mono hb1.size)).trans ((al_b _ _).mono (by have := hb1.size; simp; omega))
  have hT0 : St w0 l ((w1.alloc (.cells (eA (edA f)) 23)).alloc (.cells (eA (edB f)) 23)) := HT0.out.below hbb
  have HX : Hid (Fb w0 w1.heap.size f l ((w1.alloc (.cells (eA (edA f)) 23)).alloc (.cells (eA (edB f)) 23))) := ⟨hT0, hbx⟩
  dsimp only [eA, edA, edB] at HX
  clear hbx hbb hT0 hb1
  go_wp2_with fail
  generalize ((w1.alloc (.cells #[.int .i64 1, .int .i64 1, .int .i64 2, .int .i64 1, .int .i64 f] 23)).alloc (.cells #[.int .i64 2, .int .i64 1, .int .i64 1, .int .i64 1, .int .i64 f] 23)) = W at *
  generalize w1.heap.size = H at *
  obtain ⟨⟨x0, x1, x2, x3, x4⟩, y0, y1, y2, y3, y4⟩ := HX.out.2.cells
  have hT1 : Fb w0 H f l W.drew := HX.out.below (below_dr2 W)
  go_region_with (first
    | (go_at_call 46; refine (HNn.out H _ _ (by with_reducible assumption)).mono ?_; rintro e wz ⟨g, rfl, T⟩)
    | (go_at_call 8; refine (HNw.out H _ _ (by with_reducible assumption) _ _ _ _ _ (by first | with_reducible exact ha | with_reducible exact hb)).mono ?_; rintro e wz ⟨g, m, rfl, T⟩; obtain ⟨⟨a0, a1, a2, a3, a4⟩, b0, b1, b2, b3, b4⟩ := T.2.cells))
  all_goals
    have HF : Hid (FrP w0 f l (.returned (.pointer (some ⟨wz.heap.size, 0, none⟩))) _) := FrP.mk T.1.rot2.rot3
    clear T HX hT1 HNw HNn HEn HT0
    go_wp2
    go_ret
    exact HF.out
end Go.Proofs.Ytiejehaaglpkoaa
