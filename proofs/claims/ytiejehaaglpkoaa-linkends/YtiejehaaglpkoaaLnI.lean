/- link's handOn: its walk. -/
import Derived.Test.YtiejehaaglpkoaaLnH
namespace Go.Proofs.Ytiejehaaglpkoaa
open Go.RowKit Go.ChangeMaps

def mapSize (w : World) (m : Nat) : Nat := match w.heap[m]? with | some (.map es _) => es.size | _ => 0
theorem MapE.sized {w : World} {m : Nat} {E : List (Int × ByteArray)} (h : MapE w m E) : mapSize w m = E.length := by
  obtain ⟨es, c, hb, hr⟩ := h
  have hl : es.size = E.length := by
    have := congrArg List.length hr
    simpa using this
  unfold mapSize
  rw [hb]
  exact hl
def nxt (L : Lk) : Lk := ⟨L.x, L.q, L.b, L.o, L.wn + 1, dropE L.e L.wn⟩
/-- What is handed on by a link. -/
abbrev hndL (L : Lk) : Lk := (hnd L.e.length L).2
abbrev hndT (L : Lk) : List ByteArray := (hnd L.e.length L).1
theorem LkOk.nxt {L : Lk} (h : LkOk L) (hw : L.wn < 1099511627775) : LkOk (nxt L) := ⟨h.b0, h.b1, h.o8, h.oq, h.q64, by show 1 ≤ L.wn + 1; have := h.w0; omega, by show L.wn + 1 ≤ _; omega⟩
theorem LkOk.hnd : ∀ (n : Nat) {L : Lk}, LkOk L → LkOk (hnd n L).2
  | 0, L, h => h
  | n + 1, L, h => by
    by_cases hw : L.wn < 1099511627775
    · cases h2 : atE L.e L.wn with
      | none => rw [hnd_stop (.inr h2)]; exact h
      | some s => rw [hnd_go hw h2]; exact LkOk.hnd n (h.nxt hw)
    · rw [hnd_stop (.inl hw)]; exact h
/-- Where the loop stands: T is handed on, L1 is left. -/
structure HRel (L : Lk) (T : List ByteArray) (L1 : Lk) : Prop where
  eq : hnd L.e.length L = (T ++ (hnd L1.e.length L1).1, (hnd L1.e.length L1).2)
  len : T.length + L1.e.length = L.e.length
  ok : LkOk L1
theorem HRel.go {L L1 : Lk} {T : List ByteArray} {s : ByteArray} (h : HRel L T L1) (h1 : L1.wn < 1099511627775) (h2 : atE L1.e L1.wn = some s) : HRel L (T ++ [s]) (nxt L1) := by
  have hl := dropE_len h2
  have e : (nxt L1).e.length + 1 = L1.e.length := hl
  refine ⟨?_, by rw [List.length_append, List.length_singleton]; have := h.len; omega, h.ok.nxt h1⟩
  rw [h.eq, ← e, hnd_go h1 h2]
  show _ = (T ++ [s] ++ (hnd (nxt L1).e.length (nxt L1)).1, _)
  rw [List.append_assoc]
  rfl
theorem HRel.stop {L L1 : Lk} {T : List ByteArray} (h : HRel L T L1) (h1 : ¬ L1.wn < 1099511627775 ∨ atE L1.e L1.wn = none) : hndT L = T ∧ hndL L = L1 := by
  unfold hndT hndL
  rw [h.eq, hnd_stop h1]
  simp
def HdP (base : Nat) (w : World) (g m : Nat) (vq : Value) (L : Lk) (e : Ending) (w' : World) : Prop := ∃ r, e = .returned r ∧ w'.ownsRow w.heap.size 9 1 r (hndT L).length ((hndT L).map .string) ∧ LinkV base w' g m vq (hndL L) ∧ Stp w (LF g m vq) (LF g m vq) w'
set_option maxRecDepth 100000 in
set_option maxHeartbeats 4000000 in
theorem handOn_any {base : Nat} {w : World} {g m : Nat} {vq : Value} {L : Lk} (h : LinkV base w g m vq L) (hok : LkOk L) (hel : L.e.length ≤ 1000) :
    Calls Try.prog 40 #[lP g] w fun e w' => HdP base w g m vq L e w' := by
  obtain ⟨hgs, hms, hbs⟩ := h.size
  have HV0 : Hid (LinkV base w g m vq L) := h
  have HR0 : Hid (HRel L [] L) := ⟨rfl, by simp, hok⟩
  have HLT : Hid (∀ k, LF g m vq k → k < w.heap.size) := fun k hk => (h.lt hk).2
  obtain ⟨i0, hi0, hz0, hz1, hz2⟩ := info_parts info_str
  clear h hok
  go_enter Try.func40, Try.ntmps40
  go_wp2_with fail
  go_loopw [2] (fun r wr => ∃ T L1, Hid (HRel L T L1) ∧ Hid (wr.ownsRow w.heap.size 9 1 r T.length (T.map .string)) ∧ Hid (LinkV base wr g m vq L1) ∧ Hid (Stp w (LF g m vq) (LF g m vq) wr)) (fun _ wr => mapSize wr m)
  case atStart => exact ⟨[], L, HR0, World.ownsRow_nil _ _ _ _, HV0, Stp.of _ (Below.refl _ _)⟩
  case round =>
    obtain ⟨T, L1, HR, HO, HV, HS⟩ := hrel
    obtain ⟨-, -, -, -, c8, c9, fz⟩ := HV.out.cells
    have w0 := HR.out.ok.w0
    have w1 := HR.out.ok.w1
    by_cases h1 : L1.wn < 1099511627775
    · have d1 : decide (L1.wn < 1099511627775) = true := by simp; omega
      have HV2 : Hid (LinkV base (wr.alloc (.cells #[.string ⟨#[]⟩] 112)).drew g m vq L1) := (HV.out.below (al_b wr _)).keep fun _ _ => rfl
      have HV3 : Hid (LinkV base wr.drew g m vq L1) := HV.out.keep fun _ _ => rfl
      obtain ⟨-, -, -, -, c82, c92, fz2⟩ := (HV.out.below (al_b wr (.cells #[.string ⟨#[]⟩] 112))).cells
      cases h2 : atE L1.e L1.wn with
      | none =>
        have l1 := HV2.out.mp.look L1.wn
        have l2 := HV3.out.mp.look L1.wn
        rw [h2] at l1 l2
        dsimp only [Option.getD_none, Option.isSome_none] at l1 l2
        have HE : Hid (HdP base w g m vq L (.returned u2) (wr.alloc (.cells #[.string ⟨#[]⟩] 112)).drew) := by
          obtain ⟨e1, e2⟩ := HR.out.stop (.inr h2)
          refine ⟨_, rfl, ?_, ?_, HS.out.trans (Stp.of _ (al_b wr _).drew)⟩
          · rw [e1]; exact row_keep HO.out fun k hk => Below.heap_alloc wr _ k (HO.out.lt k hk).2
          · rw [e2]; exact HV2.out
        clear h2 HO HR HS HV HV2 HV3
        go_wp2_with fail
        go_region
        all_goals
          go_wp2
          go_ret
          exact HE.out
      | some s =>
        have l1 := HV2.out.mp.look L1.wn
        have l2 := HV3.out.mp.look L1.wn
        rw [h2] at l1 l2
        dsimp only [Option.getD_some, Option.isSome_some] at l1 l2
        have HR2 : Hid (HRel L (T ++ [s]) (nxt L1)) := HR.out.go h1 h2
        have HMs : Hid (mapSize wr m = (dropE L1.e L1.wn).length + 1) := by show _ = _; rw [HV.out.mp.sized, dropE_len h2]
        have hTl : Hid (T.length ≤ 1000) := by have := HR.out.len; show _ ≤ _; omega
        have hV5 : LinkV base (wr.alloc (.cells #[.string s] 112)).drew g m vq L1 := (HV.out.below (al_b wr _)).keep fun _ _ => rfl
        have HO5 : Hid ((wr.alloc (.cells #[.string s] 112)).drew.ownsRow w.heap.size 9 1 u2 T.length (T.map .string)) := row_keep HO.out fun k hk => Below.heap_alloc wr _ k (HO.out.lt k hk).2
        have HS5 : Hid (Stp w (LF g m vq) (LF g m vq) (wr.alloc (.cells #[.string s] 112)).drew) := HS.out.trans (Stp.of _ (al_b wr _).drew)
        have hx5 : (wr.alloc (.cells #[.string s] 112)).drew.heap[wr.heap.size]? = some (.cells #[.string s] 112 (0, 0)) := heap_alloc_new wr _
        have HV5 : Hid (LinkV base (wr.alloc (.cells #[.string s] 112)).drew g m vq L1) := hV5
        have HX5 : Hid ((wr.alloc (.cells #[.string s] 112)).drew.heap[wr.heap.size]? = some (.cells #[.string s] 112 (0, 0))) := hx5
        have HLm : Hid (wr.heap.size ≠ m) := fun e => by have := HV.out.size.2.1; omega
        have HLu : Hid (∀ k, u2.ownBlock = some k → k ≠ m) := fun k hk e => by have h1 := (HO.out.lt k hk).1; omega
        clear h2 HO HR HS hV5 hx5
        go_wp2_with fail
        go_region
        all_goals
          clear l1 l2 c8 c9 c82 c92 fz fz2
          generalize (wr.alloc (.cells #[.string s] 112)).drew = Z at *
          obtain ⟨-, -, -, -, c8, c9, fz⟩ := HV5.out.cells
          obtain ⟨w4, hdel, hm4, hg4⟩ := (show MapE Z.drew m L1.e from HV5.out.mp.keep rfl).del L1.wn
          have HV6 := (show LinkV base Z.drew g m vq L1 from HV5.out.keep fun _ _ => rfl).putE hg4 hm4
          have HVa : Hid (LinkV base w4 g m vq (setE L1 (dropE L1.e L1.wn))) := HV6.1
          have HSa : Hid (Stp w (LF g m vq) (LF g m vq) w4) := by
            have h1 := HS5.out
            have h2 := HV6.2
            exact (show Stp w (LF g m vq) (LF g m vq) Z.drew from ⟨h1.os, h1.tape, h1.output, h1.size, h1.block, h1.fp⟩).trans h2
          have HOa : Hid (w4.ownsRow w.heap.size 9 1 u2 T.length (T.map .string)) := row_keep HO5.out fun k hk => hg4.block k (HO5.out.lt k hk).2 (fun e => HLu.out k hk (Option.some.inj e))
          have hxa : w4.heap[wr.heap.size]? = some (.cells #[.string s] 112 (0, 0)) := (hg4.block wr.heap.size (Array.getElem?_eq_some_iff.1 HX5.out).1 (fun e => HLm.out (Option.some.inj e))).trans HX5.out
          have y0 : w4.cell? ⟨wr.heap.size, 0, none⟩ = some (.string s) := by rw [Lib.cell_of_heap hxa]; rfl
          have hsz4 := HSa.out.size
          have htl := hTl.out
          have wz : IntKind.i64.wrap (L1.wn + 1) = L1.wn + 1 := wrapI (by omega) (by omega)
          clear HV6 hm4 hg4 hxa HV5 HX5 HO5 HS5 HV2 HV3
          go_wp2_with fail
          go_region
          all_goals
            clear hdel c8 c9 fz
            go_wp2_with (at_builtin; go_loud (refine wpl_app w4 rfl (.tmp 32) (.tmp 35) 30 9 rfl i0 _ 16 Try.underlying30 hi0 hz0 hz1 hz2 rfl w.heap.size u2 T.length _ rfl HOa.out (.string s) rfl rfl (by omega) (by unfold maxLen; omega) hsz4 ?_); intro v5 w5 hown5 hb5 hne5; have HVb : Hid (LinkV base w5 g m vq (setE L1 (dropE L1.e L1.wn))) := HVa.out.keep (fun k hk => hb5.block k (HLT.out k hk)); have c8 : w5.cell? ⟨g, 8, none⟩ = some (.int .i64 L1.wn) := HVb.out.cells.2.2.2.2.1; have fz := HVb.out.cells.2.2.2.2.2.2)
            have HOb : Hid (w5.ownsRow w.heap.size 9 1 v5 (T ++ [s]).length ((T ++ [s]).map .string)) := by
              show World.ownsRow _ _ _ _ _ _ _
              rw [List.length_append, List.length_singleton, List.map_append]; exact hown5
            have HSb : Hid (Stp w (LF g m vq) (LF g m vq) w5) := by
              have h1 := HSa.out
              exact ⟨hb5.os.trans h1.os, hb5.tape.trans h1.tape, hb5.output.trans h1.output, Nat.le_trans h1.size hb5.size, fun k hk hn => (hb5.block k hk).trans (h1.block k hk hn), fun _ h => .inl h⟩
            clear hown5 hb5 hne5 y0 HVa HSa HOa
            go_wp2
            go_roundw
            case rel =>
              obtain ⟨h1, h2⟩ := HVb.out.setI (c := 8) (v := .int .i64 (L1.wn + 1)) (L' := nxt L1) rfl rfl rfl
              refine ⟨T ++ [s], nxt L1, HR2, ?_, h1, HSb.out.trans h2⟩
              refine row_keep HOb.out fun k hk => (setCell_at w5 8 HVb.out.blk _).2 k fun e => ?_
              have := (HOb.out.lt k hk).1
              omega
            case measure =>
              obtain ⟨h1, h2⟩ := HVb.out.setI (c := 8) (v := .int .i64 (L1.wn + 1)) (L' := nxt L1) rfl rfl rfl
              rw [h1.mp.sized, HMs.out]
              exact Nat.lt_succ_self _
    · have d1 : decide (L1.wn < 1099511627775) = false := by simp; omega
      have HE : Hid (HdP base w g m vq L (.returned u2) wr) := by
        obtain ⟨e1, e2⟩ := HR.out.stop (.inl h1)
        refine ⟨_, rfl, ?_, ?_, HS.out⟩
        · rw [e1]; exact HO.out
        · rw [e2]; exact HV.out
      go_wp2
      go_ret
      exact HE.out
end Go.Proofs.Ytiejehaaglpkoaa
