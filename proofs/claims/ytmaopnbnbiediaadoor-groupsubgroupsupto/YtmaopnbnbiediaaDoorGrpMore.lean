/- Where a letter leads is written, and back. The opened cosets with one more. -/
import Derived.Test.YtmaopnbnbiediaaDoorGrpTake
import Derived.Test.YtmaopnbnbiediaaDoorGrpAddRow
namespace Go.Proofs.YtmaopnbnbiediaaDoor
open Go.RowKit Go.Sort

theorem xor_one : ∀ x : Nat, x < 24 → bits BinOp.xor IntKind.i64 (x : Int) 1 = (backN x : Int) := by decide

theorem back_ (x : Nat) (hx : x < 24) (w : World) : Calls Tryd.prog 42 #[.int .i64 (x : Int)] w fun e w' => e = .returned (.int .i64 (backN x : Int)) ∧ w' = w := by
  have h := xor_one x hx
  go_enter Tryd.func42, Tryd.ntmps42
  go_wp2_with fail
  go_ret
  exact ⟨rfl, rfl⟩

theorem column_ (l : Int) (h0 : l ≠ 0) (h1 : -12 ≤ l) (h2 : l ≤ 12) (w : World) : Calls Tryd.prog 57 #[.int .i64 l] w fun e w' => e = .returned (.int .i64 (colN l : Int)) ∧ w' = w := by
  by_cases hl : 0 < l
  · have e1 : (2 : Int) * (l - 1) = (colN l : Int) := by unfold colN; rw [if_pos hl]; omega
    go_enter Tryd.func57, Tryd.ntmps57
    go_wp2_with fail
    go_ret
    exact ⟨rfl, rfl⟩
  · have e1 : (2 : Int) * (-l - 1) + 1 = (colN l : Int) := by unfold colN; rw [if_neg hl]; omega
    go_enter Tryd.func57, Tryd.ntmps57
    go_wp2_with fail
    go_ret
    exact ⟨rfl, rfl⟩

set_option maxRecDepth 100000 in
set_option maxHeartbeats 2000000 in
theorem set_ {B : Nat} {X : Nat → Prop} {P n : Nat} {s : Cos} {G cG H cH : Nat} {rb c : Nat → Nat} (a x t : Nat) (w : World) (h : OpIn B X P n w s G cG H cH rb c) (ha : a < s.R.length) (ht : t < s.R.length) (hx : x < 2 * n) (hn : n ≤ 12) :
    Calls Tryd.prog 43 #[.agg #[.slice (some ⟨G, 0, none⟩) s.R.length cG], .int .i64 (a : Int), .int .i64 (x : Int), .int .i64 (t : Int)] w fun e w' => e = .returned (.tuple #[]) ∧ OpIn B X P n w' ⟨putE (putE s.R a x (t : Int)) t (backN x) (a : Int), s.cls⟩ G cG H cH rb c ∧ Kp B X w w' := by
  have hbx := back_lt hx
  have hBa : Below w.heap.size w (w.alloc (.cells #[.slice (some ⟨G, 0, none⟩) s.R.length cG] 49)) := (Below.refl _ w).alloc (Nat.le_refl _) _
  have q0 := cells_new w [.slice (some ⟨G, 0, none⟩) s.R.length cG] 49 0 _ rfl
  rw [Addr.add_lit, Nat.zero_add] at q0
  have h1 := h.below hBa
  have h2 := h1.set_ent ha hx (t : Int)
  have h3 := h2.1.set_ent (i := t) (x := backN x) (by rw [show Cos.R ⟨putE s.R a x (t : Int), s.cls⟩ = putE s.R a x (t : Int) from rfl, putE_len]; exact ht) hbx (a : Int)
  have HE := Hid.mk' (And.intro h3.1 ((Kp.of_below hBa).trans (h2.2.trans h3.2)))
  have ra := h1.row_at ha
  have ea := h1.ent_at ha hx
  have fa := (h1.inner a ha).frozen x
  have rt := h2.1.row_at (i := t) (by rw [show Cos.R ⟨putE s.R a x (t : Int), s.cls⟩ = putE s.R a x (t : Int) from rfl, putE_len]; exact ht)
  have et := h2.1.ent_at (i := t) (x := backN x) (by rw [show Cos.R ⟨putE s.R a x (t : Int), s.cls⟩ = putE s.R a x (t : Int) from rfl, putE_len]; exact ht) hbx
  have ft := (h2.1.inner t (by rw [show Cos.R ⟨putE s.R a x (t : Int), s.cls⟩ = putE s.R a x (t : Int) from rfl, putE_len]; exact ht)).frozen (backN x)
  have hbox : w.heap.size ≠ rb a := fun e => by
    have := (h.inner a ha).lt
    omega
  have hbk : ∀ V, Calls Tryd.prog 42 #[.int .i64 (x : Int)] V fun e w' => e = .returned (.int .i64 (backN x : Int)) ∧ w' = V := fun V => back_ x (by omega) V
  have h5 := h.few
  obtain ⟨N, hN⟩ : ∃ N, s.R.length = N := ⟨_, rfl⟩
  obtain ⟨m2, hm2⟩ : ∃ m2, 2 * n = m2 := ⟨_, rfl⟩
  obtain ⟨y, hy⟩ : ∃ y, backN x = y := ⟨_, rfl⟩
  rw [hm2] at ra rt hx hbx
  rw [hy] at et ft hbk hbx HE
  rw [hN] at q0 ha ht h5 ra ea fa rt et ft HE ⊢
  have z0 : (0 : Int) ≤ (a : Int) := by omega
  have z1 : (a : Int) < (N : Int) := by omega
  have z2 : (0 : Int) ≤ (t : Int) := by omega
  have z3 : (t : Int) < (N : Int) := by omega
  have z4 : (0 : Int) ≤ (x : Int) := by omega
  have z5 : (x : Int) < (m2 : Int) := by omega
  have z6 : (0 : Int) ≤ (y : Int) := by omega
  have z7 : (y : Int) < (m2 : Int) := by omega
  obtain ⟨W1, hW1⟩ : ∃ W1, w.alloc (.cells #[.slice (some ⟨G, 0, none⟩) N cG] 49) = W1 := ⟨_, rfl⟩
  have q1 : (W1.setCell ⟨rb a, x, none⟩ (.int .i64 (t : Int))).cell? ⟨w.heap.size, 0, none⟩ = some (.slice (some ⟨G, 0, none⟩) N cG) := by
    have h9 : (W1.setCell ⟨rb a, x, none⟩ (.int .i64 (t : Int))).cell? ⟨w.heap.size, 0, none⟩ = W1.cell? ⟨w.heap.size, 0, none⟩ := by
      apply World.cell?_setCell_other
      intro e
      exact hbox (Addr.mk.inj e).1.symm
    rw [h9, ← hW1]
    exact q0
  rw [hW1] at ra ea fa rt et ft HE
  rw [show (List.toArray [Value.slice (some ⟨G, 0, none⟩) N cG]) = #[.slice (some ⟨G, 0, none⟩) N cG] from rfl, hW1] at q0
  obtain ⟨W2, hW2⟩ : ∃ W2, W1.setCell ⟨rb a, x, none⟩ (.int .i64 (t : Int)) = W2 := ⟨_, rfl⟩
  rw [hW2] at rt et ft HE q1
  obtain ⟨p, hp⟩ : ∃ p, w.heap.size = p := ⟨_, rfl⟩
  rw [hp] at q0 q1
  obtain ⟨s2, hs2⟩ : ∃ s2 : Cos, (⟨putE (putE s.R a x (t : Int)) t y (a : Int), s.cls⟩ : Cos) = s2 := ⟨_, rfl⟩
  rw [show backN x = y from hy, hs2]
  rw [hs2] at HE
  obtain ⟨et', het⟩ : ∃ q, ent (putE s.R a x (t : Int)) t y = q := ⟨_, rfl⟩
  obtain ⟨ea', hea⟩ : ∃ q, ent s.R a x = q := ⟨_, rfl⟩
  rw [show ent (Cos.R ⟨putE s.R a x (t : Int), s.cls⟩) t y = et' from het] at et
  rw [hea] at ea
  have HW : Hid (w.alloc (.cells #[.slice (some ⟨G, 0, none⟩) N cG] 49) = W1 ∧ W1.setCell ⟨rb a, x, none⟩ (.int .i64 (t : Int)) = W2 ∧ w.heap.size = p) := ⟨hW1, hW2, hp⟩
  clear h h1 h2 h3 hBa hN hm2 hy hW1 hW2 hp hs2 het hea hbox
  go_enter Tryd.func43, Tryd.ntmps43
  go_upto_region 1 with fail
  rw [HW.out.1, HW.out.2.2]
  go_upto_region 2 with fail
  rw [HW.out.2.1]
  go_wp2_with fail
  go_region_with (go_at_call 42; refine (hbk _).mono ?_; rintro e V ⟨rfl, rfl⟩)
  all_goals go_wp2_with fail
  all_goals (refine bodyPost_end (v := .tuple #[]) ?_ rfl ⟨rfl, ?_, ?_⟩)
  all_goals first
    | (simp [results, Tryd.f43, go_sem]; done)
    | exact HE.out.1.below (Below.refl _ _).drew
    | exact HE.out.2.drew

end Go.Proofs.YtmaopnbnbiediaaDoor

namespace Go.Proofs.YtmaopnbnbiediaaDoor
open Go.RowKit Go.Sort

theorem Leads.more {N : Nat} {c cls : Nat → Nat} (h : Leads N c cls) (hN : cls N = N) : Leads (N + 1) (fun i => if i = N then N else c i) cls := by
  refine ⟨h.is, fun i hi => ?_, fun i hi => ?_, fun i hi e => ?_, fun i hi e => ?_⟩
  · split
    · omega
    · exact h.le i (by omega)
  · split
    · rename_i e; rw [e]
    · exact h.one i (by omega)
  · split at e
    · rename_i e1; rw [e1]; exact hN
    · exact h.top i (by omega) e
  · split
    · rename_i e1; exact e1.symm
    · exact h.self i (by omega) e

theorem range_more {α : Type} (N : Nat) (f f' : Nat → α) (a : α) (h : ∀ k, k < N → f' k = f k) (ha : f' N = a) : (List.range N).map f ++ [a] = (List.range (N + 1)).map f' := by
  rw [List.range_succ, List.map_append, List.map_singleton, ha]
  congr 1
  exact List.map_congr_left fun k hk => (h k (List.mem_range.1 hk)).symm

theorem op_more {B : Nat} {X : Nat → Prop} {P n : Nat} {s : Cos} {G cG H cH : Nat} {rb c : Nat → Nat} {w w1 w2 : World} {v1 v2 : Value} {g : Nat} {o : Obj} (h : OpIn B X P n w s G cG H cH rb c) (hX : ∀ b, X b → b < w.heap.size) (hlt : s.R.length < 5000)
    (hm : RowMore B P n s.R.length (.slice (some ⟨G, 0, none⟩) s.R.length cG) ((List.range s.R.length).map fun k => .slice (some ⟨rb k, 0, none⟩) (2 * n) (2 * n)) w w1 v1 g)
    (hown : w2.ownsRow B 3 1 v2 (s.R.length + 1) (((List.range s.R.length).map fun i => .int .i64 (c i : Int)) ++ [.int .i64 (s.R.length : Int)])) (hg : (w1.alloc o).grownBy w2 (some H)) (hl : v2.ownBlock = some H ∨ v2.ownBlock = some (w1.alloc o).heap.size) :
    ∃ G' cG' H' cH', v1 = .slice (some ⟨G', 0, none⟩) (s.R.length + 1) cG' ∧ v2 = .slice (some ⟨H', 0, none⟩) (s.R.length + 1) cH' ∧ (w2.cell? ⟨P, 2, none⟩ = some (.slice (some ⟨H, 0, none⟩) s.R.length cH) ∧ w2.frozen? ⟨P, 2, none⟩ = false) ∧
      OpIn B X P n (w2.setCell ⟨P, 2, none⟩ v2) ⟨s.R ++ [newRow n], s.cls⟩ G' cG' H' cH' (fun k => if k = s.R.length then g else rb k) (fun i => if i = s.R.length then s.R.length else c i) ∧ Kp B X w (w2.setCell ⟨P, 2, none⟩ v2) := by
  obtain ⟨N, hN⟩ : ∃ N, s.R.length = N := ⟨_, rfl⟩
  have hP : P < w.heap.size := cell_lt h.p0
  have hGs := h.outer.lt G rfl
  have hHs := h.sm.lt H rfl
  have hrs : ∀ k, k < N → rb k < w.heap.size := fun k hk => (h.inner k (by rw [hN]; exact hk)).lt
  have hnew := hm.new
  have h1s := hm.size
  have hg1 : g < w1.heap.size := hm.row.lt
  have hBw : B ≤ w.heap.size := by have := h.own.1; omega
  have hxn : ∀ b, w.heap.size ≤ b → ¬ X b := fun b hb hx => by have := hX b hx; omega
  rw [World.size_alloc] at hl
  obtain ⟨G', cG', e1, hGB, hG1⟩ := hm.own.form (by omega)
  obtain ⟨H', cH', e2, hHB, hH2⟩ := hown.form (by omega)
  have hG' : G' = G ∨ (w.heap.size ≤ G' ∧ G' ≠ g) := by
    rcases hm.blk with e | ⟨b, e, k1, k2⟩
    · rw [e1] at e; exact .inl (Option.some.inj e)
    · rw [e1] at e; have := Option.some.inj e; subst this; exact .inr ⟨k1, k2⟩
  have hH' : H' = H ∨ H' = w1.heap.size + 1 := by
    rcases hl with e | e
    · rw [e2] at e; exact .inl (Option.some.inj e)
    · rw [e2] at e; exact .inr (Option.some.inj e)
  have b2 : ∀ b, b < w1.heap.size → b ≠ H → w2.heap[b]? = w1.heap[b]? := fun b k1 k2 => (hg.block b (by rw [World.size_alloc]; omega) (fun e => k2 (Option.some.inj e))).trans (Below.heap_alloc w1 o b k1)
  have b3 : ∀ b, b < w1.heap.size → b ≠ H → b ≠ P → (w2.setCell ⟨P, 2, none⟩ v2).heap[b]? = w1.heap[b]? := fun b k1 k2 k3 => (Below.heap_setCell w2 ⟨P, 2, none⟩ v2 b k3).trans (b2 b k1 k2)
  have eP := b2 P (by omega) h.gh.2.2.symm
  have c2 : w2.cell? ⟨P, 2, none⟩ = some (.slice (some ⟨H, 0, none⟩) s.R.length cH) := (World.cell?_of_block (a := ⟨P, 2, none⟩) eP).trans ((hm.rest 2 (by decide)).1.trans h.p2)
  have f2 : w2.frozen? ⟨P, 2, none⟩ = false := (World.frozen?_of_block (a := ⟨P, 2, none⟩) eP).trans ((hm.rest 2 (by decide)).2.trans h.z2)
  have s0 : ∀ k, k ≠ 2 → (w2.setCell ⟨P, 2, none⟩ v2).cell? ⟨P, k, none⟩ = w2.cell? ⟨P, k, none⟩ := fun k hk => by
    apply World.cell?_setCell_other
    intro e
    exact hk (Addr.mk.inj e).2.1.symm
  have hlen : (Cos.R ⟨s.R ++ [newRow n], s.cls⟩).length = s.R.length + 1 := by simp
  have hrg := h.rg
  have hnx := h.notX
  have hgh := h.gh
  rw [hN] at hrg
  have hPG' : G' ≠ P := by rcases hG' with e | e <;> omega
  have hPH' : H' ≠ P := by rcases hH' with e | e <;> omega
  have hGH' : G' ≠ H' := by
    rcases hG' with e | e
    · rcases hH' with k | k
      · rw [e, k]; exact hgh.1
      · omega
    · rcases hH' with k | k <;> omega
  refine ⟨G', cG', H', cH', e1, e2, ⟨c2, f2⟩, ⟨?_, ?_, ?_, ?_, ?_, ?_, ?_, ?_, ?_, ⟨hGH', hPG', hPH'⟩, ?_, ⟨h.own.1, ?_⟩, ⟨hnx.1, ?_, ?_, ?_⟩, wide_app h.wide, by rw [hlen]; omega, by rw [hlen]; omega, ?_, ?_⟩, ?_⟩
  · rw [hlen, s0 0 (by decide)]
    exact (World.cell?_of_block (a := ⟨P, 0, none⟩) eP).trans (hm.cell.trans (by rw [e1]))
  · rw [s0 1 (by decide)]
    exact (World.cell?_of_block (a := ⟨P, 1, none⟩) eP).trans ((hm.rest 1 (by decide)).1.trans h.p1)
  · rw [hlen, ← e2]
    exact World.cell?_setCell_same' w2 _ v2 (by rw [c2]; rfl)
  · rw [World.frozen?_setCell]
    exact (World.frozen?_of_block (a := ⟨P, 0, none⟩) eP).trans hm.froz
  · rw [World.frozen?_setCell]
    exact f2
  · rw [hlen]
    have k1 := hm.own
    rw [e1, range_more s.R.length _ (fun k => .slice (some ⟨if k = s.R.length then g else rb k, 0, none⟩) (2 * n) (2 * n)) _ (fun k hk => by rw [if_neg (by omega)]) (by rw [if_pos rfl])] at k1
    have hGH : G' ≠ H := by rcases hG' with e | e; · rw [e]; exact hgh.1
                            · omega
    exact ((k1.alloc o).kept hg (.inr fun e => hGH (Option.some.inj e))).kept (grown_at w2 ⟨P, 2, none⟩ v2) (.inr fun e => hPG' (Option.some.inj e))
  · intro k hk
    rw [hlen] at hk
    by_cases e : k = s.R.length
    · simp only [if_pos e]
      refine (hm.row.of_block (b3 g hg1 (by omega) (by omega))).congr fun x _ => ?_
      rw [ent_app, if_neg (by omega), if_pos e, ent_new]
    · simp only [if_neg e]
      have hk' : k < s.R.length := by omega
      have hr := hrs k (by omega)
      have hq := hrg k (by omega)
      refine ((h.inner k hk').of_block ((b3 (rb k) (by omega) hq.2.1 hq.2.2).trans (hm.keep (rb k) hr hq.2.2 fun e => hq.1 (Option.some.inj e)))).congr fun x _ => ?_
      rw [ent_app, if_pos hk']
  · rw [hlen]
    have k1 := hown
    rw [e2, range_more s.R.length _ (fun i => .int .i64 ((if i = s.R.length then s.R.length else c i : Nat) : Int)) _ (fun k hk => by rw [if_neg (by omega)]) (by rw [if_pos rfl])] at k1
    exact k1.kept (grown_at w2 ⟨P, 2, none⟩ v2) (.inr fun e => hPH' (Option.some.inj e))
  · intro j k hj hk e
    rw [hlen] at hj hk
    skip
    by_cases e1 : j = s.R.length
    · by_cases e2 : k = s.R.length
      · omega
      · rw [if_pos e1, if_neg e2] at e
        have := hrs k (by omega)
        omega
    · by_cases e2 : k = s.R.length
      · rw [if_neg e1, if_pos e2] at e
        have := hrs j (by omega)
        omega
      · rw [if_neg e1, if_neg e2] at e
        exact h.inj j k (by omega) (by omega) e
  · intro k hk
    rw [hlen] at hk
    by_cases e : k = s.R.length
    · simp only [if_pos e]
      refine ⟨?_, ?_, by omega⟩
      · rcases hG' with e | e <;> omega
      · rcases hH' with e | e <;> omega
    · simp only [if_neg e]
      have hr := hrs k (by omega)
      have hq := hrg k (by omega)
      refine ⟨?_, ?_, hq.2.2⟩
      · rcases hG' with e | e
        · rw [e]; exact hq.1
        · omega
      · rcases hH' with e | e
        · rw [e]; exact hq.2.1
        · omega
  · intro k hk
    rw [hlen] at hk
    by_cases e : k = s.R.length
    · simp only [if_pos e]; omega
    · simp only [if_neg e]; exact h.own.2 k (by omega)
  · rcases hG' with e | e
    · rw [e]; exact hnx.2.1
    · exact hxn _ e.1
  · rcases hH' with e | e
    · rw [e]; exact hnx.2.2.1
    · exact hxn _ (by omega)
  · intro k hk
    rw [hlen] at hk
    by_cases e : k = s.R.length
    · simp only [if_pos e]; exact hxn _ hnew
    · simp only [if_neg e]; exact hnx.2.2.2 k (by omega)
  · rw [hlen]; exact h.lead.more (h.far _ (Nat.le_refl _))
  · intro i hi
    rw [hlen] at hi
    exact h.far i (by omega)
  · refine ⟨(show (w2.setCell ⟨P, 2, none⟩ v2).os = w.os from (hg.os.trans hm.os)), (hg.tape.trans hm.tape), (hg.output.trans hm.output), ?_, fun b hb hx => ?_⟩
    · have := hg.size; rw [World.size_alloc] at this; simp; omega
    · have hbP : b ≠ P := fun e => by
        rcases hx with hx | hx
        · have := h.own.1; omega
        · exact hnx.1 (e ▸ hx)
      have hbG : b ≠ G := fun e => by
        rcases hx with hx | hx
        · omega
        · exact hnx.2.1 (e ▸ hx)
      have hbH : b ≠ H := fun e => by
        rcases hx with hx | hx
        · omega
        · exact hnx.2.2.1 (e ▸ hx)
      exact (b3 b (by omega) hbH hbP).trans (hm.keep b hb hbP fun e => hbG (Option.some.inj e))

end Go.Proofs.YtmaopnbnbiediaaDoor
