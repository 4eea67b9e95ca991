/- What heap and built answer of an iterator that writes, between two rounds, what it has laid itself. -/
import Derived.Test.YtkmecdgnoemimaaDoorBuilt
namespace Go.Proofs.YtkmecdgnoemimaaDoor
open Go.RowKit Go.Shelf Go.Sort Go.Maps

attribute [local go_sem] Oper.semAt_some

theorem Boxes.below {B : Nat} {W W' : World} {v2 v3 : Value} (h : Boxes B W v2 v3) (hB : Below (B + 1 + 1 + 1 + 1) W W') : Boxes B W' v2 v3 := by
  have c : ∀ {k : Nat} {v : Value}, k < B + 1 + 1 + 1 + 1 → W.cell? ⟨k, 0, none⟩ = some v ∧ W.frozen? ⟨k, 0, none⟩ = false → W'.cell? ⟨k, 0, none⟩ = some v ∧ W'.frozen? ⟨k, 0, none⟩ = false :=
    fun {k} _ hk h => ⟨(hB.cell (p := ⟨k, 0, none⟩) hk).trans h.1, (hB.frozen (p := ⟨k, 0, none⟩) hk).trans h.2⟩
  exact ⟨c (by omega) h.two, c (by omega) h.three, c (by omega) h.four⟩

theorem PileAt.under {B b : Nat} {W W' : World} {F : List (List UInt8)} {G : List UInt8 → Prop} (h : PileAt W b F G) (hB : Below B W W') (hb : b < B) : PileAt W' b F G := by
  obtain ⟨D, ⟨es, c, h1, h2⟩, h3⟩ := h
  exact ⟨D, ⟨es, c, (hB.block b hb).trans h1, h2⟩, h3⟩

set_option maxRecDepth 100000 in
set_option maxHeartbeats 2000000 in
theorem heapB_ {a : Nat → Addr} {s : Nat → ByteArray} (gf : Nat) (lb : Array Value) (xs : List Fc) (w : World) (hE : Errs a s w)
    (hent : ∀ args w, (callFunc gf args).run Tryd.prog w = .ok (.enter gf args) w)
    (hseq : SeqB Tryd.prog gf lb xs w) :
    Calls Tryd.prog 52 #[.func (.func gf) #[] lb] w fun e w' => HeapSays a (xs.map Subtype.val) w e w' := by
  refine (callsIn_wide (n := 10)).1 ?_
  have hmm := @run_makeMap Tryd.prog
  refine callsIn_of_wp_marks Tryd.func52 rfl trivial ?_ rfl
  simp only [Tryd.ntmps52, List.size_toArray, List.length_cons, List.length_nil, Nat.reduceAdd, Nat.reduceSub, Array.replicate_succ, Array.replicate_zero, List.push_toArray, List.append_toArray, List.nil_append, List.cons_append]
  gi_wp2
  have hbx := boxes_new w (.map none) .nilIface 49 29 49 (.map #[] 0)
  have hp0 : PileAt ((((w.alloc (.cells #[.map none] 49)).alloc (.cells #[.nilIface] 29)).alloc (.map #[] 0)).alloc (.cells #[.map (some (w.heap.size + 1 + 1))] 49)) (w.heap.size + 1 + 1) [] (fun _ => False) := by
    have hm := World.ownsMap_made (H := Unit) ((w.alloc (.cells #[.map none] 49)).alloc (.cells #[.nilIface] 29)) Tryd.prog 9 (plainElem Tryd.prog 3)
    rw [World.size_alloc, World.size_alloc] at hm
    exact ⟨.map [], hm.alloc _, fun x => by simp [Maps.has], rfl, fun x hx => by cases hx⟩
  have hB0 : Below w.heap.size w ((((w.alloc (.cells #[.map none] 49)).alloc (.cells #[.nilIface] 29)).alloc (.map #[] 0)).alloc (.cells #[.map (some (w.heap.size + 1 + 1))] 49)) :=
    ((((Below.refl _ w).alloc (Nat.le_refl _) _).alloc (by simp) _).alloc (by simp; omega) _).alloc (by simp; omega) _
  obtain ⟨W0, hW0⟩ : ∃ W0, ((((w.alloc (.cells #[.map none] 49)).alloc (.cells #[.nilIface] 29)).alloc (.map #[] 0)).alloc (.cells #[.map (some (w.heap.size + 1 + 1))] 49)) = W0 := ⟨_, rfl⟩
  have hsz : W0.heap.size = w.heap.size + 4 := by rw [← hW0]; simp
  rw [hW0] at hbx hp0 hB0 ⊢
  clear hW0 hmm
  have hle : w.heap.size ≤ W0.heap.size := by omega
  refine range_b (gf := gf) (lb := lb) rfl hent hseq hB0 rfl
    (fun pre W => (Boxes w.heap.size W (.map none) .nilIface ∧ ∃ F G, PileAt W (w.heap.size + 1 + 1) F G ∧ Heaped (pre.map Subtype.val) F G) ∧ Below w.heap.size w W)
    (fun pre W => (Boxes w.heap.size W (.map none) (.iface 165 (.pointer (some (a 1)))) ∧ Over (pre.map Subtype.val)) ∧ Below w.heap.size w W)
    (fun s A C h hB => ⟨⟨h.1.1.below (hB.mono (by omega)), by
      obtain ⟨F, G, h1, h2⟩ := h.1.2
      exact ⟨F, G, h1.under hB (by omega), h2⟩⟩, h.2.trans (hB.mono hle)⟩)
    (fun s A C h hB => ⟨⟨h.1.1.below (hB.mono (by omega)), h.1.2⟩, h.2.trans (hB.mono hle)⟩)
    ⟨⟨hbx, [], _, hp0, heaped_nil⟩, hB0⟩
    (fun x => { tmps := #[.func (.func gf) #[] lb, undef, .pointer (some ⟨w.heap.size, 0, none⟩), .pointer (some ⟨w.heap.size + 1, 0, none⟩), .pointer (some ⟨w.heap.size + 1 + 1 + 1, 0, none⟩), encStr x.1, .map (some (w.heap.size + 1 + 1)), .func (.func gf) #[] lb, encStr x.1, undef, undef, undef, undef, undef, undef], defers := [] }) ?assign ?body ?done ?stop
  case assign =>
    intro l x W K hK
    gi_wp2
    exact hK
  case body =>
    rintro l pre x W ⟨⟨hb, F, G, hP, hH⟩, hB⟩
    have HH : Hid (Heaped (pre.map Subtype.val) F G) := hH
    have HPB : Hid (∃ o : Obj, W.heap[w.heap.size + 1 + 1]? = some o ∧ o.isCells = false) := hP.block
    have hput := put_pile x.1.length x.1 F G W (w.heap.size + 1 + 1) (Nat.le_refl _) x.2.1 x.2.2 hP (hH.pile _)
    have h4 := hb.four.1
    have HBX : Hid (Boxes w.heap.size W (.map none) .nilIface) := hb
    clear hH hP hb
    gi_wp2
    refine ⟨trivial, ?_⟩
    refine (CallsIn.inRound l (callsIn_wide.2 hput)).mono ?_
    clear hput
    rintro e W' ⟨hg, ⟨rfl, F', G', hP', hGr, hin⟩ | ⟨rfl, hov⟩⟩
    · have hbx' := HBX.out.kept hg (fun r e => by cases e; exact HPB.out)
      have hB' : Below w.heap.size w W' := hB.grown hg hB.size (fun k e => by cases e; omega)
      have hBW : BelowC w.heap.size W W' := ⟨(Below.refl _ W).grown hg hB.size (fun k e => by cases e; omega), cells_grown hg HPB.out⟩
      gi_wp2
      exact ⟨KeepsFrom.of_grownBy hg (fun j e => by cases e; omega), hBW, ⟨hbx', F', G', hP', by rw [List.map_append]; exact HH.out.snoc hGr hin⟩, hB'⟩
    · have hbx' := HBX.out.kept hg (fun r e => by cases e; exact HPB.out)
      have hB' : Below w.heap.size w W' := hB.grown hg hB.size (fun k e => by cases e; omega)
      have hov' : Over ((pre ++ [x]).map Subtype.val) := by
        rw [List.map_append]
        exact HH.out.over hov []
      have hgl : W'.cell? ⟨2, 0, none⟩ = some (.iface 165 (.pointer (some (a 1)))) := (hE.below hB').glob 1 (by decide)
      have hgl2 : (W'.setCell ⟨w.heap.size, 0, none⟩ (.map none)).cell? ⟨2, 0, none⟩ = some (.iface 165 (.pointer (some (a 1)))) :=
        (((Below.refl w.heap.size W').setCell (p := ⟨w.heap.size, 0, none⟩) (Nat.le_refl _) (.map none)).cell (p := ⟨2, 0, none⟩) (cell_lt (hE.glob 1 (by decide)))).trans hgl
      have hc2 := hbx'.two
      have hc3 := hbx'.three
      have hkf : KeepsFrom W0.heap.size W W' := KeepsFrom.of_grownBy hg (fun j e => by cases e; omega)
      obtain ⟨c2, z2⟩ := hc2
      obtain ⟨c3, z3⟩ := hc3
      gi_wp2
      have hfo : Tryd.prog.follows Departure.mixedOrders = true := by kernel_rfl
      gi_region_with_o (fail)
      all_goals gi_wp2
      all_goals exact ⟨hkf.trans ((((KeepsOthers.setCell W' _ _).trans (KeepsOthers.setCell _ _ _)).trans (KeepsOthers.drew _)).from _), ⟨(boxes_set hbx' _ _).drew, hov'⟩, ((hB'.setCell (p := ⟨w.heap.size, 0, none⟩) (Nat.le_refl _) _).setCell (p := ⟨w.heap.size + 1, 0, none⟩) (by simp) _).drew⟩
  case done =>
    rintro W ⟨⟨hb, F, G, hP, hH⟩, hB⟩ hK
    obtain ⟨D, hDe⟩ : ∃ D, W0.heap.size = D := ⟨_, rfl⟩
    rw [hDe] at hK hsz ⊢
    have hD : W0.heap.size ≤ D := by omega
    have hD2 : w.heap.size ≤ D := by omega
    have hne : (w.heap.size + 1 + 1) ≠ D := by omega
    obtain ⟨c2, z2⟩ := hb.two
    obtain ⟨c3, z3⟩ := hb.three
    have c4 := hb.four.1
    have hfin := boxes_set hb (.map (some (w.heap.size + 1 + 1))) .nilIface
    have hK' := (KeepsOthers.setCell (W.setCell ⟨w.heap.size, 0, none⟩ (.map (some (w.heap.size + 1 + 1)))) ⟨w.heap.size + 1, 0, none⟩ .nilIface).same D _ ((KeepsOthers.setCell W ⟨w.heap.size, 0, none⟩ (.map (some (w.heap.size + 1 + 1)))).same D _ hK rfl) rfl
    have hB2 : Below w.heap.size w ((W.setCell ⟨w.heap.size, 0, none⟩ (.map (some (w.heap.size + 1 + 1)))).setCell ⟨w.heap.size + 1, 0, none⟩ .nilIface) := (hB.setCell (p := ⟨w.heap.size, 0, none⟩) (Nat.le_refl _) _).setCell (p := ⟨w.heap.size + 1, 0, none⟩) (by simp) _
    have hP2 := (hP.setCell (p := ⟨w.heap.size, 0, none⟩) (by show _ ≠ w.heap.size; omega) (.map (some (w.heap.size + 1 + 1)))).setCell (p := ⟨w.heap.size + 1, 0, none⟩) (by show _ ≠ w.heap.size + 1; omega) .nilIface
    gi_wp2
    refine ⟨by simp, .inl ⟨_, _, rfl, run_takeDeferred hK', ?_⟩⟩
    have hfin2 := hfin.kept (grownBy_putObj' _ D (.deferred none)) (fun r e => by cases e; exact ⟨_, hK', rfl⟩)
    have f2 := hfin2.two.1
    have f3 := hfin2.three.1
    refine ⟨.tuple #[.map (some (w.heap.size + 1 + 1)), .nilIface], ?_, hB2.trans (belowK_b (w := w) (Nat.le_refl _) _ D _ _ hD2 hK' rfl rfl), .inl ⟨_, F, G, rfl, hP2.kept (grownBy_putObj' _ D _) (fun e => by cases e; exact hne rfl), hH⟩⟩
    simp [results, Tryd.f52, go_sem, f2, f3]
  case stop =>
    rintro pre W hpre ⟨⟨hb, hov⟩, hB⟩ hK
    obtain ⟨D, hDe⟩ : ∃ D, W0.heap.size = D := ⟨_, rfl⟩
    rw [hDe] at hK hsz ⊢
    have hD : W0.heap.size ≤ D := by omega
    have hD2 : w.heap.size ≤ D := by omega
    gi_wp2
    refine ⟨by simp, .inl ⟨_, _, rfl, run_takeDeferred hK, ?_⟩⟩
    have hfin2 := hb.kept (grownBy_putObj' _ D (.deferred none)) (fun r e => by cases e; exact ⟨_, hK, rfl⟩)
    have f2 := hfin2.two.1
    have f3 := hfin2.three.1
    refine ⟨.tuple #[.map none, .iface 165 (.pointer (some (a 1)))], ?_, hB.trans (belowK_b (w := w) (Nat.le_refl _) _ D _ _ hD2 hK rfl rfl), .inr ⟨over_mono hov (fun t ht => ?_), rfl⟩⟩
    · simp [results, Tryd.f52, go_sem, f2, f3]
    · obtain ⟨x, hx, rfl⟩ := List.mem_map.1 ht
      exact List.mem_map.2 ⟨x, hpre.subset hx, rfl⟩

theorem SeqB.later {P : Program} {gf : Nat} {lb : Array Value} {xs : List Fc} {w w' : World} (h : SeqB P gf lb xs w) (hB : Below w.heap.size w w') : SeqB P gf lb xs w' := by
  intro l J Jx W hW hJ hJx hY h0
  refine h l J Jx W (hB.trans (hW.mono hB.size)) hJ hJx (fun pre x W1 hj hp => ?_) h0
  obtain ⟨fn, tmps, assign, body, hy, hR⟩ := hY pre x W1 hj hp
  refine ⟨fn, tmps, assign, body, hy, hR.mono ?_⟩
  rintro e W' (⟨rfl, h1, h2⟩ | ⟨rfl, h1⟩)
  · exact .inl ⟨rfl, h1, h2.1.mono hB.size, h2.2⟩
  · exact .inr ⟨rfl, h1⟩

set_option maxRecDepth 100000 in
set_option maxHeartbeats 1000000 in
theorem builtB_ {a : Nat → Addr} {s : Nat → ByteArray} (gf : Nat) (lb : Array Value) (xs : List Fc) (w : World) (hE : Errs a s w)
    (hent : ∀ args w, (callFunc gf args).run Tryd.prog w = .ok (.enter gf args) w)
    (hseq : SeqB Tryd.prog gf lb xs w) :
    Calls Tryd.prog 27 #[.func (.func gf) #[] lb] w fun e w' => BuiltSays a (xs.map Subtype.val) w e w' := by
  have hBa : Below w.heap.size w (w.alloc (.cells #[.slice none 0 0] 27)) := (Below.refl _ w).alloc (Nat.le_refl _) _
  have hgat := heapB_ gf lb xs (w.alloc (.cells #[.slice none 0 0] 27)) (hE.below hBa) hent (hseq.later hBa)
  have hbox := box_new w (.slice none 0 0) 27
  obtain ⟨ts, hts⟩ : ∃ ts, xs.map Subtype.val = ts := ⟨_, rfl⟩
  rw [hts] at hgat ⊢
  clear hseq hent hts
  go_enter Tryd.func27, Tryd.ntmps27
  go_wp2_with fail
  refine hgat.mono ?_
  clear hgat
  rintro e w2 ⟨hB2, ⟨b, F, G, rfl, hP, hH⟩ | ⟨hov, rfl⟩⟩
  · have hfew := (hH.pile 0).few
    have hsh := (hH.pile 0).short
    have htold := told_ b F G w2 hP (by omega) (fun x hx => by have := hsh x hx; omega)
    have HH : Hid (Heaped ts F G) := hH
    clear hP hH hsh hfew
    go_wp2_with fail
    refine htold.mono ?_
    clear htold
    rintro e w3 ⟨v, ss, rfl, h1, h2, h3, h4⟩
    have H1 : Hid (OwnRows w2.heap.size w3 v ((srtS ss).map ints)) := h1
    obtain ⟨a3, c3, rfl, -, -⟩ := h1.rows.open_
    have hB3 := below_after hB2 h4
    have c1 : w3.cell? ⟨w.heap.size, 0, none⟩ = some (.slice none 0 0) := (hB3.cell (p := ⟨w.heap.size, 0, none⟩) (by simp)).trans hbox.1
    have z1 : w3.frozen? ⟨w.heap.size, 0, none⟩ = false := (hB3.frozen (p := ⟨w.heap.size, 0, none⟩) (by simp)).trans hbox.2
    have c2 := World.cell?_setCell_same' w3 ⟨w.heap.size, 0, none⟩ (.slice a3 ((srtS ss).map ints).length c3) (by rw [c1]; rfl)
    rw [List.length_map] at c2
    clear h1
    go_wp2
    refine bodyPost_ret (v := .tuple #[.agg #[.slice a3 (srtS ss).length c3], .nilIface]) ?_ rfl ?_
    · simp [results, Tryd.f27, go_sem, c2]
    · have h1 := H1.out
      rw [List.length_map] at h1
      refine ⟨(below_out hB3).setCell (p := ⟨w.heap.size, 0, none⟩) (Nat.le_refl _) _, .inr ⟨HH.out.notOver, _, ss, rfl, ?_, h2, fun x => ?_⟩⟩
      · exact (h1.setCell (p := ⟨w.heap.size, 0, none⟩) (by have := hB2.size; simp at this; show w.heap.size < w2.heap.size; omega) _).lower (by have := hB2.size; simp at this; omega)
      · rw [h3, HH.out.mem, HH.out.memG]
  · have hB3 := below_after hB2 (Below.refl _ w2)
    have c1 : w2.cell? ⟨w.heap.size, 0, none⟩ = some (.slice none 0 0) := (hB3.cell (p := ⟨w.heap.size, 0, none⟩) (by simp)).trans hbox.1
    have z1 : w2.frozen? ⟨w.heap.size, 0, none⟩ = false := (hB3.frozen (p := ⟨w.heap.size, 0, none⟩) (by simp)).trans hbox.2
    have c2 := World.cell?_setCell_same' w2 ⟨w.heap.size, 0, none⟩ (.slice none 0 0) (by rw [c1]; rfl)
    have HOV : Hid (Over ts) := hov
    clear hov
    go_wp2
    refine bodyPost_ret (v := .tuple #[.agg #[.slice none 0 0], .iface 165 (.pointer (some (a 1)))]) ?_ rfl ?_
    · simp [results, Tryd.f27, go_sem, c2]
    · exact ⟨(below_out hB3).setCell (p := ⟨w.heap.size, 0, none⟩) (Nat.le_refl _) _, .inl ⟨HOV.out, rfl⟩⟩

end Go.Proofs.YtkmecdgnoemimaaDoor
