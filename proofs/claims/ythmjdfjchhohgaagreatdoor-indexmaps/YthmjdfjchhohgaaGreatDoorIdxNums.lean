/- What heap answers: a map of all faces of the texts that come, or that there are too many. An array of a hundred numbers in a block of its own. -/
import Derived.Test.YthmjdfjchhohgaaGreatDoorValues
import Derived.Maps.OwnIn
import Derived.RangeFuncCalls
import Derived.Shelf.RegionOpen
import Derived.RangeFuncBound
import Derived.RangeFuncNested
import Derived.Deep.WholeRow
import Derived.Deep.MidRow
namespace Go.Proofs.YthmjdfjchhohgaaGreatDoor
open Go.RowKit Go.Shelf Go.Sort Go.Maps

attribute [local go_sem] Oper.semAt_some

/-- What heap answers. -/
def HeapSays (a : Nat → Addr) (ts : List (List UInt8)) (w : World) (e : Ending) (w' : World) : Prop :=
  Below w.heap.size w w' ∧ ((∃ b F G, e = .returned (.tuple #[.map (some b), .nilIface]) ∧ PileAt w' b F G ∧ Heaped ts F G) ∨
    (Over ts ∧ e = .returned (.tuple #[.map none, .iface 233 (.pointer (some (a 1)))])))

theorem over_mono {ts us : List (List UInt8)} (h : Over ts) (hs : ∀ t ∈ ts, t ∈ us) : Over us := by
  rcases h with ⟨t, ht, hl⟩ | ⟨X, hn, hl, hx⟩
  · exact .inl ⟨t, hs t ht, hl⟩
  · exact .inr ⟨X, hn, hl, fun x hx' => by obtain ⟨h1, t, ht, h2⟩ := hx x hx'; exact ⟨h1, t, hs t ht, h2⟩⟩

theorem cell_of_block {W : World} {B : Nat} {v : Value} {t : TypeId} (h : W.heap[B]? = some (.cells #[v] t (0, 0))) : W.cell? ⟨B, 0, none⟩ = some v ∧ W.frozen? ⟨B, 0, none⟩ = false := by
  constructor <;> simp [World.cell?, World.frozen?, h]
theorem box_new (W : World) (v : Value) (t : TypeId) : (W.alloc (.cells #[v] t)).cell? ⟨W.heap.size, 0, none⟩ = some v ∧ (W.alloc (.cells #[v] t)).frozen? ⟨W.heap.size, 0, none⟩ = false :=
  cell_of_block (World.alloc_heap_new W _)
theorem box_alloc {W : World} {p : Addr} {v : Value} (o : Obj) (h : W.cell? p = some v ∧ W.frozen? p = false) : (W.alloc o).cell? p = some v ∧ (W.alloc o).frozen? p = false :=
  ⟨cell_kept h.1 (World.grownBy_alloc W o none) (fun r e => by cases e), (frozen_kept h.1 (World.grownBy_alloc W o none) (fun r e => by cases e)).trans h.2⟩

/-- The two results' variables and the map's own variable, and the map's place. -/
structure Boxes (B : Nat) (W : World) (v2 v3 : Value) : Prop where
  two : W.cell? ⟨B, 0, none⟩ = some v2 ∧ W.frozen? ⟨B, 0, none⟩ = false
  three : W.cell? ⟨B + 1, 0, none⟩ = some v3 ∧ W.frozen? ⟨B + 1, 0, none⟩ = false
  four : W.cell? ⟨B + 1 + 1 + 1, 0, none⟩ = some (.map (some (B + 1 + 1))) ∧ W.frozen? ⟨B + 1 + 1 + 1, 0, none⟩ = false
theorem Boxes.kept {B : Nat} {W W' : World} {v2 v3 : Value} {row : Option Nat} (h : Boxes B W v2 v3) (hg : W.grownBy W' row) (hr : ∀ r, row = some r → ∃ o : Obj, W.heap[r]? = some o ∧ o.isCells = false) : Boxes B W' v2 v3 :=
  ⟨⟨cell_kept h.two.1 hg hr, (frozen_kept h.two.1 hg hr).trans h.two.2⟩, ⟨cell_kept h.three.1 hg hr, (frozen_kept h.three.1 hg hr).trans h.three.2⟩, ⟨cell_kept h.four.1 hg hr, (frozen_kept h.four.1 hg hr).trans h.four.2⟩⟩
theorem Boxes.drew {B : Nat} {W : World} {v2 v3 : Value} (h : Boxes B W v2 v3) : Boxes B W.drew v2 v3 := ⟨h.two, h.three, h.four⟩
theorem boxes_new (w : World) (v2 v3 : Value) (t2 t3 t4 : TypeId) (o : Obj) : Boxes w.heap.size ((((w.alloc (.cells #[v2] t2)).alloc (.cells #[v3] t3)).alloc o).alloc (.cells #[.map (some (w.heap.size + 1 + 1))] t4)) v2 v3 := by
  refine ⟨box_alloc _ (box_alloc _ (box_alloc _ (box_new w v2 t2))), ?_, ?_⟩
  · have := box_alloc (.cells #[.map (some (w.heap.size + 1 + 1))] t4) (box_alloc o (box_new (w.alloc (.cells #[v2] t2)) v3 t3))
    rwa [World.size_alloc] at this
  · have := box_new (((w.alloc (.cells #[v2] t2)).alloc (.cells #[v3] t3)).alloc o) (.map (some (w.heap.size + 1 + 1))) t4
    rwa [World.size_alloc, World.size_alloc, World.size_alloc] at this
theorem PileAt.block {W : World} {b : Nat} {F : List (List UInt8)} {G : List UInt8 → Prop} (h : PileAt W b F G) : ∃ o : Obj, W.heap[b]? = some o ∧ o.isCells = false := by
  obtain ⟨D, ⟨es, c, hh, _⟩, _⟩ := h
  exact ⟨_, hh, rfl⟩

theorem PileAt.setCell {W : World} {b : Nat} {F : List (List UInt8)} {G : List UInt8 → Prop} (h : PileAt W b F G) {p : Addr} (hp : b ≠ p.block) (u : Value) : PileAt (W.setCell p u) b F G := by
  obtain ⟨D, h1, h2⟩ := h
  exact ⟨D, h1.setCell hp u, h2⟩
theorem boxes_set {B : Nat} {W : World} {v2 v3 : Value} (h : Boxes B W v2 v3) (x2 x3 : Value) : Boxes B ((W.setCell ⟨B, 0, none⟩ x2).setCell ⟨B + 1, 0, none⟩ x3) x2 x3 := by
  have e : ∀ (j k : Nat), j ≠ k → (⟨j, 0, none⟩ : Addr) ≠ ⟨k, 0, none⟩ := fun j k hne h => hne (by cases h; rfl)
  refine ⟨⟨?_, ?_⟩, ⟨?_, ?_⟩, ⟨?_, ?_⟩⟩
  · rw [World.cell?_setCell_other _ _ _ _ (e _ _ (by omega))]
    exact World.cell?_setCell_same' _ _ _ (by rw [h.two.1]; rfl)
  · rw [World.frozen?_setCell, World.frozen?_setCell]; exact h.two.2
  · refine World.cell?_setCell_same' _ _ _ ?_
    rw [World.cell?_setCell_other _ _ _ _ (e _ _ (by omega)), h.three.1]; rfl
  · rw [World.frozen?_setCell, World.frozen?_setCell]; exact h.three.2
  · rw [World.cell?_setCell_other _ _ _ _ (e _ _ (by omega)), World.cell?_setCell_other _ _ _ _ (e _ _ (by omega))]; exact h.four.1
  · rw [World.frozen?_setCell, World.frozen?_setCell]; exact h.four.2

/-- All blocks of cells are as they were. -/
def KeepsCells (W W' : World) : Prop := ∀ (j : Nat) (o : Obj), W.heap[j]? = some o → o.isCells = true → W'.heap[j]? = some o
/-- What was there below, and all blocks of cells, are as they were. -/
def BelowC (n : Nat) (W W' : World) : Prop := Below n W W' ∧ KeepsCells W W'
theorem KeepsCells.trans {A B C : World} (h : KeepsCells A B) (k : KeepsCells B C) : KeepsCells A C := fun j o hj ho => k j o (h j o hj ho) ho
theorem KeepsCells.refl (A : World) : KeepsCells A A := fun _ _ h _ => h
theorem belowC_t {n : Nat} {A B C : World} (h : BelowC n A B) (k : BelowC n B C) : BelowC n A C := ⟨h.1.trans k.1, h.2.trans k.2⟩
theorem cells_grown {W W' : World} {b : Nat} (hg : W.grownBy W' (some b)) (hb : ∃ o : Obj, W.heap[b]? = some o ∧ o.isCells = false) : KeepsCells W W' := fun j o hj ho => by
  have hlt := (Array.getElem?_eq_some_iff.1 hj).1
  have hne : some j ≠ some b := fun e => by
    cases e
    obtain ⟨o', h1, h2⟩ := hb
    rw [h1] at hj
    cases hj
    rw [h2] at ho; cases ho
  rw [hg.block j hlt hne]; exact hj
theorem belowC_b {n : Nat} {w : World} (hn : n ≤ w.heap.size) (W : World) (l : Nat) (o o' : Obj) (hl : w.heap.size ≤ l) (h : W.heap[l]? = some o) (hc : o.isCells = false) (hw : o.isWalk = false) : BelowC n W (W.putObj l o') :=
  ⟨belowK_b hn W l o o' hl h hc hw, cells_grown (grownBy_putObj' W l o') ⟨o, h, hc⟩⟩
theorem KeepsCells.cell {W W' : World} (h : KeepsCells W W') {p : Addr} {v : Value} (hc : W.cell? p = some v) : W'.cell? p = some v := by
  cases hb : W.heap[p.block]? with
  | none => simp [World.cell?, hb] at hc
  | some o =>
    cases ho : o.isCells with
    | true => rw [World.cell?_of_block ((h _ o hb ho).trans hb.symm)]; exact hc
    | false => cases o <;> simp_all [World.cell?, Obj.isCells]
theorem Below.cells {W W' : World} (h : Below W.heap.size W W') : KeepsCells W W' := fun j o hj _ => by
  rw [h.block j (Array.getElem?_eq_some_iff.1 hj).1]; exact hj

set_option maxRecDepth 100000 in
set_option maxHeartbeats 2000000 in
theorem heapC_ {a : Nat → Addr} {s : Nat → ByteArray} (gf : Nat) (lb : Array Value) (xs : List Fc) (w : World) (hE : Errs a s w)
    (hent : ∀ args w, (callFunc gf args).run Tryz.prog w = .ok (.enter gf args) w)
    (hseq : SeqStopsK Fence.wide 9 Tryz.prog gf lb (fun x : Fc => #[encStr x.1]) (BelowC w.heap.size) (fun ys => ys = xs) (fun pre => pre <+: xs) xs.length w) :
    Calls Tryz.prog 97 #[.func (.func gf) #[] lb] w fun e w' => HeapSays a (xs.map Subtype.val) w e w' := by
  refine (callsIn_wide (n := 10)).1 ?_
  have hmm := @run_makeMap Tryz.prog
  refine callsIn_of_wp_marks Tryz.func97 rfl trivial ?_ rfl
  simp only [Tryz.ntmps97, List.size_toArray, List.length_cons, List.length_nil, Nat.reduceAdd, Nat.reduceSub, Array.replicate_succ, Array.replicate_zero, List.push_toArray, List.append_toArray, List.nil_append, List.cons_append]
  gi_wp2
  have hbx := boxes_new w (.map none) .nilIface 71 29 71 (.map #[] 0)
  have hp0 : PileAt ((((w.alloc (.cells #[.map none] 71)).alloc (.cells #[.nilIface] 29)).alloc (.map #[] 0)).alloc (.cells #[.map (some (w.heap.size + 1 + 1))] 71)) (w.heap.size + 1 + 1) [] (fun _ => False) := by
    have hm := World.ownsMap_made (H := Unit) ((w.alloc (.cells #[.map none] 71)).alloc (.cells #[.nilIface] 29)) Tryz.prog 9 (plainElem Tryz.prog 3)
    rw [World.size_alloc, World.size_alloc] at hm
    exact ⟨.map [], hm.alloc _, fun x => by simp [Maps.has], rfl, fun x hx => by cases hx⟩
  have hB0 : Below w.heap.size w ((((w.alloc (.cells #[.map none] 71)).alloc (.cells #[.nilIface] 29)).alloc (.map #[] 0)).alloc (.cells #[.map (some (w.heap.size + 1 + 1))] 71)) :=
    ((((Below.refl _ w).alloc (Nat.le_refl _) _).alloc (by simp) _).alloc (by simp; omega) _).alloc (by simp; omega) _
  obtain ⟨W0, hW0⟩ : ∃ W0, ((((w.alloc (.cells #[.map none] 71)).alloc (.cells #[.nilIface] 29)).alloc (.map #[] 0)).alloc (.cells #[.map (some (w.heap.size + 1 + 1))] 71)) = W0 := ⟨_, rfl⟩
  have hsz : W0.heap.size = w.heap.size + 4 := by rw [← hW0]; simp
  rw [hW0] at hbx hp0 hB0 ⊢
  clear hW0 hmm
  have hle : w.heap.size ≤ W0.heap.size := by omega
  refine wpIn_rangeFunc_ownG rfl (by decide) (gf := gf) (lb := lb) rfl trivial hent hseq belowC_t (belowC_b hle) hB0 (fun _ => rfl)
    (fun pre W => (Boxes w.heap.size W (.map none) .nilIface ∧ ∃ F G, PileAt W (w.heap.size + 1 + 1) F G ∧ Heaped (pre.map Subtype.val) F G) ∧ Below w.heap.size w W)
    (fun c pre W => (c = .ret ∧ Boxes w.heap.size W (.map none) (.iface 233 (.pointer (some (a 1)))) ∧ Over (pre.map Subtype.val)) ∧ Below w.heap.size w W)
    (OwnFrom.and (fun s A B row hs hg hr => ⟨hs.1.kept hg (fun r e => (hr r e).2), by
      obtain ⟨F, G, h1, h2⟩ := hs.2
      exact ⟨F, G, h1.kept hg (fun e => by have := (hr _ e.symm).1; omega), h2⟩⟩) (ownFrom_below (Nat.le_refl _) hle))
    (fun c => OwnFrom.and (fun s A B row hs hg hr => ⟨hs.1, hs.2.1.kept hg (fun r e => (hr r e).2), hs.2.2⟩) (ownFrom_below (Nat.le_refl _) hle))
    ⟨⟨hbx, [], _, hp0, heaped_nil⟩, hB0⟩
    (fun x => { tmps := #[.func (.func gf) #[] lb, undef, .pointer (some ⟨w.heap.size, 0, none⟩), .pointer (some ⟨w.heap.size + 1, 0, none⟩), .pointer (some ⟨w.heap.size + 1 + 1 + 1, 0, none⟩), encStr x.1, .map (some (w.heap.size + 1 + 1)), .func (.func gf) #[] lb, encStr x.1, undef, undef, undef, undef, undef, undef], defers := [] }) ?assign ?body ?done ?stop
  case assign =>
    intro l x W K hK
    gi_wp2
    exact hK
  case body =>
    rintro l pre x W ⟨⟨hb, F, G, hP, hH⟩, hB⟩ _
    have HH : Hid (Heaped (pre.map Subtype.val) F G) := hH
    have HPB : Hid (∃ o : Obj, W.heap[w.heap.size + 1 + 1]? = some o ∧ o.isCells = false) := hP.block
    have hput := put_pile x.1.length x.1 F G W (w.heap.size + 1 + 1) (Nat.le_refl _) x.2.1 x.2.2 hP (hH.pile _)
    have h4 := hb.four.1
    have HBX : Hid (Boxes w.heap.size W (.map none) .nilIface) := hb
    clear hH hP hb
    gi_wp2
    refine ⟨trivial, ?_⟩
    refine (CallsIn.inRound l (callsIn_wide.2 hput)).mono ?_
    clear hput
    rintro e W' ⟨hg, ⟨rfl, F', G', hP', hGr, hin⟩ | ⟨rfl, hov⟩⟩
    · have hbx' := HBX.out.kept hg (fun r e => by cases e; exact HPB.out)
      have hB' : Below w.heap.size w W' := hB.grown hg hB.size (fun k e => by cases e; omega)
      have hBW : BelowC w.heap.size W W' := ⟨(Below.refl _ W).grown hg hB.size (fun k e => by cases e; omega), cells_grown hg HPB.out⟩
      gi_wp2
      exact ⟨KeepsFrom.of_grownBy hg (fun j e => by cases e; omega), hBW, ⟨hbx', F', G', hP', by rw [List.map_append]; exact HH.out.snoc hGr hin⟩, hB'⟩
    · have hbx' := HBX.out.kept hg (fun r e => by cases e; exact HPB.out)
      have hB' : Below w.heap.size w W' := hB.grown hg hB.size (fun k e => by cases e; omega)
      have hov' : Over ((pre ++ [x]).map Subtype.val) := by
        rw [List.map_append]
        exact HH.out.over hov []
      have hgl : W'.cell? ⟨0, 0, none⟩ = some (.iface 233 (.pointer (some (a 1)))) := (hE.below hB').glob 1 (by decide)
      have hgl2 : (W'.setCell ⟨w.heap.size, 0, none⟩ (.map none)).cell? ⟨0, 0, none⟩ = some (.iface 233 (.pointer (some (a 1)))) :=
        (((Below.refl w.heap.size W').setCell (p := ⟨w.heap.size, 0, none⟩) (Nat.le_refl _) (.map none)).cell (p := ⟨0, 0, none⟩) (cell_lt (hE.glob 1 (by decide)))).trans hgl
      have hc2 := hbx'.two
      have hc3 := hbx'.three
      have hkf : KeepsFrom W0.heap.size W W' := KeepsFrom.of_grownBy hg (fun j e => by cases e; omega)
      obtain ⟨c2, z2⟩ := hc2
      obtain ⟨c3, z3⟩ := hc3
      gi_wp2
      have hfo : Tryz.prog.follows Departure.mixedOrders = true := by kernel_rfl
      gi_region_with_o (fail)
      all_goals gi_wp2
      all_goals exact ⟨hkf.trans ((((KeepsOthers.setCell W' _ _).trans (KeepsOthers.setCell _ _ _)).trans (KeepsOthers.drew _)).from _), ⟨rfl, (boxes_set hbx' _ _).drew, hov'⟩, ((hB'.setCell (p := ⟨w.heap.size, 0, none⟩) (Nat.le_refl _) _).setCell (p := ⟨w.heap.size + 1, 0, none⟩) (by simp) _).drew⟩
  case done =>
    rintro D ys W hD rfl ⟨⟨hb, F, G, hP, hH⟩, hB⟩ hK
    have hD2 : w.heap.size ≤ D := by omega
    have hne : (w.heap.size + 1 + 1) ≠ D := by omega
    obtain ⟨c2, z2⟩ := hb.two
    obtain ⟨c3, z3⟩ := hb.three
    have c4 := hb.four.1
    have hfin := boxes_set hb (.map (some (w.heap.size + 1 + 1))) .nilIface
    have hK' := (KeepsOthers.setCell (W.setCell ⟨w.heap.size, 0, none⟩ (.map (some (w.heap.size + 1 + 1)))) ⟨w.heap.size + 1, 0, none⟩ .nilIface).same D _ ((KeepsOthers.setCell W ⟨w.heap.size, 0, none⟩ (.map (some (w.heap.size + 1 + 1)))).same D _ hK rfl) rfl
    have hB2 : Below w.heap.size w ((W.setCell ⟨w.heap.size, 0, none⟩ (.map (some (w.heap.size + 1 + 1)))).setCell ⟨w.heap.size + 1, 0, none⟩ .nilIface) := (hB.setCell (p := ⟨w.heap.size, 0, none⟩) (Nat.le_refl _) _).setCell (p := ⟨w.heap.size + 1, 0, none⟩) (by simp) _
    have hP2 := (hP.setCell (p := ⟨w.heap.size, 0, none⟩) (by show _ ≠ w.heap.size; omega) (.map (some (w.heap.size + 1 + 1)))).setCell (p := ⟨w.heap.size + 1, 0, none⟩) (by show _ ≠ w.heap.size + 1; omega) .nilIface
    gi_wp2
    refine ⟨by simp, .inl ⟨_, _, rfl, run_takeDeferred hK', ?_⟩⟩
    have hfin2 := hfin.kept (grownBy_putObj' _ D (.deferred none)) (fun r e => by cases e; exact ⟨_, hK', rfl⟩)
    have f2 := hfin2.two.1
    have f3 := hfin2.three.1
    refine ⟨.tuple #[.map (some (w.heap.size + 1 + 1)), .nilIface], ?_, hB2.trans (belowK_b (w := w) (Nat.le_refl _) _ D _ _ hD2 hK' rfl rfl), .inl ⟨_, F, G, rfl, hP2.kept (grownBy_putObj' _ D _) (fun e => by cases e; exact hne rfl), hH⟩⟩
    simp [results, Tryz.f97, go_sem, f2, f3]
  case stop =>
    rintro D c pre W hD hpre ⟨⟨rfl, hb, hov⟩, hB⟩ hK
    have hD2 : w.heap.size ≤ D := by omega
    gi_wp2
    refine ⟨by simp, .inl ⟨_, _, rfl, run_takeDeferred hK, ?_⟩⟩
    have hfin2 := hb.kept (grownBy_putObj' _ D (.deferred none)) (fun r e => by cases e; exact ⟨_, hK, rfl⟩)
    have f2 := hfin2.two.1
    have f3 := hfin2.three.1
    refine ⟨.tuple #[.map none, .iface 233 (.pointer (some (a 1)))], ?_, hB.trans (belowK_b (w := w) (Nat.le_refl _) _ D _ _ hD2 hK rfl rfl), .inr ⟨over_mono hov (fun t ht => ?_), rfl⟩⟩
    · simp [results, Tryz.f97, go_sem, f2, f3]
    · obtain ⟨x, hx, rfl⟩ := List.mem_map.1 ht
      exact List.mem_map.2 ⟨x, hpre.subset hx, rfl⟩

/-- The same of an iterator that asks less of a round. -/
theorem seq_less {gf : Nat} {lb : Array Value} {xs : List Fc} {n : Nat} {w : World} (h : SeqStopsK Fence.wide 9 Tryz.prog gf lb (fun x : Fc => #[encStr x.1]) (Below n) (fun ys => ys = xs) (fun pre => pre <+: xs) xs.length w) :
    SeqStopsK Fence.wide 9 Tryz.prog gf lb (fun x : Fc => #[encStr x.1]) (BelowC n) (fun ys => ys = xs) (fun pre => pre <+: xs) xs.length w := by
  intro l J Jx W hW hJ hJx hY h0
  refine h l J Jx W hW hJ hJx (fun pre x W1 hj hp => ?_) h0
  obtain ⟨fn, tmps, assign, body, hy, hR⟩ := hY pre x W1 hj hp
  refine ⟨fn, tmps, assign, body, hy, hR.mono ?_⟩
  rintro e W' (⟨rfl, h1, h2⟩ | ⟨rfl, h1⟩)
  · exact .inl ⟨rfl, h1, h2.1⟩
  · exact .inr ⟨rfl, h1⟩
theorem heap_ {a : Nat → Addr} {s : Nat → ByteArray} (gf : Nat) (lb : Array Value) (xs : List Fc) (w : World) (hE : Errs a s w)
    (hent : ∀ args w, (callFunc gf args).run Tryz.prog w = .ok (.enter gf args) w)
    (hseq : SeqStopsK Fence.wide 9 Tryz.prog gf lb (fun x : Fc => #[encStr x.1]) (Below w.heap.size) (fun ys => ys = xs) (fun pre => pre <+: xs) xs.length w) :
    Calls Tryz.prog 97 #[.func (.func gf) #[] lb] w fun e w' => HeapSays a (xs.map Subtype.val) w e w' := heapC_ gf lb xs w hE hent (seq_less hseq)

end Go.Proofs.YthmjdfjchhohgaaGreatDoor

namespace Go.Proofs.YthmjdfjchhohgaaGreatDoor
open Go.RowKit Go.Sort

/-- The cells of an array of a hundred numbers. -/
def numC (F : Nat → Int) : List Value := (List.range 100).map fun k => .int .i64 (F k)
theorem numC_len (F : Nat → Int) : (numC F).length = 100 := by simp [numC]
theorem numC_at (F : Nat → Int) {k : Nat} (hk : k < 100) : (numC F)[k]? = some (.int .i64 (F k)) := by simp [numC, hk]
theorem numC_set (F : Nat → Int) (k : Nat) (x : Int) : (numC F).set k (.int .i64 x) = numC (fun i => if i = k then x else F i) := by
  refine List.ext_getElem? fun i => ?_
  by_cases hi : i < 100
  · rw [List.getElem?_set, numC_at _ hi, numC_at _ hi, numC_len]
    by_cases e : k = i
    · subst e; simp [hi]
    · rw [if_neg e, if_neg (fun h => e h.symm)]
  · rw [List.getElem?_eq_none (by rw [List.length_set, numC_len]; omega), List.getElem?_eq_none (by rw [numC_len]; omega)]

def NumsAt (t : TypeId) (b : Nat) (W : World) (F : Nat → Int) : Prop := W.heap[b]? = some (.cells (numC F).toArray t (0, 0))
section
variable {t : TypeId} {b : Nat} {W W' : World} {F : Nat → Int}
theorem NumsAt.cell (h : NumsAt t b W F) {k : Nat} (hk : k < 100) : W.cell? ⟨b, k, none⟩ = some (.int .i64 (F k)) ∧ W.frozen? ⟨b, k, none⟩ = false := by
  have h' : W.heap[b]? = some (.cells (numC F).toArray t (0, 0)) := h
  constructor
  · have := numC_at F hk
    simp [World.cell?, h', this]
  · simp [World.frozen?, h']
theorem NumsAt.lt (h : NumsAt t b W F) : b < W.heap.size := (Array.getElem?_eq_some_iff.1 h).1
theorem NumsAt.below (h : NumsAt t b W F) (hB : Below W.heap.size W W') : NumsAt t b W' F := (hB.block b h.lt).trans h
theorem NumsAt.keep (h : NumsAt t b W F) (hk : W'.heap[b]? = W.heap[b]?) : NumsAt t b W' F := hk.trans h
theorem NumsAt.put (h : NumsAt t b W F) (k : Nat) (x : Int) : NumsAt t b (W.setCell ⟨b, k, none⟩ (.int .i64 x)) (fun i => if i = k then x else F i) := by
  have h1 := heap_setCell_same W b k _ t (.int .i64 x) h
  unfold NumsAt
  rw [h1, ← numC_set]
  simp
theorem numsAt_new (W : World) (F : Nat → Int) (t : TypeId) : NumsAt t W.heap.size (W.alloc (.cells (numC F).toArray t)) F := (Go.MapKept.heap_alloc W _).1
theorem NumsAt.load {P : Program} {n : Nat} {e : TypeId} (h : NumsAt t b W F) (hu : P.underlying t = some (.array n e)) (hi : (P.info? t).map (·.size) = some 100) : (loadVar t ⟨b, 0, none⟩).run P W = .ok (.agg (numC F).toArray) W :=
  run_loadVar_row W b t t _ (0, 0) _ h hu rfl (by rw [hi]; simp [numC_len])
theorem NumsAt.loadAt {P : Program} {n : Nat} {e : TypeId} (h : NumsAt t b W F) (hu : P.underlying t = some (.array n e)) (hi : (P.info? t).map (·.size) = some 100) : (Instr.loadAt t (.pointer (some ⟨b, 0, none⟩))).run P W = .ok (.agg (numC F).toArray) W := by
  simp only [Instr.loadAt, Instr.sureAddr, Sem.run_bind, Sem.run_pure, Result.andThen_ok]
  exact NumsAt.load h hu hi
theorem NumsAt.storeAt {P : Program} (h : NumsAt t b W F) (G : Nat → Int) (hi : (P.info? t).map (·.size) = some 100) : (Instr.storeAt t (.pointer (some ⟨b, 0, none⟩)) (.agg (numC G).toArray)).run P W = .ok () (W.setRow b (numC G).toArray) ∧ NumsAt t b (W.setRow b (numC G).toArray) G := by
  constructor
  · simp only [Instr.storeAt, Instr.sureAddr, Sem.run_bind, Sem.run_pure, Result.andThen_ok]
    refine run_storeVar_row W b t t _ _ h (by rw [hi]; simp [numC_len]) (by simp [numC_len]) (all_oneCell_toArray fun v hv => ?_)
    obtain ⟨k, _, rfl⟩ := List.mem_map.1 hv
    rfl
  · exact setRow_heap W b _ _ t (0, 0) h
theorem NumsAt.storeCells {P : Program} (h : NumsAt t b W F) (G : Nat → Int) : (Go.storeCells ⟨b, 0, none⟩ (numC G)).run P W = .ok () (W.setRow b (numC G).toArray) := by
  have := run_storeCells_from (P := P) b t (numC G) 0 _ W h (by simp [numC_len]) (fun v hv => by
    obtain ⟨k, _, rfl⟩ := List.mem_map.1 hv
    rfl)
  simpa using this
theorem NumsAt.setRow (h : NumsAt t b W F) (G : Nat → Int) : NumsAt t b (W.setRow b (numC G).toArray) G := setRow_heap W b _ _ t (0, 0) h
theorem below_setRow {w W : World} {b : Nat} {c : Array Value} (hB : Below w.heap.size w W) (hb : w.heap.size ≤ b) : Below w.heap.size w (W.setRow b c) where
  size := by rw [setRow_size]; exact hB.size
  block := fun k hk => by rw [setRow_other _ _ _ _ (by omega)]; exact hB.block k hk
  os := hB.os
  output := hB.output
  tape := hB.tape
end

/-- A load, a store, by what they are known to do. -/
theorem wp_load_at {P : Program} {op : Oper} {a : Act} {w : World} {K : Act → World → Prop} {Q : Exit → Act → World → Prop} {t : TypeId} {x : Operand} {p v : Value} (ho : op.op = .load t x) (hx : a.eval x = p) (h : (Instr.loadAt t p).run P w = .ok v w) (hK : K (a.put op.dst v) w) : op.wp P a w K Q := by
  unfold Oper.wp execOp
  simp only [ho, hx, Sem.run_bind, h, Result.andThen_ok]
  exact hK
theorem wp_store_at {P : Program} {op : Oper} {a : Act} {w w' : World} {K : Act → World → Prop} {Q : Exit → Act → World → Prop} {t : TypeId} {x y : Operand} {p v : Value} (ho : op.op = .store t x y) (hx : a.eval x = p) (hy : a.eval y = v) (h : (Instr.storeAt t p v).run P w = .ok () w') (hK : K (a.put op.dst undef) w') : op.wp P a w K Q := by
  unfold Oper.wp execOp
  simp only [ho, hx, hy, Sem.run_bind, h, Result.andThen_ok]
  exact hK

set_option maxRecDepth 100000 in
theorem verts_ (a0 a1 a2 a3 a4 a5 a6 : Option Addr) (n0 n1 n2 n3 n4 n5 n6 c0 c1 c2 c3 c4 c5 c6 : Nat) (w : World) :
    Calls Tryz.prog 60 #[.agg #[.slice a0 n0 c0, .slice a1 n1 c1, .slice a2 n2 c2, .slice a3 n3 c3, .slice a4 n4 c4, .slice a5 n5 c5, .slice a6 n6 c6]] w fun e w' => e = .returned (.slice a0 n0 c0) ∧ Below w.heap.size w w' := by
  have HB : Hid (Below w.heap.size w (w.alloc (.cells #[.slice a0 n0 c0, .slice a1 n1 c1, .slice a2 n2 c2, .slice a3 n3 c3, .slice a4 n4 c4, .slice a5 n5 c5, .slice a6 n6 c6] 63))) := (Below.refl _ w).alloc (Nat.le_refl _) _
  go_enter Tryz.func60, Tryz.ntmps60
  go_wp2
  go_ret
  exact ⟨rfl, HB.out⟩

end Go.Proofs.YthmjdfjchhohgaaGreatDoor
