/- What heap answers: a map of all faces of the texts that come, or that there are too many. -/
import Derived.Test.YtmbolgalgidleaaGreatDoorValues
import Derived.Maps.OwnIn
import Derived.RangeFuncCalls
import Derived.Shelf.RegionOpen
import Derived.RangeFuncBound
import Derived.RangeFuncNested
namespace Go.Proofs.YtmbolgalgidleaaGreatDoor
open Go.RowKit Go.Shelf Go.Sort Go.Maps

attribute [local go_sem] Oper.semAt_some

/-- What heap answers. -/
def HeapSays (a : Nat → Addr) (ts : List (List UInt8)) (w : World) (e : Ending) (w' : World) : Prop :=
  Below w.heap.size w w' ∧ ((∃ b F G, e = .returned (.tuple #[.map (some b), .nilIface]) ∧ PileAt w' b F G ∧ Heaped ts F G) ∨
    (Over ts ∧ e = .returned (.tuple #[.map none, .iface 168 (.pointer (some (a 1)))])))

theorem over_mono {ts us : List (List UInt8)} (h : Over ts) (hs : ∀ t ∈ ts, t ∈ us) : Over us := by
  rcases h with ⟨t, ht, hl⟩ | ⟨X, hn, hl, hx⟩
  · exact .inl ⟨t, hs t ht, hl⟩
  · exact .inr ⟨X, hn, hl, fun x hx' => by obtain ⟨h1, t, ht, h2⟩ := hx x hx'; exact ⟨h1, t, hs t ht, h2⟩⟩

theorem cell_of_block {W : World} {B : Nat} {v : Value} {t : TypeId} (h : W.heap[B]? = some (.cells #[v] t (0, 0))) : W.cell? ⟨B, 0, none⟩ = some v ∧ W.frozen? ⟨B, 0, none⟩ = false := by
  constructor <;> simp [World.cell?, World.frozen?, h]
theorem box_new (W : World) (v : Value) (t : TypeId) : (W.alloc (.cells #[v] t)).cell? ⟨W.heap.size, 0, none⟩ = some v ∧ (W.alloc (.cells #[v] t)).frozen? ⟨W.heap.size, 0, none⟩ = false :=
  cell_of_block (World.alloc_heap_new W _)
theorem box_alloc {W : World} {p : Addr} {v : Value} (o : Obj) (h : W.cell? p = some v ∧ W.frozen? p = false) : (W.alloc o).cell? p = some v ∧ (W.alloc o).frozen? p = false :=
  ⟨cell_kept h.1 (World.grownBy_alloc W o none) (fun r e => by cases e), (frozen_kept h.1 (World.grownBy_alloc W o none) (fun r e => by cases e)).trans h.2⟩

/-- The two results' variables and the map's own variable, and the map's place. -/
structure Boxes (B : Nat) (W : World) (v2 v3 : Value) : Prop where
  two : W.cell? ⟨B, 0, none⟩ = some v2 ∧ W.frozen? ⟨B, 0, none⟩ = false
  three : W.cell? ⟨B + 1, 0, none⟩ = some v3 ∧ W.frozen? ⟨B + 1, 0, none⟩ = false
  four : W.cell? ⟨B + 1 + 1 + 1, 0, none⟩ = some (.map (some (B + 1 + 1))) ∧ W.frozen? ⟨B + 1 + 1 + 1, 0, none⟩ = false
theorem Boxes.kept {B : Nat} {W W' : World} {v2 v3 : Value} {row : Option Nat} (h : Boxes B W v2 v3) (hg : W.grownBy W' row) (hr : ∀ r, row = some r → ∃ o : Obj, W.heap[r]? = some o ∧ o.isCells = false) : Boxes B W' v2 v3 :=
  ⟨⟨cell_kept h.two.1 hg hr, (frozen_kept h.two.1 hg hr).trans h.two.2⟩, ⟨cell_kept h.three.1 hg hr, (frozen_kept h.three.1 hg hr).trans h.three.2⟩, ⟨cell_kept h.four.1 hg hr, (frozen_kept h.four.1 hg hr).trans h.four.2⟩⟩
theorem Boxes.drew {B : Nat} {W : World} {v2 v3 : Value} (h : Boxes B W v2 v3) : Boxes B W.drew v2 v3 := ⟨h.two, h.three, h.four⟩
theorem boxes_new (w : World) (v2 v3 : Value) (t2 t3 t4 : TypeId) (o : Obj) : Boxes w.heap.size ((((w.alloc (.cells #[v2] t2)).alloc (.cells #[v3] t3)).alloc o).alloc (.cells #[.map (some (w.heap.size + 1 + 1))] t4)) v2 v3 := by
  refine ⟨box_alloc _ (box_alloc _ (box_alloc _ (box_new w v2 t2))), ?_, ?_⟩
  · have := box_alloc (.cells #[.map (some (w.heap.size + 1 + 1))] t4) (box_alloc o (box_new (w.alloc (.cells #[v2] t2)) v3 t3))
    rwa [World.size_alloc] at this
  · have := box_new (((w.alloc (.cells #[v2] t2)).alloc (.cells #[v3] t3)).alloc o) (.map (some (w.heap.size + 1 + 1))) t4
    rwa [World.size_alloc, World.size_alloc, World.size_alloc] at this
theorem PileAt.block {W : World} {b : Nat} {F : List (List UInt8)} {G : List UInt8 → Prop} (h : PileAt W b F G) : ∃ o : Obj, W.heap[b]? = some o ∧ o.isCells = false := by
  obtain ⟨D, ⟨es, c, hh, _⟩, _⟩ := h
  exact ⟨_, hh, rfl⟩

theorem PileAt.setCell {W : World} {b : Nat} {F : List (List UInt8)} {G : List UInt8 → Prop} (h : PileAt W b F G) {p : Addr} (hp : b ≠ p.block) (u : Value) : PileAt (W.setCell p u) b F G := by
  obtain ⟨D, h1, h2⟩ := h
  exact ⟨D, h1.setCell hp u, h2⟩
theorem boxes_set {B : Nat} {W : World} {v2 v3 : Value} (h : Boxes B W v2 v3) (x2 x3 : Value) : Boxes B ((W.setCell ⟨B, 0, none⟩ x2).setCell ⟨B + 1, 0, none⟩ x3) x2 x3 := by
  have e : ∀ (j k : Nat), j ≠ k → (⟨j, 0, none⟩ : Addr) ≠ ⟨k, 0, none⟩ := fun j k hne h => hne (by cases h; rfl)
  refine ⟨⟨?_, ?_⟩, ⟨?_, ?_⟩, ⟨?_, ?_⟩⟩
  · rw [World.cell?_setCell_other _ _ _ _ (e _ _ (by omega))]
    exact World.cell?_setCell_same' _ _ _ (by rw [h.two.1]; rfl)
  · rw [World.frozen?_setCell, World.frozen?_setCell]; exact h.two.2
  · refine World.cell?_setCell_same' _ _ _ ?_
    rw [World.cell?_setCell_other _ _ _ _ (e _ _ (by omega)), h.three.1]; rfl
  · rw [World.frozen?_setCell, World.frozen?_setCell]; exact h.three.2
  · rw [World.cell?_setCell_other _ _ _ _ (e _ _ (by omega)), World.cell?_setCell_other _ _ _ _ (e _ _ (by omega))]; exact h.four.1
  · rw [World.frozen?_setCell, World.frozen?_setCell]; exact h.four.2

set_option maxRecDepth 100000 in
set_option maxHeartbeats 2000000 in
theorem heap_ {a : Nat → Addr} {s : Nat → ByteArray} (gf : Nat) (lb : Array Value) (xs : List Fc) (w : World) (hE : Errs a s w)
    (hent : ∀ args w, (callFunc gf args).run Tryz.prog w = .ok (.enter gf args) w)
    (hseq : SeqStopsK Fence.wide 9 Tryz.prog gf lb (fun x : Fc => #[encStr x.1]) (Below w.heap.size) (fun ys => ys = xs) (fun pre => pre <+: xs) xs.length w) :
    Calls Tryz.prog 74 #[.func (.func gf) #[] lb] w fun e w' => HeapSays a (xs.map Subtype.val) w e w' := by
  refine (callsIn_wide (n := 10)).1 ?_
  have hmm := @run_makeMap Tryz.prog
  refine callsIn_of_wp_marks Tryz.func74 rfl trivial ?_ rfl
  simp only [Tryz.ntmps74, List.size_toArray, List.length_cons, List.length_nil, Nat.reduceAdd, Nat.reduceSub, Array.replicate_succ, Array.replicate_zero, List.push_toArray, List.append_toArray, List.nil_append, List.cons_append]
  gi_wp2
  have hbx := boxes_new w (.map none) .nilIface 62 30 62 (.map #[] 0)
  have hp0 : PileAt ((((w.alloc (.cells #[.map none] 62)).alloc (.cells #[.nilIface] 30)).alloc (.map #[] 0)).alloc (.cells #[.map (some (w.heap.size + 1 + 1))] 62)) (w.heap.size + 1 + 1) [] (fun _ => False) := by
    have hm := World.ownsMap_made (H := Unit) ((w.alloc (.cells #[.map none] 62)).alloc (.cells #[.nilIface] 30)) Tryz.prog 9 (plainElem Tryz.prog 3)
    rw [World.size_alloc, World.size_alloc] at hm
    exact ⟨.map [], hm.alloc _, fun x => by simp [Maps.has], rfl, fun x hx => by cases hx⟩
  have hB0 : Below w.heap.size w ((((w.alloc (.cells #[.map none] 62)).alloc (.cells #[.nilIface] 30)).alloc (.map #[] 0)).alloc (.cells #[.map (some (w.heap.size + 1 + 1))] 62)) :=
    ((((Below.refl _ w).alloc (Nat.le_refl _) _).alloc (by simp) _).alloc (by simp; omega) _).alloc (by simp; omega) _
  obtain ⟨W0, hW0⟩ : ∃ W0, ((((w.alloc (.cells #[.map none] 62)).alloc (.cells #[.nilIface] 30)).alloc (.map #[] 0)).alloc (.cells #[.map (some (w.heap.size + 1 + 1))] 62)) = W0 := ⟨_, rfl⟩
  have hsz : W0.heap.size = w.heap.size + 4 := by rw [← hW0]; simp
  rw [hW0] at hbx hp0 hB0 ⊢
  clear hW0 hmm
  have hle : w.heap.size ≤ W0.heap.size := by omega
  refine wpIn_rangeFunc_ownG rfl (by decide) (gf := gf) (lb := lb) rfl trivial hent hseq belowK_t (belowK_b hle) hB0 (fun _ => rfl)
    (fun pre W => (Boxes w.heap.size W (.map none) .nilIface ∧ ∃ F G, PileAt W (w.heap.size + 1 + 1) F G ∧ Heaped (pre.map Subtype.val) F G) ∧ Below w.heap.size w W)
    (fun c pre W => (c = .ret ∧ Boxes w.heap.size W (.map none) (.iface 168 (.pointer (some (a 1)))) ∧ Over (pre.map Subtype.val)) ∧ Below w.heap.size w W)
    (OwnFrom.and (fun s A B row hs hg hr => ⟨hs.1.kept hg (fun r e => (hr r e).2), by
      obtain ⟨F, G, h1, h2⟩ := hs.2
      exact ⟨F, G, h1.kept hg (fun e => by have := (hr _ e.symm).1; omega), h2⟩⟩) (ownFrom_below (Nat.le_refl _) hle))
    (fun c => OwnFrom.and (fun s A B row hs hg hr => ⟨hs.1, hs.2.1.kept hg (fun r e => (hr r e).2), hs.2.2⟩) (ownFrom_below (Nat.le_refl _) hle))
    ⟨⟨hbx, [], _, hp0, heaped_nil⟩, hB0⟩
    (fun x => { tmps := #[.func (.func gf) #[] lb, undef, .pointer (some ⟨w.heap.size, 0, none⟩), .pointer (some ⟨w.heap.size + 1, 0, none⟩), .pointer (some ⟨w.heap.size + 1 + 1 + 1, 0, none⟩), encStr x.1, .map (some (w.heap.size + 1 + 1)), .func (.func gf) #[] lb, encStr x.1, undef, undef, undef, undef, undef, undef], defers := [] }) ?assign ?body ?done ?stop
  case assign =>
    intro l x W K hK
    gi_wp2
    exact hK
  case body =>
    rintro l pre x W ⟨⟨hb, F, G, hP, hH⟩, hB⟩ _
    have HH : Hid (Heaped (pre.map Subtype.val) F G) := hH
    have HPB : Hid (∃ o : Obj, W.heap[w.heap.size + 1 + 1]? = some o ∧ o.isCells = false) := hP.block
    have hput := put_pile x.1.length x.1 F G W (w.heap.size + 1 + 1) (Nat.le_refl _) x.2.1 x.2.2 hP (hH.pile _)
    have h4 := hb.four.1
    have HBX : Hid (Boxes w.heap.size W (.map none) .nilIface) := hb
    clear hH hP hb
    gi_wp2
    refine ⟨trivial, ?_⟩
    refine (CallsIn.inRound l (callsIn_wide.2 hput)).mono ?_
    clear hput
    rintro e W' ⟨hg, ⟨rfl, F', G', hP', hGr, hin⟩ | ⟨rfl, hov⟩⟩
    · have hbx' := HBX.out.kept hg (fun r e => by cases e; exact HPB.out)
      have hB' : Below w.heap.size w W' := hB.grown hg hB.size (fun k e => by cases e; omega)
      have hBW : Below w.heap.size W W' := (Below.refl _ W).grown hg hB.size (fun k e => by cases e; omega)
      gi_wp2
      exact ⟨KeepsFrom.of_grownBy hg (fun j e => by cases e; omega), hBW, ⟨hbx', F', G', hP', by rw [List.map_append]; exact HH.out.snoc hGr hin⟩, hB'⟩
    · have hbx' := HBX.out.kept hg (fun r e => by cases e; exact HPB.out)
      have hB' : Below w.heap.size w W' := hB.grown hg hB.size (fun k e => by cases e; omega)
      have hov' : Over ((pre ++ [x]).map Subtype.val) := by
        rw [List.map_append]
        exact HH.out.over hov []
      have hgl : W'.cell? ⟨3, 0, none⟩ = some (.iface 168 (.pointer (some (a 1)))) := (hE.below hB').glob 1 (by decide)
      have hgl2 : (W'.setCell ⟨w.heap.size, 0, none⟩ (.map none)).cell? ⟨3, 0, none⟩ = some (.iface 168 (.pointer (some (a 1)))) :=
        (((Below.refl w.heap.size W').setCell (p := ⟨w.heap.size, 0, none⟩) (Nat.le_refl _) (.map none)).cell (p := ⟨3, 0, none⟩) (cell_lt (hE.glob 1 (by decide)))).trans hgl
      have hc2 := hbx'.two
      have hc3 := hbx'.three
      have hkf : KeepsFrom W0.heap.size W W' := KeepsFrom.of_grownBy hg (fun j e => by cases e; omega)
      obtain ⟨c2, z2⟩ := hc2
      obtain ⟨c3, z3⟩ := hc3
      gi_wp2
      have hfo : Tryz.prog.follows Departure.mixedOrders = true := by kernel_rfl
      gi_region_with_o (fail)
      all_goals gi_wp2
      all_goals exact ⟨hkf.trans ((((KeepsOthers.setCell W' _ _).trans (KeepsOthers.setCell _ _ _)).trans (KeepsOthers.drew _)).from _), ⟨rfl, (boxes_set hbx' _ _).drew, hov'⟩, ((hB'.setCell (p := ⟨w.heap.size, 0, none⟩) (Nat.le_refl _) _).setCell (p := ⟨w.heap.size + 1, 0, none⟩) (by simp) _).drew⟩
  case done =>
    rintro D ys W hD rfl ⟨⟨hb, F, G, hP, hH⟩, hB⟩ hK
    have hD2 : w.heap.size ≤ D := by omega
    have hne : (w.heap.size + 1 + 1) ≠ D := by omega
    obtain ⟨c2, z2⟩ := hb.two
    obtain ⟨c3, z3⟩ := hb.three
    have c4 := hb.four.1
    have hfin := boxes_set hb (.map (some (w.heap.size + 1 + 1))) .nilIface
    have hK' := (KeepsOthers.setCell (W.setCell ⟨w.heap.size, 0, none⟩ (.map (some (w.heap.size + 1 + 1)))) ⟨w.heap.size + 1, 0, none⟩ .nilIface).same D _ ((KeepsOthers.setCell W ⟨w.heap.size, 0, none⟩ (.map (some (w.heap.size + 1 + 1)))).same D _ hK rfl) rfl
    have hB2 : Below w.heap.size w ((W.setCell ⟨w.heap.size, 0, none⟩ (.map (some (w.heap.size + 1 + 1)))).setCell ⟨w.heap.size + 1, 0, none⟩ .nilIface) := (hB.setCell (p := ⟨w.heap.size, 0, none⟩) (Nat.le_refl _) _).setCell (p := ⟨w.heap.size + 1, 0, none⟩) (by simp) _
    have hP2 := (hP.setCell (p := ⟨w.heap.size, 0, none⟩) (by show _ ≠ w.heap.size; omega) (.map (some (w.heap.size + 1 + 1)))).setCell (p := ⟨w.heap.size + 1, 0, none⟩) (by show _ ≠ w.heap.size + 1; omega) .nilIface
    gi_wp2
    refine ⟨by simp, .inl ⟨_, _, rfl, run_takeDeferred hK', ?_⟩⟩
    have hfin2 := hfin.kept (grownBy_putObj' _ D (.deferred none)) (fun r e => by cases e; exact ⟨_, hK', rfl⟩)
    have f2 := hfin2.two.1
    have f3 := hfin2.three.1
    refine ⟨.tuple #[.map (some (w.heap.size + 1 + 1)), .nilIface], ?_, hB2.trans (belowK_b (w := w) (Nat.le_refl _) _ D _ _ hD2 hK' rfl rfl), .inl ⟨_, F, G, rfl, hP2.kept (grownBy_putObj' _ D _) (fun e => by cases e; exact hne rfl), hH⟩⟩
    simp [results, Tryz.f74, go_sem, f2, f3]
  case stop =>
    rintro D c pre W hD hpre ⟨⟨rfl, hb, hov⟩, hB⟩ hK
    have hD2 : w.heap.size ≤ D := by omega
    gi_wp2
    refine ⟨by simp, .inl ⟨_, _, rfl, run_takeDeferred hK, ?_⟩⟩
    have hfin2 := hb.kept (grownBy_putObj' _ D (.deferred none)) (fun r e => by cases e; exact ⟨_, hK, rfl⟩)
    have f2 := hfin2.two.1
    have f3 := hfin2.three.1
    refine ⟨.tuple #[.map none, .iface 168 (.pointer (some (a 1)))], ?_, hB.trans (belowK_b (w := w) (Nat.le_refl _) _ D _ _ hD2 hK rfl rfl), .inr ⟨over_mono hov (fun t ht => ?_), rfl⟩⟩
    · simp [results, Tryz.f74, go_sem, f2, f3]
    · obtain ⟨x, hx, rfl⟩ := List.mem_map.1 ht
      exact List.mem_map.2 ⟨x, hpre.subset hx, rfl⟩

end Go.Proofs.YtmbolgalgidleaaGreatDoor
