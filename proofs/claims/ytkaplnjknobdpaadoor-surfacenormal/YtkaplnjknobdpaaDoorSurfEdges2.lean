/- What edges answers, of one good word: for each name that it has its sides, one or two. -/
import Derived.Test.YtkaplnjknobdpaaDoorSurfDelete
import Derived.Deep.Slices
namespace Go.Proofs.YtkaplnjknobdpaaDoor
open Go.RowKit Go.Sort

/-- The names of a word, rising; where the x-th name stands. -/
def namesI (ws : List Int) : List Nat := kpS (fun j => (placesI ws ws.length j).length) 61
def rowN (ws : List Int) (x : Nat) : List Nat := placesI ws ws.length ((namesI ws)[x]?.getD 0)
theorem rowN_at {ws : List Int} {x : Nat} (hx : x < (namesI ws).length) : rowN ws x = placesI ws ws.length (namesI ws)[x] := by unfold rowN; rw [List.getElem?_eq_getElem hx]; rfl
theorem rowN_pos {ws : List Int} {x : Nat} (hx : x < (namesI ws).length) : 0 < (rowN ws x).length := by
  rw [rowN_at hx]
  have h := (List.mem_filter.1 (show (namesI ws)[x] ∈ kpS (fun j => (placesI ws ws.length j).length) 61 from List.getElem_mem _)).2
  exact Nat.pos_of_ne_zero (of_decide_eq_true h)

/-- The edges in memory: blocks of S. -/
def EdgesIn (S : Nat → Prop) (W : World) (g : Nat) (ws : List Int) : Prop :=
  S g ∧ ∀ x, x < (namesI ws).length → ∃ b c, S b ∧ W.cell? ⟨g, x, none⟩ = some (.slice (some ⟨b, 0, none⟩) (rowN ws x).length c) ∧
    ∀ j (hj : j < (rowN ws x).length), W.cell? ⟨b, j * 4, none⟩ = some (.int .i64 (ltI ws (rowN ws x)[j])) ∧ W.cell? ⟨b, j * 4 + 1, none⟩ = some (.int .i64 0) ∧ W.cell? ⟨b, j * 4 + 2, none⟩ = some (.int .i64 (frI ws (rowN ws x)[j] : Int)) ∧ W.cell? ⟨b, j * 4 + 3, none⟩ = some (.int .i64 (toI ws (rowN ws x)[j] : Int))

theorem EdgesIn.keep {S : Nat → Prop} {W W' : World} {g : Nat} {ws : List Int} (h : EdgesIn S W g ws) (hk : ∀ b, S b → W'.heap[b]? = W.heap[b]?) : EdgesIn S W' g ws := by
  refine ⟨h.1, fun x hx => ?_⟩
  obtain ⟨b, c, h1, h2, h3⟩ := h.2 x hx
  refine ⟨b, c, h1, (World.cell?_of_block (hk g h.1)).trans h2, fun j hj => ?_⟩
  obtain ⟨e1, e2, e3, e4⟩ := h3 j hj
  exact ⟨(World.cell?_of_block (hk b h1)).trans e1, (World.cell?_of_block (hk b h1)).trans e2, (World.cell?_of_block (hk b h1)).trans e3, (World.cell?_of_block (hk b h1)).trans e4⟩

theorem sides_at {ws : List Int} : ∀ {l : List Nat} {j : Nat} (hj : j < l.length), (sidesOf ws l)[j * 4]? = some (.int .i64 (ltI ws l[j])) ∧ (sidesOf ws l)[j * 4 + 1]? = some (.int .i64 0) ∧ (sidesOf ws l)[j * 4 + 2]? = some (.int .i64 (frI ws l[j] : Int)) ∧ (sidesOf ws l)[j * 4 + 3]? = some (.int .i64 (toI ws l[j] : Int))
  | a :: l, 0, _ => ⟨rfl, rfl, rfl, rfl⟩
  | a :: l, j + 1, hj => by
    have h := sides_at (ws := ws) (l := l) (j := j) (by simpa using hj)
    have e : sidesOf ws (a :: l) = .int .i64 (ltI ws a) :: .int .i64 0 :: .int .i64 (frI ws a : Int) :: .int .i64 (toI ws a : Int) :: sidesOf ws l := rfl
    rw [e, show (j + 1) * 4 = j * 4 + 4 by omega]
    simpa using h

theorem edges_ {ws : List Int} (v : Value) (w : World) (h : Rows w v [ws]) (hok : WordOk ws) :
    Calls Tryd.prog 34 #[v] w fun e w' => ∃ g, e = .returned (.slice (some ⟨g, 0, none⟩) (namesI ws).length 61) ∧ EdgesIn (fun b => w.heap.size ≤ b ∧ b < w'.heap.size) w' g ws ∧ Below w.heap.size w w' := by
  refine (edges_tab v w h hok (fun u W e w' => ∃ g, u = .slice (some ⟨g, 0, none⟩) (namesI ws).length 61 ∧ EdgesIn (fun b => w.heap.size ≤ b ∧ b < w'.heap.size) w' g ws ∧ Below w.heap.size w w') (fun G W hE hG => ?_)).mono fun e w' hh => ?_
  · obtain ⟨vs, hT, hB⟩ := hE
    have each : ∀ j, j < 61 → ∃ q : Option Addr × Nat, vs[j]? = some (.slice q.1 (placesI ws ws.length j).length q.2) ∧ W.ownsRow w.heap.size 90 4 (.slice q.1 (placesI ws ws.length j).length q.2) (placesI ws ws.length j).length (sidesOf ws (placesI ws ws.length j)) := fun j hj => by
      obtain ⟨u, hu⟩ : ∃ u, vs[j]? = some u := ⟨_, List.getElem?_eq_getElem (by rw [hT.len, tabE_len]; exact hj)⟩
      obtain ⟨nu, hou⟩ := hT.inner _ _ _ hu (tabE_at hj)
      have h1 := hou.1
      rw [sidesOf_len] at h1
      obtain rfl : (placesI ws ws.length j).length = nu := by omega
      obtain ⟨a, c, rfl⟩ := own_slice hou
      exact ⟨(a, c), hu, hou⟩
    obtain ⟨q, hq⟩ := Go.Deep.choose_lt each
    have hrow : W.rowIs G 87 61 (fun j => .slice (q j).1 (placesI ws ws.length j).length (q j).2) := by
      have ho := hT.outer
      rw [tabE_len] at ho
      rcases ho.2 with ⟨e, _⟩ | ⟨g', cap', cur, e, _, h3, _, _, h6, h7⟩
      · cases e
      · cases e
        refine ⟨cur, h3, by simpa using h6, fun i hi => ?_⟩
        have : vs[i]? = cur[i]? := by rw [← h7, List.getElem?_take, if_pos (by omega), Array.getElem?_toList]
        rw [← this, (hq i hi).1]
    have h0 : (placesI ws ws.length 0).length = 0 := by
      rw [List.length_eq_zero_iff]
      unfold placesI
      rw [List.filter_eq_nil_iff]
      intro k hk he
      have hk := List.mem_range.1 hk
      have hn := hok.name ws[k] (List.getElem_mem _)
      have : ltI ws k = ws[k] := by unfold ltI; rw [List.getElem?_eq_getElem hk]; rfl
      rw [this] at he
      have := eq_of_beq he
      omega
    refine (delete_ G (fun j => (q j).1) (fun j => (placesI ws ws.length j).length) (fun j => (q j).2) W hrow h0 (fun j => Nat.le_trans (placesI_len _ _ _) (by have := hok.few; omega))).mono fun e w' hd => ?_
    obtain ⟨he, hk, hc⟩ := hd
    refine ⟨_, he, G, rfl, ⟨⟨hG, Nat.lt_of_lt_of_le (hT.lt (.inl rfl)).2 hk.size⟩, fun x hx => ?_⟩, ⟨hk.os.trans hB.os, hk.tape.trans hB.tape, hk.output.trans hB.output, Nat.le_trans hB.size hk.size, fun b hb => (hk.block b (Nat.lt_of_lt_of_le hb hB.size) (by omega) (by omega)).trans (hB.block b hb)⟩⟩
    have hx1 : x < (kpS (fun j => (placesI ws ws.length j).length) 61).length := hx
    have hpos := rowN_pos hx
    have hnm : (namesI ws)[x] < 61 := List.mem_range.1 (List.mem_filter.1 (show (namesI ws)[x] ∈ kpS (fun j => (placesI ws ws.length j).length) 61 from List.getElem_mem _)).1
    have hcx := hc x hx1
    obtain ⟨nm, hn⟩ : ∃ nm, (namesI ws)[x] = nm := ⟨_, rfl⟩
    have hn' : (kpS (fun j => (placesI ws ws.length j).length) 61)[x] = nm := hn
    rw [hn] at hnm
    rw [hn'] at hcx
    have hrw : rowN ws x = placesI ws ws.length nm := by subst hn; exact rowN_at hx
    have ho := (hq nm hnm).2
    have hvn := (hq nm hnm).1
    rw [← hrw] at ho hvn
    have hcx' : w'.cell? ⟨G, x, none⟩ = some (.slice (q nm).1 (rowN ws x).length (q nm).2) := by rw [hrw]; exact hcx
    rcases ho.2 with ⟨_, h2⟩ | ⟨b, cap, cur, h2, h3, h4, _⟩
    · omega
    · have hbb : (Value.slice (q nm).1 (rowN ws x).length (q nm).2).ownBlock = some b := by rw [h2]; rfl
      have hbG : b ≠ G := fun e => hT.out _ _ hvn b hbb (by rw [e]; rfl)
      have hbl : b < W.heap.size := (ho.lt b hbb).2
      rw [h2] at hcx'
      refine ⟨b, cap, ⟨h3, Nat.lt_of_lt_of_le hbl hk.size⟩, hcx', fun j hj => ?_⟩
      obtain ⟨e1, e2, e3, e4⟩ := sides_at (ws := ws) hj
      have hcell : ∀ i u, (sidesOf ws (rowN ws x))[i]? = some u → w'.cell? ⟨b, i, none⟩ = some u := fun i u hu => by
        rw [hk.cell (p := ⟨b, i, none⟩) hbl hbG hbG]
        have := ho.cells (g := b) hbb i u hu
        rwa [Addr.add_lit, Nat.zero_add] at this
      exact ⟨hcell _ _ e1, hcell _ _ e2, hcell _ _ e3, hcell _ _ e4⟩
  · obtain ⟨u, W, rfl, g, rfl, h1, h2⟩ := hh
    exact ⟨g, rfl, h1, h2⟩

end Go.Proofs.YtkaplnjknobdpaaDoor
