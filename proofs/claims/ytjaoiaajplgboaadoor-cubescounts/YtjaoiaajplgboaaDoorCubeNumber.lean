/- What number does: the key is new there, and its place is how many were there. -/
import Derived.Test.YtjaoiaajplgboaaDoorCubeKeys
namespace Go.Proofs.YtjaoiaajplgboaaDoor
open Go.RowKit Go.Sort Go.Maps

/-- The datum of a number. -/
def numD (n : Nat) : DataW Unit := .lit (.int .i64 (n : Int))

set_option maxRecDepth 100000 in
set_option maxHeartbeats 1000000 in
theorem number_c (b n : Nat) (D : DataW Unit) (a : Sq) (w : World) (hM : w.ownsMap Tryd.prog 65 (plainElem Tryd.prog 3) b n D) (hn : n ≤ 100000) (ha : Small a) :
    Calls Tryd.prog 40 #[.map (some b), cornerV a] w fun e w' => e = .returned (.tuple #[]) ∧ w'.ownsMap Tryd.prog 65 (plainElem Tryd.prog 3) b (n + 1) (D.put (keyC a) (numD (Maps.size D))) ∧ w.grownBy w' (some b) := by
  have hkey := ha.key
  have hsz := hM.size_le
  have hwf : (Lit.int .i64 ((Maps.size D : Nat) : Int)).wf = true := wfI (by omega) (by omega)
  have hM1 : (w.alloc (.cells #[.int .i64 a.1, .int .i64 a.2] 65)).ownsMap Tryd.prog 65 (plainElem Tryd.prog 3) b n D := hM.alloc _
  have hg0 := World.grownBy_alloc w (.cells #[.int .i64 a.1, .int .i64 a.2] 65) (some b)
  unfold cornerV at hkey ⊢
  clear hM
  go_enter Tryd.func40, Tryd.ntmps40
  go_wp2_with (first
    | (at_len; refine wpList_len_own _ rfl _ 41 rfl 65 3 Tryd.underlying41 _ b n D rfl hM1 ?_)
    | (at_mapUpdate; refine wpList_mapUpdate_own _ rfl _ _ _ 41 rfl 65 3 law_corner Tryd.underlying41 _ b n D rfl hM1 (by unfold maxLen; omega) _ _ _ rfl rfl hkey _ [] (plainElem_int Tryd.underlying3 hwf) ?_; intro w1 hown1 hg1)
    | go_in)
  refine bodyPost_end (v := .tuple #[]) ?_ rfl ⟨rfl, hown1, hg0.trans hg1⟩
  simp [results, Tryd.f40, go_sem]

/-- An edge's value. -/
def edgeV (a c : Sq) : Value := .agg #[.int .i64 a.1, .int .i64 a.2, .int .i64 c.1, .int .i64 c.2]
theorem edge_of {a c : Sq} (ha : Small a) (hc : Small c) : keyOf Tryd.prog 93 (edgeV a c) = some (keyE a c) := by
  unfold Small at ha hc
  exact edge_key (wfI (by omega) (by omega)) (wfI (by omega) (by omega)) (wfI (by omega) (by omega)) (wfI (by omega) (by omega))
theorem keyE_inj {a c x y : Sq} (ha : Small a) (hc : Small c) (hx : Small x) (hy : Small y) (h : keyE a c = keyE x y) : a = x ∧ c = y := by
  have e : edgeV a c = edgeV x y := law_edge.inj (edge_of ha hc) (by rw [h]; exact edge_of hx hy)
  unfold edgeV at e
  simp at e
  exact ⟨Prod.ext e.1 e.2.1, Prod.ext e.2.2.1 e.2.2.2⟩

set_option maxRecDepth 100000 in
set_option maxHeartbeats 1000000 in
theorem number_e (b n : Nat) (D : DataW Unit) (a c : Sq) (w : World) (hM : w.ownsMap Tryd.prog 93 (plainElem Tryd.prog 3) b n D) (hn : n ≤ 100000) (ha : Small a) (hc : Small c) :
    Calls Tryd.prog 41 #[.map (some b), edgeV a c] w fun e w' => e = .returned (.tuple #[]) ∧ w'.ownsMap Tryd.prog 93 (plainElem Tryd.prog 3) b (n + 1) (D.put (keyE a c) (numD (Maps.size D))) ∧ w.grownBy w' (some b) := by
  have hkey := edge_of ha hc
  have hsz := hM.size_le
  have hwf : (Lit.int .i64 ((Maps.size D : Nat) : Int)).wf = true := wfI (by omega) (by omega)
  have hM1 : (w.alloc (.cells #[.int .i64 a.1, .int .i64 a.2, .int .i64 c.1, .int .i64 c.2] 93)).ownsMap Tryd.prog 93 (plainElem Tryd.prog 3) b n D := hM.alloc _
  have hg0 := World.grownBy_alloc w (.cells #[.int .i64 a.1, .int .i64 a.2, .int .i64 c.1, .int .i64 c.2] 93) (some b)
  unfold edgeV at hkey ⊢
  clear hM
  go_enter Tryd.func41, Tryd.ntmps41
  go_wp2_with (first
    | (at_len; refine wpList_len_own _ rfl _ 42 rfl 93 3 Tryd.underlying42 _ b n D rfl hM1 ?_)
    | (at_mapUpdate; refine wpList_mapUpdate_own _ rfl _ _ _ 42 rfl 93 3 law_edge Tryd.underlying42 _ b n D rfl hM1 (by unfold maxLen; omega) _ _ _ rfl rfl hkey _ [] (plainElem_int Tryd.underlying3 hwf) ?_; intro w1 hown1 hg1)
    | go_in)
  refine bodyPost_end (v := .tuple #[]) ?_ rfl ⟨rfl, hown1, hg0.trans hg1⟩
  simp [results, Tryd.f41, go_sem]

end Go.Proofs.YtjaoiaajplgboaaDoor
