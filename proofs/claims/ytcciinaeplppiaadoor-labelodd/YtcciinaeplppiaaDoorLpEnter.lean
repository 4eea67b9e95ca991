/- The program enters by a door and goes on. -/
import Derived.Test.YtcciinaeplppiaaDoorLpWay
import Derived.Test.YtcciinaeplppiaaDoorLabThrough
namespace Go.Proofs.YtcciinaeplppiaaDoor
open Go.RowKit Go.Sort

theorem grown_cell (W : World) (p : Addr) (v : Value) : W.grownBy (W.setCell p v) (some p.block) := ⟨rfl, rfl, rfl, by simp, fun k _ hk => Below.heap_setCell W p v k (fun e => hk (by rw [e]))⟩
/-- The house, the door and the room that is left, in memory. -/
structure HouseAt (hb db lb : Nat) (W : World) (vl vr : Value) (s : T2) (l : T3) : Prop where
  h0 : W.cell? ⟨hb, 0, none⟩ = some vl
  h1 : W.cell? ⟨hb, 1, none⟩ = some vr
  d0 : W.cell? ⟨db, 0, none⟩ = some (.int .i64 s.1)
  d1 : W.cell? ⟨db, 1, none⟩ = some (.int .i64 s.2)
  l0 : W.cell? ⟨lb, 0, none⟩ = some (.int .i64 l.1)
  l1 : W.cell? ⟨lb, 1, none⟩ = some (.int .i64 l.2.1)
  l2 : W.cell? ⟨lb, 2, none⟩ = some (.int .i64 l.2.2)
  fd : ∀ t, W.frozen? ⟨db, t, none⟩ = false
  fl : ∀ t, W.frozen? ⟨lb, t, none⟩ = false
theorem HouseAt.keep {hb db lb : Nat} {W W' : World} {vl vr : Value} {s : T2} {l : T3} (h : HouseAt hb db lb W vl vr s l) (k0 : W'.heap[hb]? = W.heap[hb]?) (k1 : W'.heap[db]? = W.heap[db]?) (k2 : W'.heap[lb]? = W.heap[lb]?) : HouseAt hb db lb W' vl vr s l :=
  ⟨(World.cell?_of_block (a := ⟨hb, 0, none⟩) k0).trans h.h0, (World.cell?_of_block (a := ⟨hb, 1, none⟩) k0).trans h.h1, (World.cell?_of_block (a := ⟨db, 0, none⟩) k1).trans h.d0, (World.cell?_of_block (a := ⟨db, 1, none⟩) k1).trans h.d1, (World.cell?_of_block (a := ⟨lb, 0, none⟩) k2).trans h.l0, (World.cell?_of_block (a := ⟨lb, 1, none⟩) k2).trans h.l1, (World.cell?_of_block (a := ⟨lb, 2, none⟩) k2).trans h.l2, fun t => (World.frozen?_of_block (a := ⟨db, t, none⟩) k1).trans (h.fd t), fun t => (World.frozen?_of_block (a := ⟨lb, t, none⟩) k2).trans (h.fl t)⟩
theorem HouseAt.below {hb db lb : Nat} {W W' : World} {vl vr : Value} {s : T2} {l : T3} (h : HouseAt hb db lb W vl vr s l) (hB : Below W.heap.size W W') : HouseAt hb db lb W' vl vr s l := h.keep (hB.block hb (cell_lt h.h0)) (hB.block db (cell_lt h.d0)) (hB.block lb (cell_lt h.l0))
theorem HouseAt.grown {hb db lb : Nat} {W W' : World} {vl vr : Value} {s : T2} {l : T3} {row : Option Nat} (h : HouseAt hb db lb W vl vr s l) (hg : W.grownBy W' row) (n0 : some hb ≠ row) (n1 : some db ≠ row) (n2 : some lb ≠ row) : HouseAt hb db lb W' vl vr s l := h.keep (hg.block hb (cell_lt h.h0) n0) (hg.block db (cell_lt h.d0) n1) (hg.block lb (cell_lt h.l0) n2)
theorem HouseAt.setDoor {hb db lb : Nat} {W : World} {vl vr : Value} {s : T2} {l : T3} (h : HouseAt hb db lb W vl vr s l) (e1 : hb ≠ db) (e2 : lb ≠ db) (s' : T2) : HouseAt hb db lb ((W.setCell ⟨db, 0, none⟩ (.int .i64 s'.1)).setCell ⟨db, 1, none⟩ (.int .i64 s'.2)) vl vr s' l := by
  have k0 : ∀ b, b ≠ db → ((W.setCell ⟨db, 0, none⟩ (.int .i64 s'.1)).setCell ⟨db, 1, none⟩ (.int .i64 s'.2)).heap[b]? = W.heap[b]? := fun b hb => (Below.heap_setCell _ ⟨db, 1, none⟩ _ b (fun e => hb e)).trans (Below.heap_setCell _ ⟨db, 0, none⟩ _ b (fun e => hb e))
  obtain ⟨x0, x1⟩ := two_put h.d0 h.d1 (.int .i64 s'.1) (.int .i64 s'.2)
  exact ⟨(World.cell?_of_block (a := ⟨hb, 0, none⟩) (k0 hb e1)).trans h.h0, (World.cell?_of_block (a := ⟨hb, 1, none⟩) (k0 hb e1)).trans h.h1, x0, x1, (World.cell?_of_block (a := ⟨lb, 0, none⟩) (k0 lb e2)).trans h.l0, (World.cell?_of_block (a := ⟨lb, 1, none⟩) (k0 lb e2)).trans h.l1, (World.cell?_of_block (a := ⟨lb, 2, none⟩) (k0 lb e2)).trans h.l2, fun t => by rw [World.frozen?_setCell, World.frozen?_setCell]; exact h.fd t, fun t => by rw [World.frozen?_setCell, World.frozen?_setCell]; exact h.fl t⟩
theorem HouseAt.setLeft {hb db lb : Nat} {W : World} {vl vr : Value} {s : T2} {l : T3} (h : HouseAt hb db lb W vl vr s l) (e1 : hb ≠ lb) (e2 : db ≠ lb) (l' : T3) : HouseAt hb db lb (((W.setCell ⟨lb, 0, none⟩ (.int .i64 l'.1)).setCell ⟨lb, 1, none⟩ (.int .i64 l'.2.1)).setCell ⟨lb, 2, none⟩ (.int .i64 l'.2.2)) vl vr s l' := by
  have k0 : ∀ b, b ≠ lb → (((W.setCell ⟨lb, 0, none⟩ (.int .i64 l'.1)).setCell ⟨lb, 1, none⟩ (.int .i64 l'.2.1)).setCell ⟨lb, 2, none⟩ (.int .i64 l'.2.2)).heap[b]? = W.heap[b]? := fun b hb => ((Below.heap_setCell _ ⟨lb, 2, none⟩ _ b (fun e => hb e)).trans (Below.heap_setCell _ ⟨lb, 1, none⟩ _ b (fun e => hb e))).trans (Below.heap_setCell _ ⟨lb, 0, none⟩ _ b (fun e => hb e))
  obtain ⟨x0, x1⟩ := two_put h.l0 h.l1 (.int .i64 l'.1) (.int .i64 l'.2.1)
  have m0 : (⟨lb, 0, none⟩ : Addr) ≠ ⟨lb, 2, none⟩ := fun e => by cases e
  have m1 : (⟨lb, 1, none⟩ : Addr) ≠ ⟨lb, 2, none⟩ := fun e => by cases e
  have x2 : ((W.setCell ⟨lb, 0, none⟩ (.int .i64 l'.1)).setCell ⟨lb, 1, none⟩ (.int .i64 l'.2.1)).cell? ⟨lb, 2, none⟩ = some (.int .i64 l.2.2) := by
    rw [World.cell?_setCell_other _ ⟨lb, 1, none⟩ ⟨lb, 2, none⟩ _ m1, World.cell?_setCell_other _ ⟨lb, 0, none⟩ ⟨lb, 2, none⟩ _ m0]; exact h.l2
  exact ⟨(World.cell?_of_block (a := ⟨hb, 0, none⟩) (k0 hb e1)).trans h.h0, (World.cell?_of_block (a := ⟨hb, 1, none⟩) (k0 hb e1)).trans h.h1, (World.cell?_of_block (a := ⟨db, 0, none⟩) (k0 db e2)).trans h.d0, (World.cell?_of_block (a := ⟨db, 1, none⟩) (k0 db e2)).trans h.d1, by rw [World.cell?_setCell_other _ ⟨lb, 2, none⟩ ⟨lb, 0, none⟩ _ m0.symm]; exact x0, by rw [World.cell?_setCell_other _ ⟨lb, 2, none⟩ ⟨lb, 1, none⟩ _ m1.symm]; exact x1, World.cell?_setCell_same' _ ⟨lb, 2, none⟩ _ (by rw [x2]; rfl), fun t => by rw [World.frozen?_setCell, World.frozen?_setCell, World.frozen?_setCell]; exact h.fd t, fun t => by rw [World.frozen?_setCell, World.frozen?_setCell, World.frozen?_setCell]; exact h.fl t⟩

/-- While one goes on. -/
structure EntAt (n : Nat) (ls e0 : List Int) (OUT : List Int × Bool) (w : World) (base hb db lb : Nat) (vl vr : Value) (f x y : Nat) (frm : Int) (out : List Int) (vo : Value) (W : World) : Prop where
  inv : WayInv n ls e0 [(x : Int), (y : Int)] out frm
  fin : thru (smallL n) ls f [(x : Int), (y : Int)] frm out = OUT
  fuel : f + out.length = (smallL n).length + 1
  few : out.length ≤ (smallL n).length
  xy : x < y
  mem : HouseAt hb db lb W vl vr ((x : Int), (y : Int)) (leftT n frm)
  own : W.ownsRow base 3 1 vo out.length (out.map (Value.int .i64))
  bl : Below w.heap.size w W
  bs : base ≤ W.heap.size
/-- What enter answers. -/
def EnterSays (OUT : List Int × Bool) (w : World) (e : Ending) (w' : World) : Prop := ∃ v, e = .returned (.tuple #[v, .bool (!OUT.2)]) ∧ Ints w' v OUT.1 ∧ Below w.heap.size w w'

set_option maxRecDepth 100000 in
set_option maxHeartbeats 4000000 in
theorem enter_ {n : Nat} (hn : n ≤ 12) {ls : List Int} {x0 y0 : Nat} (al : Option Addr) (cl : Nat) (ar : Option Addr) (cr : Nat) (w : World) (hl : Ints w (.slice al ls.length cl) ls) (hr : TriRd w (.slice ar (smallL n).length cr) (triesL n)) (hls : ls.length = (spotsL n).length) (hlab : ∀ k, k < ls.length → 0 ≤ labA ls k ∧ labA ls k ≤ 2) (hxy0 : x0 < y0) (hok : DoorOk ls [(x0 : Int), (y0 : Int)]) (hb : ∀ r s, r ∈ smallL n → s ∈ smallL n → partB [(x0 : Int), (y0 : Int)] r = true → partB [(x0 : Int), (y0 : Int)] s = true → r = s) :
    Calls Tryd.prog 34 #[.agg #[.slice al ls.length cl, .slice ar (smallL n).length cr], aggS ((x0 : Int), (y0 : Int))] w fun e w' => EnterSays (thru (smallL n) ls ((smallL n).length + 1) [(x0 : Int), (y0 : Int)] (-1) []) w e w' := by
  obtain ⟨j0, hj0, hy0, hy1, hy2⟩ := info_parts Tryd.infoInt
  obtain ⟨W2, hW2, g0, g1, s0, s1, t0, t1, t2, hfl, hfd, hB⟩ := box223 w (.slice al ls.length cl) (.slice ar (smallL n).length cr) (.int .i64 (x0 : Int)) (.int .i64 (y0 : Int)) (.int .i64 0) (.int .i64 0) (.int .i64 0) 67 55 36
  unfold aggS
  dsimp only
  have HW := Hid.mk' hW2
  have HT0 : Hid (EntAt n ls [(x0 : Int), (y0 : Int)] (thru (smallL n) ls ((smallL n).length + 1) [(x0 : Int), (y0 : Int)] (-1) []) w W2.heap.size w.heap.size (w.heap.size + 1) (w.heap.size + 2) (.slice al ls.length cl) (.slice ar (smallL n).length cr) ((smallL n).length + 1) x0 y0 (-1) [] (.slice none 0 0) W2) := ⟨WayInv.start hok, rfl, rfl, Nat.zero_le _, hxy0, ⟨g0, g1, s0, s1, t0, t1, t2, hfd, hfl⟩, World.ownsRow_nil _ _ _ _, hB, Nat.le_refl _⟩
  have HLB : Hid (w.heap.size ≤ W2.heap.size ∧ w.heap.size + 2 < W2.heap.size) := ⟨hB.size, cell_lt t0⟩
  have HV : Hid (∀ V, Below w.heap.size w V → Ints V (.slice al ls.length cl) ls ∧ TriRd V (.slice ar (smallL n).length cr) (triesL n)) := fun V hV => ⟨hl.below hV, hr.below hV⟩
  have HNX : Hid (∀ (x y : Nat) frm out, WayInv n ls [(x0 : Int), (y0 : Int)] [(x : Int), (y : Int)] out frm → ∀ k, NextIs n [(x : Int), (y : Int)] frm k → nextTo (smallL n) [(x : Int), (y : Int)] frm (smallL n).length = (k : Int) ∧ out.length + 1 ≤ (smallL n).length) := fun x y frm out h k hk => ⟨next_is hn h hb hk, h.few hn hb (by omega) (by have := hk.1; omega) hk.2.1 hk.2.2⟩
  have HON : Hid (∀ (x y : Nat) frm out, WayInv n ls [(x0 : Int), (y0 : Int)] [(x : Int), (y : Int)] out frm → ∀ j k, NextIs n [(x : Int), (y : Int)] frm j → NextIs n [(x : Int), (y : Int)] frm k → j = k) := fun x y frm out h j k hj hk => next_one hn h hb hj hk
  have HTR : Hid (∀ k, k < (smallL n).length → ∃ a b c : Nat, (smallL n)[k]? = some [(a : Int), (b : Int), (c : Int)] ∧ (triesL n)[k]? = some ((a : Int), (b : Int), (c : Int)) ∧ rowA (smallL n) (k : Int) = [(a : Int), (b : Int), (c : Int)] ∧ TriOf (spotsL n) [(a : Int), (b : Int), (c : Int)] ∧ a < b ∧ b < c ∧ c < ls.length) := fun k hk => by
    obtain ⟨r, hr⟩ : ∃ r, (smallL n)[k]? = some r := ⟨_, List.getElem?_eq_getElem hk⟩
    have ht := smallL_of (List.mem_of_getElem? hr)
    have ht2 := ht
    obtain ⟨a, b, c, rfl, h1, h2, h3, -⟩ := ht
    exact ⟨a, b, c, hr, by unfold triesL; rw [List.getElem?_map, hr]; rfl, by unfold rowA; rw [Int.toNat_natCast, hr]; rfl, ht2, h1, h2, by omega⟩
  have HLAB := Hid.mk' hlab
  have hTf := smallL_few hn
  have hbe := fun (V : World) (s : T2) (left : T3) (hV : Below w.heap.size w V) => beyond_ s left (.slice al ls.length cl) _ _ _ (.slice ar (smallL n).length cr) V rfl (HV.out V hV).2 (by rw [show (triesL n).length = (smallL n).length from List.length_map _]; exact hTf)
  have hot := fun (V : World) (a b c : Nat) (s : T2) (hV : Below w.heap.size w V) (ha : a < ls.length) (hb : b < ls.length) (hc : c < ls.length) => other_ a b c s (.slice al ls.length cl) ar (smallL n).length cr V (HV.out V hV).1 ha hb hc hlab
  have HBE := Hid.mk' hbe
  have HOT := Hid.mk' hot
  obtain ⟨OUT, hO⟩ : ∃ OUT, thru (smallL n) ls ((smallL n).length + 1) [(x0 : Int), (y0 : Int)] (-1) [] = OUT := ⟨_, rfl⟩
  rw [hO] at HT0 ⊢
  obtain ⟨bs, hbs⟩ : ∃ bs, W2.heap.size = bs := ⟨_, rfl⟩
  rw [hbs] at HT0 HLB
  obtain ⟨L, hL⟩ : ∃ L, (smallL n).length = L := ⟨_, rfl⟩
  have HL := Hid.mk' hL
  obtain ⟨m, hm⟩ : ∃ m, ls.length = m := ⟨_, rfl⟩
  have HM := Hid.mk' hm
  rw [hL] at HT0 HV HW HBE HOT HNX HTR hTf ⊢
  rw [hm] at HT0 HV HW HBE HOT HTR ⊢
  clear hW2 g0 g1 s0 s1 t0 t1 t2 hfl hfd hB hl hr hls hlab hok hb hO hL hm hbs hbe hot
  go_enter Tryd.func34, Tryd.ntmps34
  go_upto_region 1 with fail
  go_wp2_with fail
  rw [HW.out]
  have e2 : w.heap.size + 2 = w.heap.size + 1 + 1 := rfl
  rw [e2] at HT0 HLB
  obtain ⟨db, hdb⟩ : ∃ b, w.heap.size + 1 = b := ⟨_, rfl⟩
  obtain ⟨lb, hlb⟩ : ∃ b, db + 1 = b := ⟨_, rfl⟩
  rw [hdb, hlb] at HT0 HLB ⊢
  have HD : Hid ((w.heap.size ≠ db ∧ lb ≠ db) ∧ (w.heap.size ≠ lb ∧ db ≠ lb) ∧ (w.heap.size < bs ∧ db < bs ∧ lb < bs) ∧ w.heap.size ≤ db ∧ w.heap.size ≤ lb) := by
    have := HLB.out
    refine ⟨⟨?_, ?_⟩, ⟨?_, ?_⟩, ⟨?_, ?_, ?_⟩, ?_, ?_⟩ <;> omega
  clear e2 hdb hlb HLB
  go_loopw [4] (fun po W => ∃ (vo : Value) (f x y : Nat) (frm : Int) (out : List Int), po = vo ∧ Hid (EntAt n ls [(x0 : Int), (y0 : Int)] OUT w bs w.heap.size db lb (.slice al m cl) (.slice ar L cr) f x y frm out vo W)) (fun po _ => L + 1 - lenS po)
  case atStart => exact ⟨_, _, _, _, _, _, rfl, HT0.out⟩
  case round =>
    obtain ⟨vo, f, x, y, frm, out, hvo, HR⟩ := hrel
    obtain ⟨ao, co, hv2⟩ := own_sl HR.out.own
    obtain ⟨K, hK⟩ : ∃ K, out.length = K := ⟨_, rfl⟩
    have HK : Hid (out.length = K) := hK
    rw [hK] at hv2
    have hKL := HR.out.few
    rw [HL.out, hK] at hKL
    subst hv2
    subst hvo
    clear hK
    obtain ⟨fu, hfu⟩ : ∃ fu, f = fu + 1 := ⟨f - 1, by have := HR.out.fuel; rw [HL.out, HK.out] at this; omega⟩
    subst hfu
    have hfr : frm = -1 ∨ (0 ≤ frm ∧ frm < ((smallL n).length : Int)) := by
      rcases HR.out.inv.frm with ⟨_, h⟩ | ⟨_, h⟩
      · exact .inl h
      · exact .inr (HR.out.inv.rng frm (List.mem_of_getElem? h))
    have HBN : Hid (∀ k, BeyAt (triesL n) (leftT n frm) (sN x y) k ↔ NextIs n [(x : Int), (y : Int)] frm k) := fun k => bey_next hn hfr HR.out.xy k
    have hbe := HBE.out wr ((x : Int), (y : Int)) (leftT n frm) HR.out.bl
    obtain ⟨h0, h1, d0, d1, l0, l1, l2, fd, fl⟩ := HR.out.mem
    dsimp only at d0 d1
    unfold aggS aggT at hbe
    dsimp only at hbe
    have HLT := Hid.mk' (rfl : leftT n frm = leftT n frm)
    clear fd fl hfr
    by_cases hx : ∃ k, NextIs n [(x : Int), (y : Int)] frm k
    · obtain ⟨k, hk⟩ := hx
      have hbk : Calls Tryd.prog 50 #[.agg #[.slice al m cl, .slice ar L cr], .agg #[.int .i64 (x : Int), .int .i64 (y : Int)], .agg #[.int .i64 (leftT n frm).1, .int .i64 (leftT n frm).2.1, .int .i64 (leftT n frm).2.2]] wr fun e w' => e = .returned (.tuple #[.int .i64 (k : Int), .bool true]) ∧ Below wr.heap.size wr w' := hbe.mono fun e w' h => by
        refine ⟨?_, h.2⟩
        rcases h.1 with ⟨k', h1, h2, -⟩ | ⟨-, h2⟩
        · rw [h1, HON.out x y frm out HR.out.inv k' k ((HBN.out k').1 h2) hk]
        · exact absurd ((HBN.out k).2 hk) (h2 k)
      obtain ⟨hnx, hfew⟩ := HNX.out x y frm out HR.out.inv k hk
      have hkL : k < L := by have := hk.1; rw [HL.out] at this; exact this
      obtain ⟨a, b, c, ht1, ht2, ht3, ht4, hab, hbc, hcm⟩ := HTR.out k hkL
      have HRC : Hid (∃ g, ar = some ⟨g, 0, none⟩ ∧ ∀ V, Below w.heap.size w V → V.cell? ⟨g, k * 3, none⟩ = some (.int .i64 (a : Int)) ∧ V.cell? ⟨g, k * 3 + 1, none⟩ = some (.int .i64 (b : Int)) ∧ V.cell? ⟨g, k * 3 + 2, none⟩ = some (.int .i64 (c : Int))) := by
        have hlen : (triesL n).length = L := by rw [show (triesL n).length = (smallL n).length from List.length_map _]; exact HL.out
        obtain ⟨a1, c1, ea, hx⟩ := (HV.out wr HR.out.bl).2
        obtain ⟨g, e1, -⟩ := hx (by rw [hlen]; omega)
        injection ea with ea1
        refine ⟨g, ea1.trans e1, fun V hV => ?_⟩
        obtain ⟨a2, c2, eb, hx2⟩ := (HV.out V hV).2
        obtain ⟨g2, e2, hc⟩ := hx2 (by rw [hlen]; omega)
        injection eb with eb1
        have : some (⟨g2, 0, none⟩ : Addr) = some ⟨g, 0, none⟩ := by rw [← e2, ← eb1, ea1, e1]
        injection this with this
        injection this with this
        subst this
        exact hc k _ ht2
      obtain ⟨g, hg, hrc⟩ := HRC.out
      subst hg
      have HRD := Hid.mk' hrc
      have hlab3 : ∀ j, j = a ∨ j = b ∨ j = c → 0 ≤ labA ls j ∧ labA ls j ≤ 2 := fun j hj => HLAB.out j (by rw [HM.out]; omega)
      have hdm : [(x : Int), (y : Int)] ∈ doorsL ls [(a : Int), (b : Int), (c : Int)] := (mem_doors ht4).2 ⟨HR.out.inv.ok, by rw [← ht3]; exact hk.2.1⟩
      have HOI := Hid.mk' (other_is hab hbc hlab3 hdm)
      have HFI : Hid (OUT = if otherTo (doorsL ls [(a : Int), (b : Int), (c : Int)]) [(x : Int), (y : Int)] (doorsL ls [(a : Int), (b : Int), (c : Int)]).length = [] then (out ++ [(k : Int)], true) else thru (smallL n) ls fu (otherTo (doorsL ls [(a : Int), (b : Int), (c : Int)]) [(x : Int), (y : Int)] (doorsL ls [(a : Int), (b : Int), (c : Int)]).length) (k : Int) (out ++ [(k : Int)])) := by
        have hf := HR.out.fin
        rw [thru, HL.out, hnx, if_neg (by omega), ht3] at hf
        exact hf.symm
      have HFW : Hid (K + 1 ≤ L ∧ fu + (K + 1) = L + 1) := ⟨by rw [← HK.out]; exact hfew, by have := HR.out.fuel; rw [HL.out, HK.out] at this; omega⟩
      have HNI := Hid.mk' hk
      have HT3 : Hid (rowA (smallL n) (k : Int) = [(a : Int), (b : Int), (c : Int)] ∧ leftT n (k : Int) = ((a : Int), (b : Int), (c : Int))) := ⟨ht3, by unfold leftT; rw [if_neg (by omega), ht3]; rfl⟩
      obtain ⟨⟨q0, q1, q2⟩, hq⟩ : ∃ q, leftT n frm = q := ⟨_, rfl⟩
      rw [hq] at hbk l0 l1 l2
      dsimp only at hbk l0 l1 l2
      have z8 : (0 : Int) ≤ (k : Int) := by omega
      have z9 : (k : Int) < (L : Int) := by omega
      clear hbe HLT hq HRC hrc hlab3 hdm ht1 ht2 ht3 ht4 hk hnx hfew
      go_upto_region 7 with (first
        | (go_at_call 50; refine hbk.mono ?_; rintro e V ⟨rfl, hV⟩; have HV1 : Hid (HouseAt w.heap.size db lb V (.slice al m cl) (.slice (some ⟨g, 0, none⟩) L cr) ((x : Int), (y : Int)) (leftT n frm) ∧ V.ownsRow bs 3 1 (.slice ao K co) K (out.map (Value.int .i64)) ∧ Below w.heap.size w V) := ⟨HR.out.mem.below hV, by have h8 := (World.ownsRow.kept HR.out.own (Below.grownBy hV) (by cases (Value.slice ao K co).ownBlock <;> simp)); rw [HK.out] at h8; exact h8, HR.out.bl.trans (hV.mono HR.out.bl.size)⟩; have hbV : bs ≤ V.heap.size := Nat.le_trans HR.out.bs hV.size; clear hV hbk h0 h1 d0 d1 l0 l1 l2)
        | (at_builtin; refine wpList_append_own_at _ rfl (.tmp 19) (.tmp 21) 22 rfl bs 3 j0 (.int .i64 0) 1 8 Tryd.underlying22 hj0 hy0 hy1 hy2 rfl (by decide) _ K _ rfl (HV1.out.2.1.alloc _) ⟨_, 0, none⟩ 1 1 [.int .i64 (k : Int)] rfl rfl (cells_new _ _ _) (by simp [Value.oneCell']) (by unfold maxLen; omega) (by omega) (by simp; omega) ?_; intro v5 w5 hown5 hg5 hn5 hl5; have H5 : Hid (HouseAt w.heap.size db lb w5 (.slice al m cl) (.slice (some ⟨g, 0, none⟩) L cr) ((x : Int), (y : Int)) (leftT n frm) ∧ w5.ownsRow bs 3 1 v5 (K + 1) (out.map (Value.int .i64) ++ [.int .i64 (k : Int)]) ∧ Below w.heap.size w w5 ∧ bs ≤ w5.heap.size) := ⟨(HV1.out.1.below ((Below.refl _ V).alloc (Nat.le_refl _) _)).grown hg5 (fun e => by have := (HV1.out.2.1.lt _ e.symm).1; have := HD.out.2.2.1; omega) (fun e => by have := (HV1.out.2.1.lt _ e.symm).1; have := HD.out.2.2.1; omega) (fun e => by have := (HV1.out.2.1.lt _ e.symm).1; have := HD.out.2.2.1; omega), hown5, (HV1.out.2.2.alloc HV1.out.2.2.size _).grown hg5 (by simp; have := HV1.out.2.2.size; omega) (fun b e => by have := (HV1.out.2.1.lt _ e).1; have := HD.out.2.2.1; omega), by have := hg5.size; rw [World.size_alloc] at this; omega⟩; obtain ⟨a5, c5, rfl⟩ := own_sl hown5; have h0 := H5.out.1.h0; have h1 := H5.out.1.h1; have l0 := H5.out.1.l0; have l1 := H5.out.1.l1; have l2 := H5.out.1.l2; have z0 := H5.out.1.fl 0; have z1 := H5.out.1.fl 1; have z2 := H5.out.1.fl 2; obtain ⟨r0, r1, r2⟩ := HRD.out w5 H5.out.2.2.1; clear hown5 hg5 hn5 hl5)
        | fail)
      obtain ⟨W6, hW6⟩ : ∃ W6, ((w5.setCell ⟨lb, 0, none⟩ (.int .i64 (a : Int))).setCell ⟨lb, 1, none⟩ (.int .i64 (b : Int))).setCell ⟨lb, 2, none⟩ (.int .i64 (c : Int)) = W6 := ⟨_, rfl⟩
      have H6 : Hid (HouseAt w.heap.size db lb W6 (.slice al m cl) (.slice (some ⟨g, 0, none⟩) L cr) ((x : Int), (y : Int)) ((a : Int), (b : Int), (c : Int)) ∧ W6.ownsRow bs 3 1 (.slice a5 (K + 1) c5) (K + 1) (out.map (Value.int .i64) ++ [.int .i64 (k : Int)]) ∧ Below w.heap.size w W6 ∧ bs ≤ W6.heap.size) := by
        have hne : ∀ bb, (Value.slice a5 (K + 1) c5).ownBlock = some bb → bb ≠ lb := fun bb e e2 => by have := (H5.out.2.1.lt _ e).1; have := HD.out.2.2.1; omega
        have hne' : (Value.slice a5 (K + 1) c5).ownBlock ≠ some lb := fun e => hne lb e rfl
        rw [← hW6]
        refine ⟨H5.out.1.setLeft HD.out.2.1.1 HD.out.2.1.2 ((a : Int), (b : Int), (c : Int)), ?_, ?_, ?_⟩
        · exact World.ownsRow.kept (World.ownsRow.kept (World.ownsRow.kept H5.out.2.1 (grown_cell w5 ⟨lb, 0, none⟩ _) (.inr hne')) (grown_cell _ ⟨lb, 1, none⟩ _) (.inr hne')) (grown_cell _ ⟨lb, 2, none⟩ _) (.inr hne')
        · exact ((H5.out.2.2.1.setCell (p := ⟨lb, 0, none⟩) HD.out.2.2.2.2 _).setCell (p := ⟨lb, 1, none⟩) HD.out.2.2.2.2 _).setCell (p := ⟨lb, 2, none⟩) HD.out.2.2.2.2 _
        · simpa using H5.out.2.2.2
      rw [hW6]
      have hcall := HOT.out W6 a b c ((x : Int), (y : Int)) H6.out.2.2.1 (by omega) (by omega) hcm
      unfold aggT aggS at hcall
      dsimp only at hcall
      obtain ⟨h0, h1, d0, d1, l0, l1, l2, -, -⟩ := H6.out.1
      dsimp only at d0 d1 l0 l1 l2
      clear hW6 H5 HV1 hbV r0 r1 r2 z0 z1 z2
      have HIN : Hid (∀ V u v, Below W6.heap.size W6 V → HouseAt w.heap.size db lb ((V.setCell ⟨db, 0, none⟩ (.int .i64 u)).setCell ⟨db, 1, none⟩ (.int .i64 v)) (.slice al m cl) (.slice (some ⟨g, 0, none⟩) L cr) (u, v) ((a : Int), (b : Int), (c : Int)) ∧ ((V.setCell ⟨db, 0, none⟩ (.int .i64 u)).setCell ⟨db, 1, none⟩ (.int .i64 v)).ownsRow bs 3 1 (.slice a5 (K + 1) c5) (K + 1) (out.map (Value.int .i64) ++ [.int .i64 (k : Int)]) ∧ Below w.heap.size w ((V.setCell ⟨db, 0, none⟩ (.int .i64 u)).setCell ⟨db, 1, none⟩ (.int .i64 v)) ∧ bs ≤ ((V.setCell ⟨db, 0, none⟩ (.int .i64 u)).setCell ⟨db, 1, none⟩ (.int .i64 v)).heap.size) := fun V u v hV => by
        have hne' : (Value.slice a5 (K + 1) c5).ownBlock ≠ some db := fun e => by have := (H6.out.2.1.lt _ e).1; have := HD.out.2.2.1; omega
        refine ⟨(H6.out.1.below hV).setDoor HD.out.1.1 HD.out.1.2 (u, v), ?_, ?_, ?_⟩
        · exact World.ownsRow.kept (World.ownsRow.kept (World.ownsRow.kept H6.out.2.1 (Below.grownBy hV) (by cases (Value.slice a5 (K + 1) c5).ownBlock <;> simp)) (grown_cell V ⟨db, 0, none⟩ _) (.inr hne')) (grown_cell _ ⟨db, 1, none⟩ _) (.inr hne')
        · exact ((H6.out.2.2.1.trans (hV.mono H6.out.2.2.1.size)).setCell (p := ⟨db, 0, none⟩) HD.out.2.2.2.1 _).setCell (p := ⟨db, 1, none⟩) HD.out.2.2.2.1 _
        · have := hV.size; have := H6.out.2.2.2; simp; omega
      have HFZ : Hid (∀ V, Below W6.heap.size W6 V → V.cell? ⟨db, 0, none⟩ = some (.int .i64 (x : Int)) ∧ V.cell? ⟨db, 1, none⟩ = some (.int .i64 (y : Int)) ∧ V.frozen? ⟨db, 0, none⟩ = false ∧ V.frozen? ⟨db, 1, none⟩ = false) := fun V hV => ⟨(H6.out.1.below hV).d0, (H6.out.1.below hV).d1, (H6.out.1.below hV).fd 0, (H6.out.1.below hV).fd 1⟩
      rcases HOI.out with ⟨ho1, ho2⟩ | ⟨u, v, ho1, ho2, huv, hmem, hneq⟩
      · have HO : Hid (OUT = (out ++ [(k : Int)], true)) := by
          have := HFI.out
          rw [if_pos ho1] at this
          exact this
        rw [show otherF ls a b c ((x : Int), (y : Int)) = ((0, 0), false) from ho2] at hcall
        dsimp only at hcall
        clear ho1 ho2 HOI HFI
        go_wp2_with (first
          | (go_at_call 51; refine hcall.mono ?_; rintro e V7 ⟨rfl, hV⟩; have H7 := Hid.mk' (HIN.out V7 0 0 hV); obtain ⟨k0, k1, k2, k3⟩ := HFZ.out V7 hV; clear hV hcall h0 h1 d0 d1 l0 l1 l2)
          | fail)
        go_ret2
        have hO := HO.out
        subst hO
        refine ⟨_, rfl, ?_, H7.out.2.2.1⟩
        have h8 := slice_of_owns (S := anyBlock) H7.out.2.1 (fun _ _ _ => trivial)
        have e8 : out.map (Value.int .i64) ++ [.int .i64 (k : Int)] = (out ++ [(k : Int)]).map (Value.int .i64) := by rw [List.map_append]; rfl
        rw [e8] at h8
        exact h8
      · have HO : Hid (OUT = thru (smallL n) ls fu [(u : Int), (v : Int)] (k : Int) (out ++ [(k : Int)])) := by
          have := HFI.out
          rw [ho1, if_neg (by simp)] at this
          exact this
        have HWI : Hid (WayInv n ls [(x0 : Int), (y0 : Int)] [(u : Int), (v : Int)] (out ++ [(k : Int)]) (k : Int)) := HR.out.inv.next hn z8 (by rw [HL.out]; exact z9) HNI.out.2.1 HNI.out.2.2 (by rw [HT3.out.1]; exact hmem) hneq
        rw [show otherF ls a b c ((x : Int), (y : Int)) = (((u : Int), (v : Int)), true) from ho2] at hcall
        dsimp only at hcall
        clear ho1 ho2 HOI HFI hmem hneq
        go_wp2_with (first
          | (go_at_call 51; refine hcall.mono ?_; rintro e V7 ⟨rfl, hV⟩; have H7 := Hid.mk' (HIN.out V7 (u : Int) (v : Int) hV); obtain ⟨k0, k1, k2, k3⟩ := HFZ.out V7 hV; clear hV hcall h0 h1 d0 d1 l0 l1 l2)
          | fail)
        go_roundw
        case rel =>
          have hl1 : (out ++ [(k : Int)]).length = K + 1 := by rw [List.length_append, HK.out]; rfl
          refine ⟨_, fu, u, v, (k : Int), out ++ [(k : Int)], rfl, HWI.out, HO.out.symm, ?_, ?_, huv, ?_, ?_, H7.out.2.2.1, H7.out.2.2.2⟩
          · rw [hl1, HL.out]; exact HFW.out.2
          · rw [hl1, HL.out]; exact HFW.out.1
          · rw [HT3.out.2]; exact H7.out.1
          · rw [hl1, List.map_append]; exact H7.out.2.1
        case measure =>
          simp [lenS]; omega
    · have hbk : Calls Tryd.prog 50 #[.agg #[.slice al m cl, .slice ar L cr], .agg #[.int .i64 (x : Int), .int .i64 (y : Int)], .agg #[.int .i64 (leftT n frm).1, .int .i64 (leftT n frm).2.1, .int .i64 (leftT n frm).2.2]] wr fun e w' => e = .returned (.tuple #[.int .i64 0, .bool false]) ∧ Below wr.heap.size wr w' := hbe.mono fun e w' h => by
        refine ⟨?_, h.2⟩
        rcases h.1 with ⟨k', h1, h2, -⟩ | ⟨h1, -⟩
        · exact absurd ⟨k', (HBN.out k').1 h2⟩ hx
        · exact h1
      have HO : Hid (OUT = (out, false)) := by
        have hf := HR.out.fin
        rw [thru, nextTo_none (m := (smallL n).length) (fun j hj hh => hx ⟨j, hj, hh.1, hh.2⟩), if_pos (by omega)] at hf
        exact hf.symm
      obtain ⟨⟨q0, q1, q2⟩, hq⟩ : ∃ q, leftT n frm = q := ⟨_, rfl⟩
      rw [hq] at hbk l0 l1 l2
      dsimp only at hbk l0 l1 l2
      clear hx hbe hq HLT
      go_wp2_with (first
        | (go_at_call 50; refine hbk.mono ?_; rintro e V ⟨rfl, hV⟩; have H9 : Hid (Ints V (.slice ao K co) out ∧ Below w.heap.size w V) := ⟨by have h8 := slice_of_owns (S := anyBlock) (World.ownsRow.kept HR.out.own (Below.grownBy hV) (by cases (Value.slice ao K co).ownBlock <;> simp)) (fun _ _ _ => trivial); exact h8, HR.out.bl.trans (hV.mono HR.out.bl.size)⟩; clear hV hbk)
        | fail)
      go_ret2
      have hO := HO.out
      subst hO
      exact ⟨_, rfl, H9.out⟩

end Go.Proofs.YtcciinaeplppiaaDoor
