/- The statement on maps answers true of whatever sets and images, and leaves them alone. -/
import Derived.Test.YthmjdfjchhohgaaGreatDoorIdxMLawB0
import Derived.Test.YthmjdfjchhohgaaGreatDoorIdxMLawB1
import Derived.Test.YthmjdfjchhohgaaGreatDoorIdxMLawC0
import Derived.Test.YthmjdfjchhohgaaGreatDoorIdxMLawC1
import Derived.Test.YthmjdfjchhohgaaGreatDoorIdxMLef
import Derived.Test.YthmjdfjchhohgaaGreatDoorIdxWind
import Derived.Test.YthmjdfjchhohgaaGreatDoorClosed
import Derived.Test.YthmjdfjchhohgaaGreatDoorRefJoin
import Derived.Test.YthmjdfjchhohgaaGreatDoorMade
import Derived.Test.YthmjdfjchhohgaaGreatDoorRefC
namespace Go.Proofs.YthmjdfjchhohgaaGreatDoor
open Go.RowKit Go.Sort Go.Lib

set_option maxRecDepth 100000 in
theorem mp_early {s1 s2 : Prop} (a1 a2 a3 : Option Addr) (n1 c1 n2 c2 m c3 : Nat) (w : World) (hno : ¬ (s1 ∧ s2 ∧ (m : Int) ≤ 200))
    (hwh : Calls Tryz.prog 5 #[] w fun e w' => e = .returned (.bool true) ∧ Below w.heap.size w w')
    (hl1 : ∀ V, Below w.heap.size w V → Calls Tryz.prog 6 #[.slice a1 n1 c1, .int .i64 60] V fun e w' => ∃ q : Bool, e = .returned (.bool q) ∧ Below V.heap.size V w' ∧ (q = true → s1))
    (hl2 : ∀ V, Below w.heap.size w V → Calls Tryz.prog 6 #[.slice a2 n2 c2, .int .i64 60] V fun e w' => ∃ q : Bool, e = .returned (.bool q) ∧ Below V.heap.size V w' ∧ (q = true → s2)) :
    Calls Tryz.prog 4 #[.slice a1 n1 c1, .slice a2 n2 c2, .slice a3 m c3] w fun e w' => e = .returned (.bool true) ∧ Below w.heap.size w w' := by
  go_enter Tryz.func4, Tryz.ntmps4
  go_wp2_with fail
  refine hwh.mono ?_
  rintro e w1 ⟨rfl, hV⟩
  have HB1 := Hid.mk' hV
  clear hwh hV
  have h1 := hl1 w1 HB1.out
  go_wp2_with fail
  refine h1.mono ?_
  clear h1 hl1
  rintro e w2 ⟨qa, rfl, hV, hq1⟩
  have HB2 : Hid (Below w.heap.size w w2) := HB1.out.trans (hV.mono HB1.out.size)
  have HQ1 := Hid.mk' hq1
  clear hV HB1 hq1
  have h1 := hl2 w2 HB2.out
  go_wp2_with fail
  refine h1.mono ?_
  clear h1 hl2
  rintro e w3 ⟨qb, rfl, hV, hq2⟩
  have HB3 : Hid (Below w.heap.size w w3) := HB2.out.trans (hV.mono HB2.out.size)
  have HQ2 := Hid.mk' hq2
  clear hV HB2 hq2
  cases qa
  · go_wp2_with fail
    go_ret
    exact ⟨rfl, HB3.out⟩
  cases qb
  · go_wp2_with fail
    go_ret
    exact ⟨rfl, HB3.out⟩
  have hm : 200 < (m : Int) := by
    have h1 := HQ1.out rfl
    have h2 := HQ2.out rfl
    by_cases h3 : (m : Int) ≤ 200
    · exact absurd ⟨h1, h2, h3⟩ hno
    · omega
  clear hno HQ1 HQ2
  go_wp2_with fail
  go_ret
  exact ⟨rfl, HB3.out⟩

theorem ev_faulted {a : Nat → Addr} {s : Nat → ByteArray} (V : World) (ve : Value) (c d : Int) (hE : Errs a s V) (h : EvIs a V ve c d) :
    Calls Tryz.prog 18 #[ve, .agg #[.int .i64 c, .int .i64 d]] V fun e w' => e = .returned (.bool true) ∧ Below V.heap.size V w' := by
  rcases h with ⟨hc, i, hi, hci, ⟨rfl, rfl⟩ | hf⟩ | ⟨rfl, rfl⟩
  · exact faulted_es V hE hi hci
  · rw [← hci]
    exact faulted_at V hE hf hi
  · exact faulted_nil d V
theorem closed_in {l all : List (List Int)} (vl : Value) (w : World) (hl : Rows w vl l) (hll : l.length ≤ 100000) (hle : ∀ x ∈ l, x.length ≤ 1000) (hg : Good l all) :
    Calls Tryz.prog 16 #[vl] w fun e w' => ∃ v, e = .returned (.tuple #[v, .int .i64 0]) ∧ RowsIn (fun b => w.heap.size ≤ b) w' v all ∧ Below w.heap.size w w' := by
  refine (closed_ vl l w hl hll hle).mono ?_
  rintro e w' ⟨hB, ⟨hno, rfl⟩ | ⟨hok, hov, rfl⟩ | ⟨hok, hov, v, all', rfl, hr0, hal, h6⟩⟩
  · exact absurd hg.ok hno
  · exact absurd hov hg.few
  · rw [all_one hal hg.isAll] at hr0
    exact ⟨v, rfl, hr0, hB⟩

set_option maxRecDepth 100000 in
set_option maxHeartbeats 2000000 in
theorem maps_law {a : Nat → Addr} {s : Nat → ByteArray} (va vb vf : Value) (la lb : List (List Int)) (f : List Int) (w : World) (hE : Errs a s w) (ha : Rows w va la) (hb : Rows w vb lb) (hf : Ints w vf f) :
    Calls Tryz.prog 4 #[va, vb, vf] w fun e w' => e = .returned (.bool true) ∧ Below w.heap.size w w' := by
  have hwh := wheel_ w
  have hli1 : ∀ V, Below w.heap.size w V → Calls Tryz.prog 6 #[va, .int .i64 60] V fun e w' => ∃ q : Bool, e = .returned (.bool q) ∧ Below V.heap.size V w' ∧ (q = true → la.length ≤ 40 ∧ ∀ x ∈ la, x.length ≤ 12) := fun V hV => little_ closed_ va la 60 V (ha.below hV)
  have hli2 : ∀ V, Below w.heap.size w V → Calls Tryz.prog 6 #[vb, .int .i64 60] V fun e w' => ∃ q : Bool, e = .returned (.bool q) ∧ Below V.heap.size V w' ∧ (q = true → lb.length ≤ 40 ∧ ∀ x ∈ lb, x.length ≤ 12) := fun V hV => little_ closed_ vb lb 60 V (hb.below hV)
  have ha0 := ha
  have hb0 := hb
  have hf0 := hf
  obtain ⟨a1, c1, rfl, -, -⟩ := ha.open_
  obtain ⟨a2, c2, rfl, -, -⟩ := hb.open_
  obtain ⟨a3, c3, rfl, -, -⟩ := hf.open_
  by_cases hsm : (la.length ≤ 40 ∧ ∀ x ∈ la, x.length ≤ 12) ∧ (lb.length ≤ 40 ∧ ∀ x ∈ lb, x.length ≤ 12) ∧ (f.length : Int) ≤ 200
  case neg => exact mp_early a1 a2 a3 la.length c1 lb.length c2 f.length c3 w hsm hwh hli1 hli2
  obtain ⟨⟨hs1, hs2⟩, ⟨ht1, ht2⟩, h200⟩ := hsm
  have hla : la.length ≤ 100000 := by omega
  have hlb : lb.length ≤ 100000 := by omega
  have hxa : ∀ x ∈ la, x.length ≤ 1000 := fun x hx => by have := hs2 x hx; omega
  have hxb : ∀ x ∈ lb, x.length ≤ 1000 := fun x hx => by have := ht2 x hx; omega
  have hfl : f.length ≤ 1000 := by omega
  have hl1 : ∀ V, Below w.heap.size w V → Calls Tryz.prog 6 #[.slice a1 la.length c1, .int .i64 60] V fun e w' => (∃ q : Bool, e = .returned (.bool q)) ∧ Below V.heap.size V w' := fun V hV => (hli1 V hV).mono fun e w' ⟨q, h1, h2, _⟩ => ⟨⟨q, h1⟩, h2⟩
  have hl2 : ∀ V, Below w.heap.size w V → Calls Tryz.prog 6 #[.slice a2 lb.length c2, .int .i64 60] V fun e w' => (∃ q : Bool, e = .returned (.bool q)) ∧ Below V.heap.size V w' := fun V hV => (hli2 V hV).mono fun e w' ⟨q, h1, h2, _⟩ => ⟨⟨q, h1⟩, h2⟩
  have hcx1 : ∀ V, Below w.heap.size w V → Calls Tryz.prog 9 #[.slice a1 la.length c1] V fun e w' => (∃ v, e = .returned (.agg #[v]) ∧ Rows w' v la) ∧ Below V.heap.size V w' := fun V hV => (cx_ _ la V (ha0.below hV) hla hxa).mono fun e w' ⟨v, h1, h2, h3⟩ => ⟨⟨v, h1, h2⟩, h3⟩
  have hcx2 : ∀ V, Below w.heap.size w V → Calls Tryz.prog 9 #[.slice a2 lb.length c2] V fun e w' => (∃ v, e = .returned (.agg #[v]) ∧ Rows w' v lb) ∧ Below V.heap.size V w' := fun V hV => (cx_ _ lb V (hb0.below hV) hlb hxb).mono fun e w' ⟨v, h1, h2, h3⟩ => ⟨⟨v, h1, h2⟩, h3⟩
  have hin : ∀ V, Below w.heap.size w V → Calls Tryz.prog 10 #[.slice a3 f.length c3] V fun e w' => (∃ u, e = .returned u ∧ Ints w' u f) ∧ Below V.heap.size V w' := fun V hV => ints5_ _ f V (hf0.below hV) hfl
  have hfa : ∀ V ve c d, Below w.heap.size w V → EvIs a V ve c d → Calls Tryz.prog 18 #[ve, .agg #[.int .i64 c, .int .i64 d]] V fun e w' => e = .returned (.bool true) ∧ Below V.heap.size V w' := fun V ve c d hV h => ev_faulted V ve c d (hE.below hV) h
  have hck : ∀ {c d : Int} {F : Nat → Int} {L : List (List Int)}, (∀ V ua ub uf, Below w.heap.size w V → Rows V ua la → Rows V ub lb → Ints V uf f → Calls Tryz.prog 45 #[.agg #[ua], .agg #[ub], uf] V fun e w' => OpenEnd a c d F L V e w') →
      ∀ V ua ub uf, Below w.heap.size w V → Rows V ua la → Rows V ub lb → Ints V uf f → Calls Tryz.prog 19 #[.agg #[ua], .agg #[ub], uf] V fun e w' => Below V.heap.size V w' ∧ ∃ ve, e = .returned ve ∧ EvIs a w' ve c d := fun h V ua ub uf hV h1 h2 h3 =>
    check_end ua ub uf V fun W hW => h W ua ub uf (hV.trans (hW.mono hV.size)) (h1.below hW) (h2.below hW) (h3.below hW)
  have hlfE : ∀ {c d : Int} {F : Nat → Int} {L : List (List Int)}, 0 < c → (∀ V ua uf, Below w.heap.size w V → Rows V ua la → Ints V uf f → Calls Tryz.prog 45 #[.agg #[ua], .agg #[ua], uf] V fun e w' => OpenEnd a c d F L V e w') →
      ∀ V ua uf, Below w.heap.size w V → Rows V ua la → Ints V uf f → Calls Tryz.prog 20 #[.agg #[ua], uf] V fun e w' => Below V.heap.size V w' ∧ ∃ ve, e = .returned (.tuple #[.int .i64 0, ve]) ∧ EvIs a w' ve c d := fun hc h V ua uf hV h1 h3 =>
    (lef_err ua uf V hc fun W hW => h W ua uf (hV.trans (hW.mono hV.size)) (h1.below hW) (h3.below hW)).mono fun e w' ⟨h1, ve, h2, h3⟩ => ⟨h1, ve, h2, .inl ⟨hc, h3⟩⟩
  have hfxE : ∀ {c d : Int} {F : Nat → Int} {L : List (List Int)}, 0 < c → (∀ V ua uf, Below w.heap.size w V → Rows V ua la → Ints V uf f → Calls Tryz.prog 45 #[.agg #[ua], .agg #[ua], uf] V fun e w' => OpenEnd a c d F L V e w') →
      ∀ V ua uf, Below w.heap.size w V → Rows V ua la → Ints V uf f → Calls Tryz.prog 21 #[.agg #[ua], uf] V fun e w' => Below V.heap.size V w' ∧ ∃ ve, e = .returned (.tuple #[.slice none 0 0, ve]) ∧ EvIs a w' ve c d := fun hc h V ua uf hV h1 h3 =>
    (fixed_err ua uf V hc fun W hW => h W ua uf (hV.trans (hW.mono hV.size)) (h1.below hW) (h3.below hW)).mono fun e w' ⟨h1, ve, h2, h3⟩ => ⟨h1, ve, h2, .inl ⟨hc, h3⟩⟩
  have hec : ∀ V, Below w.heap.size w V → Calls Tryz.prog 15 #[.slice a1 la.length c1] V fun e w' => ErrorG la V e w' := fun V hV => error_g closed_ _ la V (ha0.below hV) hla hxa
  have hecb : ∀ V, Below w.heap.size w V → Calls Tryz.prog 15 #[.slice a2 lb.length c2] V fun e w' => ErrorG lb V e w' := fun V hV => error_g closed_ _ lb V (hb0.below hV) hlb hxb
  rcases ix_bad_or_good la with ⟨i, hbd⟩ | ⟨p, hg⟩
  · have hop : ∀ V ua ub uf, Below w.heap.size w V → Rows V ua la → Calls Tryz.prog 45 #[.agg #[ua], .agg #[ub], uf] V fun e w' => OpenEnd a ((i : Int) + 1) (-1) (fun _ => 0) [] V e w' := fun V ua ub uf hV h1 => open_bad1 ua ub uf V (hE.below hV) h1 hla hxa hbd _ _
    exact mp_bad (la := la) (lb := lb) (f := f) (cA := (i : Int) + 1) a1 a2 a3 la.length c1 lb.length c2 f.length c3 w h200 (by omega) hwh hl1 hl2
      (fun V hV => (hec V hV).mono fun e w' h => by
        rcases h.2 with ⟨j, hj, he⟩ | ⟨all, hg, _⟩
        · obtain rfl := bad_one hbd hj
          exact ⟨he, h.1⟩
        · exact (bad_good hbd hg).elim)
      hcx1 hcx2 hin hfa (hck fun V ua ub uf hV h1 _ _ => hop V ua ub uf hV h1)
      (hlfE (by omega) fun V ua uf hV h1 _ => hop V ua ua uf hV h1) (hfxE (by omega) fun V ua uf hV h1 _ => hop V ua ua uf hV h1)
  have hec0 : ∀ V, Below w.heap.size w V → Calls Tryz.prog 15 #[.slice a1 la.length c1] V fun e w' => e = .returned (.int .i64 0) ∧ Below V.heap.size V w' := fun V hV => (hec V hV).mono fun e w' h => by
    rcases h.2 with ⟨j, hj, he⟩ | ⟨_, _, he⟩
    · exact (bad_good hj hg).elim
    · exact ⟨he, h.1⟩
  have hcl1 : ∀ V, Below w.heap.size w V → Calls Tryz.prog 16 #[.slice a1 la.length c1] V fun e w' => (∃ u, e = .returned (.tuple #[u, .int .i64 0]) ∧ RowsIn (fun b => V.heap.size ≤ b) w' u p) ∧ Below V.heap.size V w' := fun V hV => (closed_in _ V (ha0.below hV) hla hxa hg).mono fun e w' ⟨u, h1, h2, h3⟩ => ⟨⟨u, h1, h2⟩, h3⟩
  obtain ⟨cW, dW, hW⟩ := mapErr_some f p p
  have hmo : ∀ V u, Below w.heap.size w V → Rows V u p → Calls Tryz.prog 17 #[u, u, .slice a3 f.length c3] V fun e w' => e = .returned (.agg #[.int .i64 cW, .int .i64 dW]) ∧ Below V.heap.size V w' := fun V u hV hu => fault_of u u _ V hg hu hu hg.length hg.short (hf0.below hV) hfl hW
  have hopW : ∀ V ua uf, Below w.heap.size w V → Rows V ua la → Ints V uf f → Calls Tryz.prog 45 #[.agg #[ua], .agg #[ua], uf] V fun e w' => OpenEnd a cW dW (fun k => hiF (vertI p) f (k : Int)) (numL p) V e w' := fun V ua uf hV h1 h3 => open_end ua ua uf V (hE.below hV) h1 hla hxa hg h1 hla hxa hg h3 hfl hW
  have hnd : (vertI p).Nodup := rising_nodup (vertI_rising hg.isAll.order)
  have hgood : ∀ (hW0 : cW = 0), f.length = (vertI p).length := fun h => by subst h; exact hW.len
  -- what is fixed
  obtain ⟨X, hX⟩ : ∃ X, (numL p).filter (fixB (hiF (vertI p) f)) = X := ⟨_, rfl⟩
  have hfil : (numL p).filter (fixB fun v => hiF (vertI p) f ((v.toNat : Nat) : Int)) = X := by
    rw [← hX]
    exact List.filter_congr fun x hx => fix_hgt hg f hx
  have hX7 : ∀ x ∈ X, x ≠ [] ∧ x.length ≤ 7 ∧ (∀ v ∈ x, 0 ≤ v ∧ v ≤ 99) ∧ Rising x ∧ ∀ u ∈ x, u ∈ vertI p := fun x hx => by
    rw [← hX] at hx
    exact good_numIn hg x (List.mem_filter.1 hx).1
  have hXl : X.length ≤ 600 := by
    rw [← hX]
    exact Nat.le_trans (List.length_filter_le _ _) (good_numLen hg)
  obtain ⟨N, hN⟩ : ∃ N, lefL (hiF (vertI p) f) X = N := ⟨_, rfl⟩
  have hNX : N = 0 ∨ 0 < X.length := by
    rcases Nat.eq_zero_or_pos X.length with h | h
    · have : X = [] := List.length_eq_zero_iff.1 h
      rw [← hN, this]; exact .inl rfl
    · exact .inr h
  have hlefN : lefP (fun v => hiF (vertI p) f ((v.toNat : Nat) : Int)) (numL p) = N := by
    rw [lefP_filter, hfil, ← hN]
    unfold lefL
    rw [← hX]
    refine congrArg List.sum (List.map_congr_left fun x hx => ?_)
    unfold lefF
    rw [show x.map (fun v => hiF (vertI p) f ((v.toNat : Nat) : Int)) = x.map (hiF (vertI p) f) from map_hgt hg f (List.mem_filter.1 hx).1]
  have hlf0 : cW = 0 → ∀ V ua uf, Below w.heap.size w V → Rows V ua la → Ints V uf f → Calls Tryz.prog 20 #[.agg #[ua], uf] V fun e w' => Below V.heap.size V w' ∧ e = .returned (.tuple #[.int .i64 N, .nilIface]) := fun h V ua uf hV h1 h3 => by
    subst h
    have := lef_good (a := a) (p := dW) (F := fun k => hiF (vertI p) f (k : Int)) (L := numL p) ua uf V (by have := good_numLen hg; omega) (fun x hx => by obtain ⟨k1, k2, k3, k4, -⟩ := good_numIn hg x hx; exact ⟨k1, k2, k3, k4⟩) fun W hW => hopW W ua uf (hV.trans (hW.mono hV.size)) (h1.below hW) (h3.below hW)
    rw [hlefN] at this
    exact this
  have hfx0 : cW = 0 → ∀ V ua uf, Below w.heap.size w V → Rows V ua la → Ints V uf f → Calls Tryz.prog 21 #[.agg #[ua], uf] V fun e w' => Below V.heap.size V w' ∧ ∃ v, e = .returned (.tuple #[v, .nilIface]) ∧ Rows w' v X := fun h V ua uf hV h1 h3 => by
    subst h
    have := fixed_good (a := a) (p := dW) (F := fun k => hiF (vertI p) f (k : Int)) (L := numL p) ua uf V (by have := good_numLen hg; omega) (fun x hx => by obtain ⟨k1, k2, k3, k4, -⟩ := good_numIn hg x hx; exact ⟨k1, k2, k3, k4⟩) fun W hW => hopW W ua uf (hV.trans (hW.mono hV.size)) (h1.below hW) (h3.below hW)
    rw [hfil] at this
    exact this
  have hfo0 : cW = 0 → ∀ V u, Below w.heap.size w V → Rows V u p → Calls Tryz.prog 23 #[u, .slice a3 f.length c3] V fun e w' => (∃ v, e = .returned v ∧ Rows w' v X) ∧ Below V.heap.size V w' := fun h V u hV hu =>
    (fixed_of u _ p f V hu hg.length hg.short (order_nodup hg.isAll.order) (fun x hx => hg.rising x hx) (fun x hx u hu => vertI_mem.2 (hg.sub hx (List.singleton_sublist.2 hu) (by simp))) (hf0.below hV) hfl (hgood h) hnd (good_numLen hg)).mono fun e w' ⟨v, h1, h2, h3⟩ => ⟨⟨v, h1, by rw [hX] at h2; exact h2⟩, h3⟩
  have hlo0 : cW = 0 → ∀ V u, Below w.heap.size w V → Rows V u p → Calls Tryz.prog 24 #[u, .slice a3 f.length c3] V fun e w' => e = .returned (.int .i64 N) ∧ Below V.heap.size V w' := fun h V u hV hu => by
    have := lefschetz_of (ht := hiF (vertI p) f) (L := X) u (.slice a3 f.length c3) V hXl (fun x hx => ⟨(hX7 x hx).2.1, (hX7 x hx).1⟩)
      ((hfo0 h V u hV hu).mono fun e w' ⟨⟨v, h1, h2⟩, h3⟩ => ⟨v, h1, h2, h3⟩)
      (fun W vx x hB hx hix => (image_of u _ vx p f x W (hu.below hB) hg.length ((hf0.below hV).below hB) hfl hix (hX7 x hx).2.1 (hgood h) hnd (hX7 x hx).2.2.2.2).mono fun e w' ⟨v, h1, h2, h3⟩ => ⟨v, h1, h2.mono fun _ _ _ => trivial, h3⟩)
    rw [hN] at this
    exact this
  have hsl : ∀ V u v, Below w.heap.size w V → Rows V u X → Rows V v X → Calls Tryz.prog 22 #[u, v] V fun e w' => e = .returned (.bool true) ∧ Below V.heap.size V w' := fun V u v hV h1 h2 => (same_lists u v X X V h1 h2 (by omega) (fun x hx => by have := (hX7 x hx).2.1; omega)).mono fun e w' ⟨h1, q, h2⟩ => ⟨by rw [h1, decide_eq_true rfl], by rw [h2]; exact below_drewN V q⟩
  have hcW : 0 ≤ cW := hW.zero
  rcases ix_bad_or_good lb with ⟨i, hbd⟩ | ⟨q, hgq⟩
  · have hecB : ∀ V, Below w.heap.size w V → Calls Tryz.prog 15 #[.slice a2 lb.length c2] V fun e w' => e = .returned (.int .i64 ((i : Int) + 1)) ∧ Below V.heap.size V w' := fun V hV => (hecb V hV).mono fun e w' h => by
      rcases h.2 with ⟨j, hj, he⟩ | ⟨all, hg, _⟩
      · obtain rfl := bad_one hbd hj
        exact ⟨he, h.1⟩
      · exact (bad_good hbd hg).elim
    have hckB := hck (c := (i : Int) + 1) (d := -1) (F := fun _ => 0) (L := []) fun V ua ub uf hV h1 h2 _ => open_bad2 ua ub uf V (hE.below hV) h1 hla hxa hg h2 hlb hxb hbd _ _
    by_cases hc0 : cW = 0
    · subst hc0
      exact mp_b0 (la := la) (lb := lb) (p := p) (X := X) (f := f) (N := N) (cB := (i : Int) + 1) (dW := dW) a1 a2 a3 la.length c1 lb.length c2 f.length c3 w h200 (by omega) hwh hl1 hl2 hec0 hcx1 hcx2 hin hfa hckB hcl1 hmo hecB (hlf0 rfl) (hfx0 rfl) (hfo0 rfl) hsl (hlo0 rfl) hNX
    · exact mp_b1 (la := la) (lb := lb) (p := p) (f := f) (cB := (i : Int) + 1) (cW := cW) (dW := dW) a1 a2 a3 la.length c1 lb.length c2 f.length c3 w h200 (by omega) (by omega) hwh hl1 hl2 hec0 hcx1 hcx2 hin hfa hckB hcl1 hmo hecB (hlfE (by omega) hopW) (hfxE (by omega) hopW)
  · have hecB : ∀ V, Below w.heap.size w V → Calls Tryz.prog 15 #[.slice a2 lb.length c2] V fun e w' => e = .returned (.int .i64 0) ∧ Below V.heap.size V w' := fun V hV => (hecb V hV).mono fun e w' h => by
      rcases h.2 with ⟨j, hj, he⟩ | ⟨_, _, he⟩
      · exact (bad_good hj hgq).elim
      · exact ⟨he, h.1⟩
    obtain ⟨cO, dO, hO⟩ := mapErr_some f p q
    have hcl2 : ∀ V, Below w.heap.size w V → Calls Tryz.prog 16 #[.slice a2 lb.length c2] V fun e w' => (∃ u, e = .returned (.tuple #[u, .int .i64 0]) ∧ Rows w' u q) ∧ Below V.heap.size V w' := fun V hV => (closed_g closed_ _ lb q V (hb0.below hV) hlb hxb hgq).mono fun e w' ⟨u, h1, h2, h3⟩ => ⟨⟨u, h1, h2⟩, h3⟩
    have hmf : ∀ V u v, Below w.heap.size w V → Rows V u p → Rows V v q → Calls Tryz.prog 17 #[u, v, .slice a3 f.length c3] V fun e w' => e = .returned (.agg #[.int .i64 cO, .int .i64 dO]) ∧ Below V.heap.size V w' := fun V u v hV hu hv => fault_of u v _ V hg hu hv hgq.length hgq.short (hf0.below hV) hfl hO
    have hckC := hck fun V ua ub uf hV h1 h2 h3 => open_end ua ub uf V (hE.below hV) h1 hla hxa hg h2 hlb hxb hgq h3 hfl hO
    by_cases hc0 : cW = 0
    · subst hc0
      exact mp_c0 (la := la) (lb := lb) (p := p) (q := q) (X := X) (f := f) (N := N) (cO := cO) (dO := dO) (dW := dW) a1 a2 a3 la.length c1 lb.length c2 f.length c3 w h200 hwh hl1 hl2 hec0 hcx1 hcx2 hin hfa hckC hcl1 hmo hecB hcl2 hmf (hlf0 rfl) (hfx0 rfl) (hfo0 rfl) hsl (hlo0 rfl) hNX
    · exact mp_c1 (la := la) (lb := lb) (p := p) (q := q) (f := f) (cO := cO) (dO := dO) (cW := cW) (dW := dW) a1 a2 a3 la.length c1 lb.length c2 f.length c3 w h200 (by omega) hwh hl1 hl2 hec0 hcx1 hcx2 hin hfa hckC hcl1 hmo hecB hcl2 hmf (hlfE (by omega) hopW) (hfxE (by omega) hopW)

end Go.Proofs.YthmjdfjchhohgaaGreatDoor
