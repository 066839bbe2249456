/-
  The program's parser: what is assigned, statements of one line.
-/
import Derived.Test.YtkldllnnocdhbaaGreatDoorBp10
namespace Go.Proofs.YtkldllnnocdhbaaGreatDoor
open Go.RowKit
attribute [local go_sem ↓] Go.wp_at_zero Go.wp_at_succ
namespace TP
open TR (Nd Byt nums_inj)
open TK (Tok)
theorem bd_get {r : Option Rs} {K : Fo → Nat → Option Rs} {R : Rs} (h : bd r K = some R) : ∃ R1, r = some R1 ∧ bd (some R1) K = some R := by
  cases r with
  | none => cases h
  | some R1 => exact ⟨R1, rfl, h⟩
theorem bd_ok {f : Fo} {i : Nat} {K : Fo → Nat → Option Rs} {R : Rs} (h : bd (some (.ok f i)) K = some R) : K f i = some R := h
theorem bd_bad {er pp : Int} {K : Fo → Nat → Option Rs} {R : Rs} (h : bd (some (.bad er pp)) K = some R) : Rs.bad er pp = R := Option.some.inj h
/- since W: the parser at j, the plant g with its kids so far -/
structure ST (W w : World) (b bt off n c ml ms j d g : Nat) (a : Nd) (sv : Value) (kv : List Value) (k : Fo) : Prop where
  o : Only b W w
  p : QS w b bt off n c ml ms j d
  nb : NB w W.heap.size g a sv kv k
  hb : b < W.heap.size
theorem ST.only {W w w' : World} {b bt off n c ml ms j d j' d' g : Nat} {a : Nd} {sv : Value} {kv : List Value} {k : Fo} (h : ST W w b bt off n c ml ms j d g a sv kv k) (o : Only b w w') (p : QS w' b bt off n c ml ms j' d') : ST W w' b bt off n c ml ms j' d' g a sv kv k := ⟨h.o.trans o, p, h.nb.only o h.hb, h.hb⟩
theorem ST.up {W w w' : World} {b bt off n c ml ms j d g : Nat} {a : Nd} {sv : Value} {kv : List Value} {k : Fo} (h : ST W w b bt off n c ml ms j d g a sv kv k) (u : Up w w') : ST W w' b bt off n c ml ms j d g a sv kv k := h.only (Only.up u) (h.p.up u)
theorem ST.made {W w : World} {b bt off n c ml ms j d g : Nat} {a : Nd} (o : Only b W w) (p : QS w b bt off n c ml ms j d) (hb : b < W.heap.size) (hg : W.heap.size ≤ g) (hc : w.heap[g]? = some (.cells (pcell a (.slice none 0 0)) 170 (0, 0))) : ST W w b bt off n c ml ms j d g a (.slice none 0 0) [] .nil := ⟨o, p, NB.made hc hg, hb⟩
theorem ST.set {W w : World} {b bt off n c ml ms j d g : Nat} {a : Nd} {sv : Value} {kv : List Value} {k : Fo} (h : ST W w b bt off n c ml ms j d g a sv kv k) (q : Nat) {a' : Nd} {x y : Value} (hx : (pcell a sv)[q]? = some y) (hc : (pcell a sv).setIfInBounds q x = pcell a' sv) : w.cell? ⟨g, q, none⟩ = some y ∧ w.frozen? ⟨g, q, none⟩ = false ∧ ST W (w.setCell ⟨g, q, none⟩ x) b bt off n c ml ms j d g a' sv kv k := by
  have hg := h.nb.glo
  have hb := h.hb
  refine ⟨?_, by simp [World.frozen?, h.nb.cell], only_exc (T := fun k => k = g) h.o ⟨⟨rfl, rfl, rfl⟩, by simp [World.setCell], fun k _ hk => by rw [Below.heap_setCell _ _ _ _ hk]⟩ (fun k hk => by subst hk; exact hg), ?_, h.nb.put q x hc, hb⟩
  · simp only [World.cell?, h.nb.cell]
    exact hx
  · have h9 := h.p
    unfold QS at h9 ⊢
    rw [Below.heap_setCell _ _ _ _ (show b ≠ g by omega)]
    exact h9
theorem ST.done {W w : World} {b bt off n c ml ms j d g : Nat} {a : Nd} {sv : Value} {kv : List Value} {k : Fo} (h : ST W w b bt off n c ml ms j d g a sv kv k) : PF w (Sn W.heap.size w) (.cons { a with kids := (cntF k : Int) } k .nil) [ptr g] := (h.nb.kids (cntF k : Int)).done
theorem ST.open_ {W w : World} {b bt off n c ml ms j d g : Nat} {a : Nd} {sv : Value} {kv : List Value} {k : Fo} (h : ST W w b bt off n c ml ms j d g a sv kv k) (d' : Nat) : ST W (w.setCell ⟨b, 2, none⟩ (.int .i64 (d' : Int))) b bt off n c ml ms j d' g a sv kv k := by
  refine ⟨h.o.set 2 _, h.p.op d', h.nb.keep (by simp [World.setCell]) (fun x o hx e => ?_), h.hb⟩
  have := h.hb
  rw [Below.heap_setCell _ _ _ _ (show x ≠ b by omega)]
  exact e
theorem ST.add1 {W w w2 : World} {b bt off n c ml ms j d j2 g gr : Nat} {a : Nd} {sv : Value} {kv : List Value} {k y : Fo} (h : ST W w b bt off n c ml ms j d g a sv kv k) (o : Only b w w2) (p : QS w2 b bt off n c ml ms j2 d) (hy : PF w2 (Sn w.heap.size w2) y [ptr gr]) (hn : kv.length ≤ 2000000) :
    Calls Tryz.prog 77 #[ptr g, .slice (some ⟨w2.heap.size, 0, none⟩) 1 1] (w2.alloc (.cells #[ptr gr] 91)) (fun r w' => r = .returned (.tuple #[]) ∧ ∃ sv', ST W w' b bt off n c ml ms j2 d g a sv' (kv ++ [ptr gr]) (k.app y)) := by
  have u5 : Up w2 (w2.alloc (.cells #[ptr gr] 91)) := (Up.refl _).alloc _
  have hsz : (w2.alloc (.cells #[ptr gr] 91)).heap.size = w2.heap.size + 1 := by simp
  have hnb : NB (w2.alloc (.cells #[ptr gr] 91)) W.heap.size g a sv kv k := (h.nb.only o h.hb).up u5
  have hg := h.nb.lt
  have s1 := h.o.2.1
  have s2 := o.2.1
  have HO : Only b W (w2.alloc (.cells #[ptr gr] 91)) := (h.o.trans o).trans (Only.up u5)
  have HP := p.up u5
  refine Calls.mono (add_ _ W.heap.size g a sv kv k hnb (by omega) [ptr gr] y (Sn w.heap.size w2) (PF.keep (fun _ _ _ e => u5.heap e) y _ hy) (by unfold Sn; omega) (fun k1 e => by have := (World.ownsRow.lt h.nb.row k1 e).2; unfold Sn; omega) (fun z hz => by unfold Sn at hz ⊢; omega) ⟨w2.heap.size, 0, none⟩ 1 (Nat.succ_pos _) (World.news_of_block (cs := #[ptr gr]) (heap_alloc_new w2 _)) (by intro u hu; simp only [List.mem_cons, List.not_mem_nil, or_false] at hu; subst hu; rfl) (by simp; omega)) ?_
  rintro r w' ⟨e1, ex, sv', nb'⟩
  refine ⟨e1, sv', only_exc HO ex (fun k hk => hnb.tg k hk), HP.exc ex (fun hk => ?_), nb', h.hb⟩
  have := hnb.tg b hk
  have := h.hb
  omega
theorem ST.add2 {W w w2 w3 : World} {b bt off n c ml ms j d j2 g g1 g2 : Nat} {a : Nd} {sv : Value} {kv : List Value} {k x y : Fo} (h : ST W w b bt off n c ml ms j d g a sv kv k) (o : Only b w w2) (o2 : Only b w2 w3) (p : QS w3 b bt off n c ml ms j2 d) (hx : PF w2 (Sn w.heap.size w2) x [ptr g1]) (hy : PF w3 (Sn w2.heap.size w3) y [ptr g2]) (hn : kv.length ≤ 2000000) :
    Calls Tryz.prog 77 #[ptr g, .slice (some ⟨w3.heap.size, 0, none⟩) 2 2] (w3.alloc (.cells #[ptr g1, ptr g2] 91)) (fun r w' => r = .returned (.tuple #[]) ∧ ∃ sv', ST W w' b bt off n c ml ms j2 d g a sv' (kv ++ [ptr g1, ptr g2]) (k.app (x.app y))) := by
  have u5 : Up w3 (w3.alloc (.cells #[ptr g1, ptr g2] 91)) := (Up.refl _).alloc _
  have hsz : (w3.alloc (.cells #[ptr g1, ptr g2] 91)).heap.size = w3.heap.size + 1 := by simp
  have hnb : NB (w3.alloc (.cells #[ptr g1, ptr g2] 91)) W.heap.size g a sv kv k := ((h.nb.only o h.hb).only o2 h.hb).up u5
  have hg := h.nb.lt
  have s1 := h.o.2.1
  have s2 := o.2.1
  have s3 := o2.2.1
  have hb := h.hb
  have HO : Only b W (w3.alloc (.cells #[ptr g1, ptr g2] 91)) := ((h.o.trans o).trans o2).trans (Only.up u5)
  have HP := p.up u5
  have hx3 : PF w3 (Sn w.heap.size w3) x [ptr g1] := PF.mono (fun z hz => ⟨hz.1, Nat.lt_of_lt_of_le hz.2 s3⟩) x _ (PF.keep (fun z o hz e => o2.heap e (by have := hz.1; omega)) x _ hx)
  have hy3 : PF w3 (Sn w.heap.size w3) y [ptr g2] := PF.mono (fun z hz => ⟨Nat.le_trans s2 hz.1, hz.2⟩) y _ hy
  refine Calls.mono (add_ _ W.heap.size g a sv kv k hnb (by omega) [ptr g1, ptr g2] (x.app y) (Sn w.heap.size w3) (PF.keep (fun _ _ _ e => u5.heap e) (x.app y) _ (PF.app x y _ _ hx3 hy3)) (by unfold Sn; omega) (fun k1 e => by have := (World.ownsRow.lt h.nb.row k1 e).2; unfold Sn; omega) (fun z hz => by unfold Sn at hz ⊢; omega) ⟨w3.heap.size, 0, none⟩ 2 (Nat.succ_pos _) (World.news_of_block (cs := #[ptr g1, ptr g2]) (heap_alloc_new w3 _)) (by intro u hu; simp only [List.mem_cons, List.not_mem_nil, or_false] at hu; rcases hu with rfl | rfl <;> rfl) (by simp; omega)) ?_
  rintro r w' ⟨e1, ex, sv', nb'⟩
  refine ⟨e1, sv', only_exc HO ex (fun k hk => hnb.tg k hk), HP.exc ex (fun hk => ?_), nb', h.hb⟩
  have := hnb.tg b hk
  have := h.hb
  omega
theorem ST.addL {W w w2 : World} {b bt off n c ml ms j d j2 g : Nat} {a : Nd} {lv : Value} {vs : List Value} {y : Fo} (h : ST W w b bt off n c ml ms j d g a (.slice none 0 0) [] .nil) (o : Only b w w2) (p : QS w2 b bt off n c ml ms j2 d) (hl : LB w2 w.heap.size lv vs y) (h0 : vs = [] → lv = .slice none 0 0) (hn : vs.length ≤ 2000000) :
    Calls Tryz.prog 77 #[ptr g, lv] w2 (fun r w' => r = .returned (.tuple #[]) ∧ ∃ sv', ST W w' b bt off n c ml ms j2 d g a sv' vs y) := by
  have hnb : NB w2 W.heap.size g a (.slice none 0 0) [] .nil := h.nb.only o h.hb
  have hg := h.nb.lt
  have s1 := h.o.2.1
  have s2 := o.2.1
  have HO : Only b W w2 := h.o.trans o
  have HP := p
  obtain ⟨S, q1, q2, q3⟩ := hl.pf
  by_cases hv : vs = []
  · have hlv := h0 hv
    subst hv hlv
    have hlen := PF.len y _ q1
    have hy0 : y = .nil := by
      cases y with
      | nil => rfl
      | cons a k r => simp [cntF] at hlen
    subst hy0
    refine Calls.mono (add0_ w2 W.heap.size g a (.slice none 0 0) [] .nil hnb) ?_
    rintro r w' ⟨e1, ex, nb'⟩
    refine ⟨e1, _, only_exc HO ex (fun k hk => hnb.tg k hk), HP.exc ex (fun hk => ?_), nb', h.hb⟩
    have := hnb.tg b hk
    have := h.hb
    omega
  · rcases hl.row.2 with ⟨-, hk0⟩ | ⟨g9, cap, cur, e9, -⟩
    · exact absurd (List.eq_nil_of_length_eq_zero hk0) hv
    · subst e9
      refine Calls.mono (add_ w2 W.heap.size g a (.slice none 0 0) [] .nil hnb (by omega) vs y S q1 (fun hS => by have := (q3 g hS).1; omega) (fun k1 e => by cases e) (fun z hz => ⟨Nat.le_trans s1 (q3 z hz).1, (q3 z hz).2⟩) ⟨g9, 0, none⟩ cap (List.length_pos_iff.2 hv) (hl.row.cells (g := g9) rfl) (PF.one y vs q1) (by simp; omega)) ?_
      rintro r w' ⟨e1, ex, sv', nb'⟩
      refine ⟨e1, sv', only_exc HO ex (fun k hk => hnb.tg k hk), HP.exc ex (fun hk => ?_), nb', h.hb⟩
      have := hnb.tg b hk
      have := h.hb
      omega
end TP
end Go.Proofs.YtkldllnnocdhbaaGreatDoor
namespace Go.Proofs.YtkldllnnocdhbaaGreatDoor
open Go.RowKit
attribute [local go_sem ↓] Go.wp_at_zero Go.wp_at_succ
namespace TP
open TR (Nd Byt nums_inj)
open TK (Tok)
theorem sl_nil (W : World) : SL W (.slice none 0 0) [] := ⟨none, 0, rfl, Nat.le_refl _, fun h => absurd h (Nat.lt_irrefl _)⟩
theorem frt_kind {t : Tok} (h : frt t = true) : t.kind ≠ 0 := by
  unfold frt at h
  rw [Bool.and_eq_true] at h
  have hk : t.kind = 1 := by simpa using h.1
  rw [hk]
  decide
theorem ok_lt {w0 : World} {b bt off n c : Nat} {l : List Tok} {N : Nat} {g : G} {j d q : Nat} {f : Fo} (hE : Ev w0 b bt off n c l) (hl : (tk l (l.length - 1)).kind = 0) (h : P l N g j d = some (.ok f q)) (hj : j < n) : q < n := by
  have h9 := (stays hl h (by have := hE.len; omega)).2.1
  have := hE.len
  omega
/- what is assigned is read, a plant being made -/
def QS1 (b bt off n c ml ms d g : Nat) (a : Nd) (R : Rs) (K : Fo → Nat → Option Rs) (W0 : World) (e : Ending) (w' : World) : Prop := Only b W0 w' ∧ ((∃ er pp, R = .bad er pp ∧ e = pnc er pp) ∨ ∃ sv kv x q, e = .returned (.tuple #[]) ∧ ST W0 w' b bt off n c ml ms q d g a sv kv x ∧ K x q = some R ∧ q < n)
set_option maxRecDepth 100000 in
set_option maxHeartbeats 16000000 in
theorem assigned_ (w0 W0 W : World) (b bt off n c ml ms i d g : Nat) (a : Nd) (l : List Tok) (hE : Ev w0 b bt off n c l) (ho0 : Only b w0 W0) (hi : i < n) (hd : d ≤ 64) (hl : (tk l (l.length - 1)).kind = 0) (N : Nat) (R : Rs) (K : Fo → Nat → Option Rs) (hS : ST W0 W b bt off n c ml ms i d g a (.slice none 0 0) [] .nil) (hF : Prt w0 b bt off n c ml ms l N 27 (.row 1)) (hR : (if mk (tk l i) [61] = true then bd (P l N (.row 1) (i + 1) d) (fun x q => if mk (tk l q) [59] = true then K x (q + 1) else bad (tk l q)) else bad (tk l i)) = some R) : Calls Tryz.prog 142 #[.pointer (some ⟨b, 0, none⟩), ptr g] W (QS1 b bt off n c ml ms d g a R K W0) := by
  obtain ⟨Post, hPost⟩ : ∃ P : Ending → World → Prop, P = QS1 b bt off n c ml ms d g a R K W0 := ⟨_, rfl⟩
  rw [← hPost]
  have HPo : Hid (Post = QS1 b bt off n c ml ms d g a R K W0) := hPost
  clear hPost
  have HE : Hid (Ev w0 b bt off n c l) := hE
  have HW : Hid (Only b w0 W0) := ho0
  have HLA : Hid ((tk l (l.length - 1)).kind = 0) := hl
  have HSW : Hid (ST W0 W b bt off n c ml ms i d g a (.slice none 0 0) [] .nil) := hS
  have hjW := hi
  have HEX : Hid (Prt w0 b bt off n c ml ms l N 27 (.row 1)) := hF
  clear hE ho0 hl hS hF
  go_enter Tryz.func142, Tryz.ntmps142
  have HC1 : Hid _ := takeMark_ w0 W b bt off n c ml ms i d l HE.out (HW.out.trans HSW.out.o) hjW HSW.out.p ⟨#[61]⟩ [61] (by unfold TR.Byt; decide) (congrArg ByteArray.toList (show (⟨#[61]⟩ : ByteArray) = strOfNums [61] from rfl))
  go_wp2_with fail
  refine Calls.mono HC1.out ?_
  rintro r9 w1 ⟨ow1, ⟨ht, rfl, pw1⟩ | ⟨ht, rfl⟩⟩
  · rw [if_pos ht] at hR
    have HSw1 : Hid (ST W0 w1 b bt off n c ml ms (i + 1) d g a (.slice none 0 0) [] .nil) := HSW.out.only ow1 pw1
    have hjw1 : (i + 1) < n := HE.out.next hjW (mk_kind ht)
    clear ow1 pw1 ht HSW hjW HC1
    obtain ⟨R2, h2, hb2⟩ := bd_get hR
    have HC2 : Hid _ := HEX.out (i + 1) d R2 w1 (HW.out.trans (HSw1.out.o)) (HSw1.out.p) hjw1 hd h2
    have HL2 : Hid (∀ f q, R2 = .ok f q → q < n) := fun f q e => ok_lt HE.out HLA.out (by rw [h2, e]) hjw1
    clear hR h2
    go_wp2_with fail
    refine Calls.mono HC2.out ?_
    intro r9 w2 hh
    obtain ⟨ow2, hh⟩ := hh
    clear HC2
    cases R2 with
    | bad er pp =>
      obtain rfl : r9 = pnc er pp := hh
      obtain rfl := bd_bad hb2
      have HO9 : Hid (Only b W0 w2) := (HSw1.out.o).trans ow2
      clear hb2 ow2
      unfold pnc at *
      go_wp2_with fail
      rw [HPo.out]
      exact ⟨rfl, HO9.out, .inl ⟨_, _, rfl, rfl⟩⟩
    | ok y2 q2 =>
      obtain ⟨gr2, rfl, hy2, pw2⟩ := hh
      have hR := bd_ok hb2
      try dsimp only at hR
      have hjw2 := HL2.out y2 q2 rfl
      have HO2 : Hid (Only b w1 w2) := ow2
      have HP2 : Hid (QS w2 b bt off n c ml ms q2 d) := pw2
      have HY2 : Hid (PF w2 (Sn w1.heap.size w2) y2 [ptr gr2]) := hy2
      clear hb2 HL2 ow2 pw2 hy2
      have HA3 : Hid _ := HSw1.out.add1 HO2.out HP2.out HY2.out (by simp)
      go_wp2_with fail
      refine Calls.mono HA3.out ?_
      rintro r9 w3 ⟨rfl, sv3, hs3⟩
      have HSw3 : Hid (ST W0 w3 b bt off n c ml ms q2 d g a sv3 ([] ++ [ptr gr2]) (Fo.app .nil y2)) := hs3
      have hjw3 := hjw2
      clear hs3 HA3 HO2 HP2 HY2 HSw1
      have HC4 : Hid _ := takeMark_ w0 w3 b bt off n c ml ms q2 d l HE.out (HW.out.trans HSw3.out.o) hjw3 HSw3.out.p ⟨#[59]⟩ [59] (by unfold TR.Byt; decide) (congrArg ByteArray.toList (show (⟨#[59]⟩ : ByteArray) = strOfNums [59] from rfl))
      go_wp2_with fail
      refine Calls.mono HC4.out ?_
      rintro r9 w4 ⟨ow4, ⟨ht, rfl, pw4⟩ | ⟨ht, rfl⟩⟩
      · rw [if_pos ht] at hR
        have HSw4 : Hid (ST W0 w4 b bt off n c ml ms (q2 + 1) d g a sv3 ([] ++ [ptr gr2]) (Fo.app .nil y2)) := HSw3.out.only ow4 pw4
        have hjw4 : (q2 + 1) < n := HE.out.next hjw3 (mk_kind ht)
        clear ow4 pw4 ht HSw3 hjw3 HC4
        go_wp2_with fail
        refine bodyPost_end (v := .tuple #[]) (by simp [results, Tryz.results142, go_sem]) rfl ?_
        rw [HPo.out]
        exact ⟨HSw4.out.o, .inr ⟨_, _, _, _, rfl, HSw4.out, hR, hjw4⟩⟩
      · rw [if_neg (by rw [ht]; decide)] at hR
        obtain rfl : Rs.bad 22 (tk l q2).pos = R := Option.some.inj hR
        have HO9 : Hid (Only b W0 w4) := HSw3.out.o.trans ow4
        clear hR ow4
        unfold pnc at *
        go_wp2_with fail
        rw [HPo.out]
        exact ⟨rfl, HO9.out, .inl ⟨_, _, rfl, rfl⟩⟩
  · rw [if_neg (by rw [ht]; decide)] at hR
    obtain rfl : Rs.bad 22 (tk l i).pos = R := Option.some.inj hR
    have HO9 : Hid (Only b W0 w1) := HSW.out.o.trans ow1
    clear hR ow1
    unfold pnc at *
    go_wp2_with fail
    rw [HPo.out]
    exact ⟨rfl, HO9.out, .inl ⟨_, _, rfl, rfl⟩⟩
set_option maxRecDepth 100000 in
set_option maxHeartbeats 16000000 in
theorem alone_ (w0 W : World) (b bt off n c ml ms i d : Nat) (l : List Tok) (hE : Ev w0 b bt off n c l) (ho : Only b w0 W) (hi : i < n) (hP : QS W b bt off n c ml ms i d) (R : Rs) (hl : (tk l (l.length - 1)).kind = 0) (hX : Ex l n) (hk0 : (tk l i).kind ≠ 0) (op : Int) (hR : (if mk (tk l (i + 1)) [59] = true then okr (nod op 0 [] (tk l i).pos .nil) (i + 2) else bad (tk l (i + 1))) = some R) : Calls Tryz.prog 146 #[.pointer (some ⟨b, 0, none⟩), .int .i8 op] W (QG b bt off n c ml ms d R W) := by
  obtain ⟨Post, hPost⟩ : ∃ P : Ending → World → Prop, P = QG b bt off n c ml ms d R W := ⟨_, rfl⟩
  rw [← hPost]
  have HPo : Hid (Post = QG b bt off n c ml ms d R W) := hPost
  clear hPost
  have HE : Hid (Ev w0 b bt off n c l) := hE
  have HXX : Hid (Ex l n) := hX
  have HW : Hid (Only b w0 W) := ho
  have HP : Hid (QS W b bt off n c ml ms i d) := hP
  have HLA : Hid ((tk l (l.length - 1)).kind = 0) := hl
  have HBL : Hid (b < W.heap.size) := hP.cells.2.2.2.2.2.2
  clear hE ho hP hl hX
  go_enter Tryz.func146, Tryz.ntmps146
  have HC5 : Hid _ := begin_ w0 W b bt off n c ml ms i d l HE.out HW.out hi HP.out op
  go_wp2_with fail
  refine Calls.mono HC5.out ?_
  rintro r9 w5 ⟨ow5, pw5, g, rfl, hgw5, hcw5⟩
  have HSw5 : Hid (ST W w5 b bt off n c ml ms (i + 1) d g (⟨op, 0, 0, 0, [], (tk l i).pos, 0⟩ : Nd) (.slice none 0 0) [] .nil) := ST.made ow5 pw5 HBL.out hgw5 hcw5
  have hjw5 : i + 1 < n := HE.out.next hi hk0
  clear ow5 pw5 hgw5 hcw5 HC5
  have HC6 : Hid _ := takeMark_ w0 w5 b bt off n c ml ms (i + 1) d l HE.out (HW.out.trans HSw5.out.o) hjw5 HSw5.out.p ⟨#[59]⟩ [59] (by unfold TR.Byt; decide) (congrArg ByteArray.toList (show (⟨#[59]⟩ : ByteArray) = strOfNums [59] from rfl))
  go_wp2_with fail
  refine Calls.mono HC6.out ?_
  rintro r9 w6 ⟨ow6, ⟨ht, rfl, pw6⟩ | ⟨ht, rfl⟩⟩
  · rw [if_pos ht] at hR
    have HSw6 : Hid (ST W w6 b bt off n c ml ms ((i + 1) + 1) d g (⟨op, 0, 0, 0, [], (tk l i).pos, 0⟩ : Nd) (.slice none 0 0) [] .nil) := HSw5.out.only ow6 pw6
    have hjw6 : ((i + 1) + 1) < n := HE.out.next hjw5 (mk_kind ht)
    clear ow6 pw6 ht HSw5 hjw5 HC6
    obtain rfl := Option.some.inj hR
    clear hR
    go_wp2_with fail
    rw [HPo.out]
    exact ⟨HSw6.out.o, g, rfl, HSw6.out.done, HSw6.out.p⟩
  · rw [if_neg (by rw [ht]; decide)] at hR
    obtain rfl : Rs.bad 22 (tk l (i + 1)).pos = R := Option.some.inj hR
    have HO9 : Hid (Only b W w6) := HSw5.out.o.trans ow6
    clear hR ow6
    unfold pnc at *
    go_wp2_with fail
    rw [HPo.out]
    exact ⟨rfl, HO9.out, rfl⟩
set_option maxRecDepth 100000 in
set_option maxHeartbeats 16000000 in
theorem pstop_ (w0 W : World) (b bt off n c ml ms i d : Nat) (l : List Tok) (hE : Ev w0 b bt off n c l) (ho : Only b w0 W) (hi : i < n) (hP : QS W b bt off n c ml ms i d) (R : Rs) (hl : (tk l (l.length - 1)).kind = 0) (hX : Ex l n) (hk0 : (tk l i).kind ≠ 0) (hR : (if mk (tk l (i + 1)) [59] = true then okr (nod 17 0 [] (tk l i).pos .nil) (i + 2) else bad (tk l (i + 1))) = some R) : Calls Tryz.prog 100 #[.pointer (some ⟨b, 0, none⟩)] W (QG b bt off n c ml ms d R W) := by
  obtain ⟨Post, hPost⟩ : ∃ P : Ending → World → Prop, P = QG b bt off n c ml ms d R W := ⟨_, rfl⟩
  rw [← hPost]
  have HPo : Hid (Post = QG b bt off n c ml ms d R W) := hPost
  clear hPost
  have HC : Hid _ := alone_ w0 W b bt off n c ml ms i d l hE ho hi hP R hl hX hk0 17 hR
  clear hE ho hP hl hX hR
  go_enter Tryz.func100, Tryz.ntmps100
  go_wp2_with fail
  refine Calls.mono HC.out ?_
  intro r9 w1 h
  obtain ⟨ow1, h⟩ := h
  have HOw1 : Hid (Only b W w1) := ow1
  clear ow1
  cases R with
  | bad er pp =>
    obtain rfl : r9 = pnc er pp := h
    unfold pnc at *
    go_wp2_with fail
    rw [HPo.out]
    exact ⟨rfl, HOw1.out, rfl⟩
  | ok y j =>
    obtain ⟨g, rfl, hy, p9⟩ := h
    have hy9 : PF w1 (Sn W.heap.size w1) y [ptr g] := hy
    have HR9 : Hid _ := And.intro hy9 p9
    clear hy p9 hy9
    go_wp2_with fail
    rw [HPo.out]
    exact ⟨HOw1.out, g, rfl, HR9.out.1, HR9.out.2⟩
set_option maxRecDepth 100000 in
set_option maxHeartbeats 16000000 in
theorem pabort_ (w0 W : World) (b bt off n c ml ms i d : Nat) (l : List Tok) (hE : Ev w0 b bt off n c l) (ho : Only b w0 W) (hi : i < n) (hP : QS W b bt off n c ml ms i d) (R : Rs) (hl : (tk l (l.length - 1)).kind = 0) (hX : Ex l n) (hk0 : (tk l i).kind ≠ 0) (hR : (if mk (tk l (i + 1)) [59] = true then okr (nod 18 0 [] (tk l i).pos .nil) (i + 2) else bad (tk l (i + 1))) = some R) : Calls Tryz.prog 101 #[.pointer (some ⟨b, 0, none⟩)] W (QG b bt off n c ml ms d R W) := by
  obtain ⟨Post, hPost⟩ : ∃ P : Ending → World → Prop, P = QG b bt off n c ml ms d R W := ⟨_, rfl⟩
  rw [← hPost]
  have HPo : Hid (Post = QG b bt off n c ml ms d R W) := hPost
  clear hPost
  have HC : Hid _ := alone_ w0 W b bt off n c ml ms i d l hE ho hi hP R hl hX hk0 18 hR
  clear hE ho hP hl hX hR
  go_enter Tryz.func101, Tryz.ntmps101
  go_wp2_with fail
  refine Calls.mono HC.out ?_
  intro r9 w1 h
  obtain ⟨ow1, h⟩ := h
  have HOw1 : Hid (Only b W w1) := ow1
  clear ow1
  cases R with
  | bad er pp =>
    obtain rfl : r9 = pnc er pp := h
    unfold pnc at *
    go_wp2_with fail
    rw [HPo.out]
    exact ⟨rfl, HOw1.out, rfl⟩
  | ok y j =>
    obtain ⟨g, rfl, hy, p9⟩ := h
    have hy9 : PF w1 (Sn W.heap.size w1) y [ptr g] := hy
    have HR9 : Hid _ := And.intro hy9 p9
    clear hy p9 hy9
    go_wp2_with fail
    rw [HPo.out]
    exact ⟨HOw1.out, g, rfl, HR9.out.1, HR9.out.2⟩
set_option maxRecDepth 100000 in
set_option maxHeartbeats 16000000 in
theorem plet_ (w0 W : World) (b bt off n c ml ms i d : Nat) (l : List Tok) (hE : Ev w0 b bt off n c l) (ho : Only b w0 W) (hi : i < n) (hP : QS W b bt off n c ml ms i d) (hd : d ≤ 64) (N : Nat) (R : Rs) (hl : (tk l (l.length - 1)).kind = 0) (hX : Ex l n) (hk0 : (tk l i).kind ≠ 0) (hF : Prt w0 b bt off n c ml ms l N 27 (.row 1)) (hR : (if frt (tk l (i + 1)) = true then (if mk (tk l (i + 2)) [61] = true then bd (P l N (.row 1) (i + 3) d) (fun x j => if mk (tk l j) [59] = true then okr (nod 11 0 (tk l (i + 1)).text (tk l i).pos x) (j + 1) else bad (tk l j)) else bad (tk l (i + 2))) else bad (tk l (i + 1))) = some R) : Calls Tryz.prog 95 #[.pointer (some ⟨b, 0, none⟩)] W (QG b bt off n c ml ms d R W) := by
  obtain ⟨Post, hPost⟩ : ∃ P : Ending → World → Prop, P = QG b bt off n c ml ms d R W := ⟨_, rfl⟩
  rw [← hPost]
  have HPo : Hid (Post = QG b bt off n c ml ms d R W) := hPost
  clear hPost
  have HE : Hid (Ev w0 b bt off n c l) := hE
  have HXX : Hid (Ex l n) := hX
  have HW : Hid (Only b w0 W) := ho
  have HP : Hid (QS W b bt off n c ml ms i d) := hP
  have HLA : Hid ((tk l (l.length - 1)).kind = 0) := hl
  have HBL : Hid (b < W.heap.size) := hP.cells.2.2.2.2.2.2
  have HEX : Hid (Prt w0 b bt off n c ml ms l N 27 (.row 1)) := hF
  clear hE ho hP hl hX hF
  go_enter Tryz.func95, Tryz.ntmps95
  have HC7 : Hid _ := begin_ w0 W b bt off n c ml ms i d l HE.out HW.out hi HP.out 11
  go_wp2_with fail
  refine Calls.mono HC7.out ?_
  rintro r9 w7 ⟨ow7, pw7, g, rfl, hgw7, hcw7⟩
  have HSw7 : Hid (ST W w7 b bt off n c ml ms (i + 1) d g (⟨11, 0, 0, 0, [], (tk l i).pos, 0⟩ : Nd) (.slice none 0 0) [] .nil) := ST.made ow7 pw7 HBL.out hgw7 hcw7
  have hjw7 : i + 1 < n := HE.out.next hi hk0
  clear ow7 pw7 hgw7 hcw7 HC7
  have HC8 : Hid _ := takeFree_ w0 w7 b bt off n c ml ms (i + 1) d l HE.out (HW.out.trans HSw7.out.o) hjw7 HSw7.out.p HXX.out (.slice none 0 0) [] (fun W2 _ => sl_nil W2) (fun _ h => by cases h) (by decide)
  go_wp2_with fail
  refine Calls.mono HC8.out ?_
  rintro r9 w8 ⟨ow8, ⟨ht, rfl, pw8⟩ | ⟨ht, rfl⟩⟩
  · have ht : frt (tk l (i + 1)) = true := by simpa using ht
    rw [if_pos ht] at hR
    have HSw8 : Hid (ST W w8 b bt off n c ml ms ((i + 1) + 1) d g (⟨11, 0, 0, 0, [], (tk l i).pos, 0⟩ : Nd) (.slice none 0 0) [] .nil) := HSw7.out.only ow8 pw8
    have hjw8 : ((i + 1) + 1) < n := HE.out.next hjw7 (frt_kind ht)
    clear ow8 pw8 ht HSw7 hjw7 HC8
    obtain ⟨c9, f9, hs9⟩ := HSw8.out.set 4 (a' := (⟨11, 0, 0, 0, (tk l (i + 1)).text, (tk l i).pos, 0⟩ : Nd)) (x := .string (strOfNums (tk l (i + 1)).text)) (y := .string ⟨#[]⟩) (by first | rfl | (unfold pcell; rfl)) (by first | rfl | (unfold pcell; rfl))
    obtain ⟨V9, hV9⟩ : ∃ V, w8.setCell ⟨g, 4, none⟩ (.string (strOfNums (tk l (i + 1)).text)) = V := ⟨_, rfl⟩
    rw [hV9] at hs9
    have HSV9 : Hid (ST W V9 b bt off n c ml ms ((i + 1) + 1) d g (⟨11, 0, 0, 0, (tk l (i + 1)).text, (tk l i).pos, 0⟩ : Nd) (.slice none 0 0) [] .nil) := hs9
    have hjV9 := hjw8
    clear hs9 HSw8
    have HC10 : Hid _ := assigned_ w0 W V9 b bt off n c ml ms ((i + 1) + 1) d g (⟨11, 0, 0, 0, (tk l (i + 1)).text, (tk l i).pos, 0⟩ : Nd) l HE.out HW.out hjV9 hd HLA.out N R (fun x q => okr (nod 11 0 (tk l (i + 1)).text (tk l i).pos x) q) HSV9.out HEX.out hR
    clear hR
    go_wp2_with fail
    try rw [hV9]
    clear hV9
    refine Calls.mono HC10.out ?_
    intro r9 w10 hh
    obtain ⟨ow10, hh⟩ := hh
    have HO9 : Hid (Only b W w10) := ow10
    clear ow10 HC10 HSV9 hjV9
    rcases hh with ⟨er, pp, rfl, rfl⟩ | ⟨sv9, kv9, x9, q9, rfl, hs9, hk9, -⟩
    · unfold pnc at *
      go_wp2_with fail
      rw [HPo.out]
      exact ⟨rfl, HO9.out, rfl⟩
    · obtain rfl := Option.some.inj hk9
      have HS9 : Hid _ := hs9
      clear hs9 hk9
      go_wp2_with fail
      rw [HPo.out]
      exact ⟨HO9.out, g, rfl, HS9.out.done, HS9.out.p⟩
  · have ht : frt (tk l (i + 1)) = false := by simpa using ht
    rw [if_neg (by rw [ht]; decide)] at hR
    obtain rfl : Rs.bad 22 (tk l (i + 1)).pos = R := Option.some.inj hR
    have HO9 : Hid (Only b W w8) := HSw7.out.o.trans ow8
    clear hR ow8
    unfold pnc at *
    go_wp2_with fail
    rw [HPo.out]
    exact ⟨rfl, HO9.out, rfl⟩
end TP
end Go.Proofs.YtkldllnnocdhbaaGreatDoor
