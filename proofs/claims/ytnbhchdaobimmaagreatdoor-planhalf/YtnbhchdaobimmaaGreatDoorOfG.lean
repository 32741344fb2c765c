/- Several texts in one: ImageAwake, ImageLen, ImageTree, ImageTreeOf. -/
import Derived.Test.YtnbhchdaobimmaaGreatDoorImgG
import Derived.Test.YtnbhchdaobimmaaGreatDoorRunAI
import Derived.Test.YtnbhchdaobimmaaGreatDoorRunAT
import Derived.Test.YtnbhchdaobimmaaGreatDoorOfE
import Derived.Test.YtnbhchdaobimmaaGreatDoorOfB
/- Contract: the law's own look whether an image answers. -/
namespace Go.Img
open Go.RowKit Go.Opn
open Go.Mov hiding fold
theorem now_name {n : Nat} {T : Ths} {o : Ob} {x : Th} (h : Mov.now n T o = some x) : x.name = o.name ∨ ∃ y ∈ T, x.name = y.name := by
 unfold Mov.now at h
 split at h
 ·split at h
  ·cases h; exact .inl rfl
  ·cases h
 ·split at h
  ·split at h
   ·rename_i y hy
    split at h
    ·cases h; exact .inl rfl
    ·cases h
   ·cases h
  ·split at h
   ·split at h
    ·rename_i y hy
     cases h
     exact .inr ⟨y, (look_mem hy).1, rfl⟩
    ·cases h
   ·split at h
    ·split at h
     ·rename_i y hy
      split at h
      ·cases h
       exact .inr ⟨y, (look_mem hy).1, rfl⟩
      ·cases h
     ·cases h
    ·cases h
theorem names_made {T : Ths} (hr : Rises T) {K : Nat} (hT : ∀ x ∈ T, x.name.size ≤ K) {o : Ob} (ho : o.name.size ≤ K) : ∀ x ∈ Mov.made T o, x.name.size ≤ K := by
 unfold Mov.made
 split
 ·rename_i x hx
  intro z hz
  rcases (mem_put hr).1 hz with rfl | ⟨hz, _⟩
  ·rcases now_name hx with e | ⟨y, hy, e⟩
   ·rw [e]; exact ho
   ·rw [e]; exact hT y hy
  ·exact hT z hz
 ·exact hT
theorem names_ths {K : Nat} : ∀ (l : List En) {T : Ths}, Fine T → (∀ x ∈ T, x.name.size ≤ K) → (∀ e ∈ l, e.Fits ∧ e.op.name.size ≤ K) → ∀ x ∈ ths T l, x.name.size ≤ K
 | [], _, _, hT, _ => hT
 | e :: r, T, h, hT, hl => names_ths r (h.made (hl e (by simp)).1.1) (names_made h.rises hT (hl e (by simp)).2) fun x hx => hl x (by simp [hx])
def twoE (i : Int) : En := ⟨⟨1, ⟨i, 0⟩, 16 * i, 0, ⟨#[97]⟩, false, ⟨#[]⟩, 0⟩, ⟨#[]⟩⟩
def twoT : Ths := ths [] (addsU [twoE 1, twoE 2]).1
end Go.Img
namespace Go.Proofs.YtnbhchdaobimmaaGreatDoor
open Go.RowKit Go.Img Go.Shelf Go.Rws Go.MapInt Go.Opn
open Go.Mov hiding fold
attribute [local go_sem] Oper.semAt_some
end Go.Proofs.YtnbhchdaobimmaaGreatDoor
/- How long an image is; the document's way to it, step by step; no program text is named here. -/
namespace Go.Img
open Go.RowKit
open Go.Mov hiding fold
theorem gather_all {T : Ths} (h : Fine T) : ∃ l, Gw T l.length l ∧ Cl T l.length l := by
 suffices H : ∀ n i l, Gw T i l → Cl T i l → T.length ≤ n + i → ∃ l', Gw T l'.length l' ∧ Cl T l'.length l' from H T.length 0 (start T) (Gw.start h) (Cl.start T) (Nat.le_refl _)
 intro n
 induction n with
 | zero =>
  intro i l g c hn
  have h1 := g.len
  have h2 := g.le
  obtain rfl : i = l.length := by omega
  exact ⟨l, g, c⟩
 | succ n ih =>
  intro i l g c hn
  by_cases e : i = l.length
  ·subst e
   exact ⟨l, g, c⟩
  ·have h2 := g.le
   obtain ⟨f, hf⟩ : ∃ f, l[i]? = some f := ⟨_, List.getElem?_eq_getElem (by omega)⟩
   exact ih (i + 1) _ (g.next h hf) (c.next hf) (by omega)
/-- An image has no more files than the tree has things. -/
theorem img_len {T : Ths} (h : Fine T) (hd : Dirs T) (hl : T.length ≤ 900) : (img T).length ≤ T.length := by
 obtain ⟨l, g, c⟩ := gather_all h
 have hm : ∀ y, y ∈ img T ↔ y ∈ l := fun y => (doc_met h hd hl 240 0 [] (by simp) (by simp) y).trans c.all.symm
 have hp := (List.perm_ext_iff_of_nodup (img_nodup h hl) (nodup_of g.once)).2 hm
 rw [hp.length_eq]
 exact g.len
/-- One file of a folder is put in, with what stands below it. -/
def putF (T : Ths) (n : Nat) (out : List Fi) (y : Fi) : List Fi := if y.dir then (docOf T n y.id y.path).foldl insF (insF out y) else insF out y
/-- The document's list behind the first files of a folder. -/
def upTo (T : Ths) (n : Nat) (f : List UInt8) (xs : Ths) (i : Nat) : List Fi := (((xs.zip (Names.asg (xs.map nameOf))).take i).filterMap fun p => fileAt p.1 (join f p.2)).foldl (putF T n) []
def Short (l : List Fi) : Prop := ∀ y ∈ l, y.path.length ≤ 238
end Go.Img
/- Contract: the law's tree of operations that may be, and the document's things. -/
theorem Go.old_alloc_ImageTree (w : Go.World) (o : Go.Obj) (i : Nat) (h : i < w.heap.size) : (w.alloc o).heap[i]? = w.heap[i]? := by first | exact Go.heap_alloc_old w o i h | exact Go.heap_alloc_old w o h
namespace Go.Mov
open Go.RowKit Go.Rws Go.Opn
/-- An operation that the law keeps. -/
def Kept (e : En) : Prop := e.Fits ∧ Okay e.op ∧ e.op.name.size ≤ 1000000
theorem name_few {o : Ob} (h : o.chk = 0) : o.name.size ≤ 1000000 := by
 have h2 := (Ob.chk_zero h).2
 unfold Ob.Good Ob.good at h2
 simp only [Bool.and_eq_true] at h2
 obtain ⟨⟨_, h2⟩, h3⟩ := h2
 have h4 := (Ob.eqb_iff _ _).1 h3
 unfold Ob.fits at h2
 by_cases e1 : o.kind = 1
 ·rw [if_pos e1] at h2
  simp [Ob.place] at h2
  omega
 ·rw [if_neg e1] at h2
  by_cases e2 : o.kind = 2
  ·rw [if_pos e2] at h2
   simp [Ob.place] at h2
   omega
  ·have : o.name = ⟨#[]⟩ := by
    rw [h4]
    unfold Ob.own
    rw [if_neg e1, if_neg e2]
    split <;> rfl
   rw [this]
   decide
theorem kept_of {e : Le} (h : e.Fits) (hc : e.op.chk = 0) : Kept e.en := ⟨⟨h, by show (1 : Nat) ≤ _; decide⟩, okay_of hc, name_few hc⟩
theorem addU_each {P : En → Prop} {p : List En × Int} {e : En} (h : ∀ x ∈ p.1, P x) (he : P e) : ∀ x ∈ (addU p e).1, P x := by
 intro x hx
 unfold addU addE at hx
 dsimp only at hx
 split at hx
 ·exact h x hx
 ·rcases mem_ins.1 hx with rfl | hx
  ·exact he
  ·exact h x hx
theorem addsU_each {P : En → Prop} (l : List En) (h : ∀ x ∈ l, P x) : ∀ x ∈ (addsU l).1, P x := by
 suffices H : ∀ (l : List En) (p : List En × Int), (∀ x ∈ p.1, P x) → (∀ x ∈ l, P x) → ∀ x ∈ (l.foldl addU p).1, P x from H l _ (fun x hx => by cases hx) h
 intro l
 induction l with
 | nil => intro p hp _; exact hp
 | cons e r ih => intro p hp hl; exact ih _ (addU_each hp (hl e (by simp))) fun x hx => hl x (by simp [hx])
end Go.Mov
namespace Go.Proofs.YtnbhchdaobimmaaGreatDoor
open Go.RowKit Go.Opn Go.Stamp Go.MapInt Go.Mov Go.Shelf Go.Rws
attribute [local go_sem] Oper.semAt_some
set_option maxRecDepth 100000 in
theorem infoOp9i : (Tryz.prog.info? 61).map (·.size) = some 9 := by kernel_rfl
/-- The tree, with operations l', and the document's list of them, l. -/
structure Ta (W : World) (b : Nat) (mv : Value) (l l' : List En) (u : Int) (v : World) : Prop where
 m : RowsAt En.cs 10 v mv l
 mn : Nice mv
 t : Tw W b (fun x => mv.ownBlock = some x) l' u v
variable {W v v' : World} {b : Nat} {mv ov : Value} {l l' : List En} {u : Int}
theorem Ta.step (h : Ta W b mv l l' u v) (k : Below v.heap.size v v') : Ta W b mv l l' u v' := ⟨h.m.below k, h.mn, h.t.below k⟩
theorem Ta.put (h : Ta W b mv l l' u v) (r : Ra v mv ov l' v') : Ta W b ov l' l' u v' :=
 ⟨r.row, r.nice, h.t.turn r.k fun x hx => by
  rcases r.spot x hx with e | e
  ·exact .inl e
  ·exact .inr e⟩
set_option maxRecDepth 100000 in
/-- An operation is added; one block that came behind, q, is not the tree's. -/
theorem Ta.add {e : En} (h : Ta W b mv l l u v) (k : Below v.heap.size v v') (q : Nat) (h1 : v.heap.size ≤ q) (h2 : q < v'.heap.size) (he : e.Fits) (hl : l.length ≤ 90000) (hu : 0 ≤ u ∧ u ≤ 1000000000000) :
  Calls Tryz.prog 21 #[.pointer (some ⟨b, 0, none⟩), e.v] v' fun r w' => r = .returned (.bool (!known l e)) ∧ Ta W b mv l (addE l e) (u + backs l e) w' ∧ w'.heap[q]? = v'.heap[q]? := by
 refine (addTw_any e (h.t.more k q h1 h2) he hl hu).mono ?_
 rintro r w' ⟨rfl, t1, t2, hsz⟩
 exact ⟨rfl, ⟨(h.m.below k).kept hsz fun g hg => t2 g (.inl hg), h.mn, t1.less fun x hx => .inl hx⟩, t2 q (.inr rfl)⟩
/-- What the law's Tree gives: a tree in block b, and a row of the things. -/
structure Tg (W : World) (b : Nat) (tv : Value) (l : List En) (u : Int) (v : World) : Prop where
 t : Tw W b (fun _ => False) l u v
 row : RowsAt Th.cs 6 v tv (ths [] l)
 nice : Nice tv
 each : ∀ e ∈ l, Kept e
 few : l.length ≤ 60
set_option maxHeartbeats 8000000 in
set_option maxRecDepth 100000 in
theorem tree15_any (es : List Le) (v : Value) (w : World) (hR : RowsAt Le.cs 10 w v es) (hf : ∀ e ∈ es, e.Fits) :
  Calls Tryz.prog 7 #[v] w fun r w' => ∃ b tv l u, r = .returned (.tuple #[.pointer (some ⟨b, 0, none⟩), tv]) ∧ Tg w b tv l u w' := by
 obtain ⟨la, lc, rfl⟩ := hR.form
 have HR := hide hR
 have HF := hide hf
 have HN := hide (newTw_any w)
 have HC := hide (fun (o : Ob) (h : 0 ≤ o.tm.c) v => rcheckOp_any o h v)
 have HO := hide (fun (o : Ob) v => refOp_any o v)
 clear hR hf
 go_enter Tryz.func7, Tryz.ntmps7
 go_upto_region 2 with (go_at_call 18; refine HN.out.mono ?_; rintro r w1 ⟨b, rfl, h2⟩; have I1 := hide h2; clear h2 HN)
 have HB : Hid ((∀ e ∈ ([] : List En), Kept e) ∧ Ta w b (.slice (some ⟨w1.heap.size, 0, none⟩) (addsU []).1.length 0) (addsU []).1 (addsU []).1 (addsU []).2 (w1.alloc (.cells #[] 72))) := by
  have k4 := (Below.refl _ w1).alloc (Nat.le_refl _) (.cells #[] 72)
  refine ⟨fun e he => (by cases he), .inl ⟨⟨_, _, rfl⟩, rfl⟩, .inr ⟨w1.heap.size, 0, 0, 0, rfl, Nat.le_refl _⟩, ?_⟩
  exact I1.out.turn k4 fun x hx => by cases hx; exact .inr ⟨Nat.le_refl _, by simp⟩
 clear I1
 go_wp2_with fail
 go_loopw [5, 6] (fun v5 v6 wr => ∃ (i : Nat) (xs : List En) (a : Option Addr) (c : Nat), v6 = .int .i64 i ∧ v5 = .slice a (addsU xs).1.length c ∧ i ≤ es.length ∧ i ≤ 60 ∧ xs.length ≤ i ∧ Hid ((∀ e ∈ xs, Kept e) ∧ Ta w b (.slice a (addsU xs).1.length c) (addsU xs).1 (addsU xs).1 (addsU xs).2 wr)) (fun v5 v6 _ => es.length - (intOf v6).toNat)
 case atStart => exact ⟨0, [], _, _, rfl, rfl, Nat.zero_le _, by decide, Nat.le_refl _, HB.out⟩
 case round =>
  obtain ⟨i, xs, ma, mc, rfl, rfl, hi, hi60, hxs, HI⟩ := hrel
  clear HB
  have hbd := addsU_bound xs
  by_cases hgo : i < es.length ∧ i < 60
  ·obtain ⟨hil, h60⟩ := hgo
   obtain ⟨x, hx⟩ : ∃ x, es[i]? = some x := ⟨_, List.getElem?_eq_getElem hil⟩
   obtain ⟨g, off, hla, _, hlc, hgl, hrg⟩ := HR.out.at (fun e => by rw [e] at hx; cases hx)
   subst hla
   have hxf := HF.out x (List.mem_of_getElem? hx)
   have HX := hide (And.intro hxf (And.intro hgl (hrg i x hx)))
   have h0 : (0 : Int) ≤ i := by omega
   have hiI : (i : Int) < es.length := by omega
   have hiJ : (i : Int) < 60 := by omega
   have hcI : (es.length : Int) ≤ lc := by omega
   have HCx := hide (fun v => HC.out x.op hxf.tm.c0 v)
   have HOx := hide (fun v => HO.out x.op v)
   have HS := hide (addsU_snoc xs x.en)
   have hbu : (addsU xs).1.length ≤ 60 ∧ 0 ≤ (addsU xs).2 ∧ (addsU xs).2 ≤ 3600 := by
    have h1 : (xs.length : Int) * xs.length ≤ 60 * 60 := by
     have h2 : xs.length * xs.length ≤ 60 * 60 := Nat.mul_le_mul (by omega) (by omega)
     have h3 : ((xs.length * xs.length : Nat) : Int) ≤ ((60 * 60 : Nat) : Int) := Int.ofNat_le.2 h2
     simpa using h3
    exact ⟨by omega, hbd.2.1, by omega⟩
   have HKX := hide (fun (h : x.op.chk = 0) => kept_of hxf h)
   obtain ⟨ch, hch⟩ : ∃ ch, ch = x.op.chk := ⟨_, rfl⟩
   rw [← hch] at HCx HKX
   clear hx hgl hrg hxf hch hbd
   obtain ⟨⟨kd, ⟨tc, tk⟩, th, pa, nm, dr, dg, sz⟩, xh⟩ := x
   unfold Ob.v at HCx HOx
   dsimp only at HCx HOx
   have h10 := rangeAt_below HX.out.2.2 HX.out.2.1 HI.out.2.t.k
   have HRW : Hid (wr.rangeAt g (off + i * 10) [.int .i64 kd, .int .u64 tc, .int .i64 tk, .int .u64 th, .int .u64 pa, .string nm, .bool dr, .string dg, .int .i64 sz]) := fun j u hu => h10 j u (by
    unfold Le.cs
    rw [show ([.int .i64 kd, .int .u64 tc, .int .i64 tk, .int .u64 th, .int .u64 pa, .string nm, .bool dr, .string dg, .int .i64 sz, .int .u8 (xh.toNat : Nat)] : List Value) = [.int .i64 kd, .int .u64 tc, .int .i64 tk, .int .u64 th, .int .u64 pa, .string nm, .bool dr, .string dg, .int .i64 sz] ++ [.int .u8 (xh.toNat : Nat)] from rfl, List.getElem?_append_left (List.getElem?_eq_some_iff.1 hu).1]
    exact hu)
   clear h10
   go_upto_if 29 with (first
    | (refine wpList_load_mid rfl 61 _ rfl g (off + i * 10) rfl [.int .i64 kd, .int .u64 tc, .int .i64 tk, .int .u64 th, .int .u64 pa, .string nm, .bool dr, .string dg, .int .i64 sz] _ HRW.out Tryz.underlying61 rfl infoOp9i ?_)
    | (go_at_call 19; refine (HOx.out _).mono ?_; rintro r w5 ⟨rfl, k5⟩; have K5 := hide k5; clear k5 HOx)
    | (go_at_call 20; refine (HCx.out _).mono ?_; rintro r w6 ⟨rfl, k6⟩; have K6 := hide k6; clear k6 HCx))
   have HB6 : Hid (w6.heap[w5.heap.size]? = some (.cells #[.int .i64 kd, .int .u64 tc, .int .i64 tk, .int .u64 th, .int .u64 pa, .string nm, .bool dr, .string dg, .int .i64 sz] 57 (0, 0))) := (K6.out.block _ (by simp)).trans (heap_alloc_new _ _)
   have HK6 : Hid (Below wr.heap.size wr w6 ∧ wr.heap.size ≤ w5.heap.size ∧ w5.heap.size < w6.heap.size) := ⟨K5.out.trans ((((Below.refl _ w5).alloc (Nat.le_refl _) _).trans (K6.out.mono (by simp))).mono K5.out.size), K5.out.size, by have := K6.out.size; simp at this; omega⟩
   clear K5 K6 HRW
   generalize w5.heap.size = q at *
   by_cases hz : ch = 0
   ·have HK := hide (HKX.out hz)
    have d9 := (cells10l (rangeAt_below HX.out.2.2 HX.out.2.1 (HI.out.2.t.k.trans (HK6.out.1.mono HI.out.2.t.k.size)))).2.2.2.2.2.2.2.2.2
    have hcv := conv1 xh w6.heap.size (w6.alloc (.cells #[.int .u8 (xh.toNat : Nat)] 5)) (by simp)
    have HK8 : Hid (Below wr.heap.size wr (w6.alloc (.cells #[.int .u8 (xh.toNat : Nat)] 5)) ∧ (w6.alloc (.cells #[.int .u8 (xh.toNat : Nat)] 5)).heap[q]? = some (.cells #[.int .i64 kd, .int .u64 tc, .int .i64 tk, .int .u64 th, .int .u64 pa, .string nm, .bool dr, .string dg, .int .i64 sz] 57 (0, 0)) ∧ q < (w6.alloc (.cells #[.int .u8 (xh.toNat : Nat)] 5)).heap.size) := ⟨HK6.out.1.alloc HK6.out.1.size _, (Go.old_alloc_ImageTree _ _ _ HK6.out.2.2).trans HB6.out, by have := HK6.out.2.2; simp; omega⟩
    go_upto_region 8 with fail
    clear hcv d9 HB6
    generalize w6.alloc (.cells #[.int .u8 (xh.toNat : Nat)] 5) = W8 at *
    obtain ⟨e, he⟩ : ∃ e : En, e = (Le.mk ⟨kd, ⟨tc, tk⟩, th, pa, nm, dr, dg, sz⟩ xh).en := ⟨_, rfl⟩
    rw [← he] at HK HS
    have hev : e.v = .agg #[.int .i64 kd, .int .u64 tc, .int .i64 tk, .int .u64 th, .int .u64 pa, .string nm, .bool dr, .string dg, .int .i64 sz, .string ⟨#[xh]⟩] := by rw [he]; rfl
    have HAd := hide (HI.out.2.add HK8.out.1 q HK6.out.2.1 HK8.out.2.2 HK.out.1 (by omega) ⟨hbu.2.1, by omega⟩)
    have HRA := hide (fun v' (m : RowsAt En.cs 10 v' (.slice ma (addsU xs).1.length mc) (addsU xs).1) => radd_any (addsU xs).1 e (.slice ma (addsU xs).1.length mc) v' m HI.out.2.mn HI.out.2.t.ord (by omega))
    rw [hev] at HAd HRA
    have HRW8 : Hid (W8.rangeAt g (off + i * 10) [.int .i64 kd, .int .u64 tc, .int .i64 tk, .int .u64 th, .int .u64 pa, .string nm, .bool dr, .string dg, .int .i64 sz]) := fun j u hu => (rangeAt_below HX.out.2.2 HX.out.2.1 (HI.out.2.t.k.trans (HK8.out.1.mono HI.out.2.t.k.size))) j u (by
     unfold Le.cs
     rw [show ([.int .i64 kd, .int .u64 tc, .int .i64 tk, .int .u64 th, .int .u64 pa, .string nm, .bool dr, .string dg, .int .i64 sz, .int .u8 (xh.toNat : Nat)] : List Value) = [.int .i64 kd, .int .u64 tc, .int .i64 tk, .int .u64 th, .int .u64 pa, .string nm, .bool dr, .string dg, .int .i64 sz] ++ [.int .u8 (xh.toNat : Nat)] from rfl, List.getElem?_append_left (List.getElem?_eq_some_iff.1 hu).1]
     exact hu)
    clear hev he
    go_upto_region 9 with (first
     | (refine wpList_load_mid rfl 61 _ rfl g (off + i * 10) rfl [.int .i64 kd, .int .u64 tc, .int .i64 tk, .int .u64 th, .int .u64 pa, .string nm, .bool dr, .string dg, .int .i64 sz] _ HRW8.out Tryz.underlying61 rfl infoOp9i ?_)
     | (go_at_call 21; refine HAd.out.mono ?_; rintro r w9 ⟨rfl, ht, hq⟩; have H9 := hide ht; have HB9 := hide (hq.trans HK8.out.2.1); clear ht hq HAd))
    have HRA9 := hide (HRA.out w9 H9.out.m)
    clear HRA HRW8
    go_wp2_with (first
     | (refine wpList_load_row rfl 57 _ rfl _ rfl _ _ _ _ HB9.out Tryz.underlying57 rfl infoROp9 ?_)
     | (go_at_call 22; refine HRA9.out.mono ?_; rintro r w10 ⟨ov, rfl, hra⟩; obtain ⟨oa, oc, rfl⟩ := hra.row.form; have HN10 := hide (H9.out.put hra); clear hra HRA9))
    go_roundw
    case rel =>
     refine ⟨i + 1, xs ++ [e], oa, oc, by simp, ?_, by omega, by omega, by rw [List.length_append]; simp; omega, ?_⟩
     ·rw [HS.out]; rfl
     ·rw [HS.out]
      refine ⟨fun y hy => ?_, HN10.out⟩
      rcases List.mem_append.1 hy with hy | hy
      ·exact HI.out.1 y hy
      ·rw [List.mem_singleton.1 hy]; exact HK.out
    case measure => simp [intOf]; omega
   ·go_wp2_with fail
    go_roundw
    case rel => exact ⟨i + 1, xs, ma, mc, by simp, rfl, by omega, by omega, by omega, HI.out.1, HI.out.2.step HK6.out.1⟩
    case measure => simp [intOf]; omega
  ·have HLe : Hid (∀ e ∈ (addsU xs).1, Kept e) := addsU_each xs HI.out.1
   have hl60 : (addsU xs).1.length ≤ 60 := by omega
   have HTh := hide (rthings_any (addsU xs).1 (.slice ma (addsU xs).1.length mc) wr HI.out.2.m (fun e he => ⟨(HLe.out e he).1, (HLe.out e he).2.1⟩) (by omega))
   have hq : ¬ (i : Int) < es.length ∨ ((i : Int) < es.length ∧ ¬ (i : Int) < 60) := by omega
   clear hgo
   rcases hq with hq | ⟨hq, hq2⟩
   all_goals
    go_wp2_with (go_at_call 23; refine HTh.out.mono ?_; rintro r w5 ⟨tv, rfl, hrt⟩; have HRT := hide hrt; clear hrt HTh)
    refine bodyPost_ret (results_tmp2 Tryz.results7 _ _ _) rfl ?_
    exact ⟨b, tv, _, _, rfl, (HI.out.2.t.less (fun x hx => hx.elim)).below HRT.out.k, HRT.out.row, HRT.out.nice, HLe.out, hl60⟩
end Go.Proofs.YtnbhchdaobimmaaGreatDoor
/- Contract: the image of the law's tree; what is known of it. -/
namespace Go.Img
open Go.RowKit
end Go.Img
namespace Go.Proofs.YtnbhchdaobimmaaGreatDoor
open Go.RowKit Go.Img Go.Shelf Go.Rws Go.MapInt Go.Opn
open Go.Mov hiding fold
variable {W v : World} {b : Nat} {tv : Value} {l : List En} {u : Int}
theorem Tg.fine (h : Tg W b tv l u v) : Fine (ths [] l) ∧ Dirs (ths [] l) ∧ (ths [] l).length ≤ 60 ∧ ∀ x ∈ ths [] l, x.name.size ≤ 1000000 := by
 have hfit := h.t.fits
 refine ⟨ths_fine Fine.nil hfit, dirs_ths _ Fine.nil Dirs.nil hfit, ?_, names_ths _ Fine.nil (fun x hx => by cases hx) fun e he => ⟨hfit e he, (h.each e he).2.2⟩⟩
 have h1 := ths_length (l := l) Fine.nil hfit
 have h2 := h.few
 simp at h1
 omega
theorem Tg.of (h : Tg W b tv l u v) (hv : Vt v) : Calls Tryz.prog 8 #[.pointer (some ⟨b, 0, none⟩)] v fun e w' => ∃ v', e = .returned v' ∧ OwnR Fi.cs 5 51 v v' (img (ths [] l)) w' := by
 obtain ⟨mb, hT⟩ := h.t.ths
 obtain ⟨h1, h2, h3, h4⟩ := h.fine
 exact of_any v hv hT h1 h2 (by omega) h4
/-- What is known of such an image. -/
structure Gi (L : List Fi) : Prop where
 len : L.length ≤ 60
 path : ∀ f ∈ L, okPath f.path = true
 short : ∀ f ∈ L, f.path.length ≤ 238
 srt : Srt L
 once : ∀ x ∈ L, ∀ y ∈ L, Names.fold x.path = Names.fold y.path → x = y
 nodup : L.Nodup
theorem Tg.gi (h : Tg W b tv l u v) : Gi (img (ths [] l)) := by
 obtain ⟨h1, h2, h3, h4⟩ := h.fine
 have hp := img_paths h1 h2 (by omega)
 refine ⟨Nat.le_trans (img_len h1 h2 (by omega)) h3, hp.1, fun f hf => ?_, srt_doc _ _ _ _, hp.2, img_nodup h1 (by omega)⟩
 have := hp.1 f hf
 unfold okPath at this
 simp only [Bool.and_eq_true, decide_eq_true_eq] at this
 exact this.1
end Go.Proofs.YtnbhchdaobimmaaGreatDoor
