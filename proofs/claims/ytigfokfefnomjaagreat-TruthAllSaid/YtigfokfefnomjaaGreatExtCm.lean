/- A function's form as one record: what its contract needs, said once. -/
import Derived.Test.YtigfokfefnomjaaGreatExtL
namespace Go.Abs
set_option linter.unusedVariables false
set_option linter.unusedSimpArgs false
structure Uf where
 f:Nat
 nt:Nat
 fn:Func
 as:List AS
 bs:List BS
 po:Pat
 kp:List Bool
 HL:List (Nat×Hint)
 HC:List (Nat×Hint)
 out:po.I→V×List OK×List OK
def kpM (l:List Bool):Nat→Bool:=fun j=>l.getD j true
def Z2 (fn:Func):Code:=fn.body.getD .skip
def Uf.F (u:Uf) (Λ:Lend) (P:Program) (Γ:OrcT) (N:Nat) (x:tsI (xU u.as u.bs)):Option u.po.I:=
 (evT Γ Λ P u.HL u.HC N 400 (Z2 u.fn) ⟨u.nt,slots 0 (argsOf u.as u.bs x),tabU (lbOf u.as u.bs x) [],[]⟩).elim (kRet u.nt u.po (kpM u.kp) (lbOf u.as u.bs x))
def Uf.con (u:Uf) (w:tsI (xU u.as u.bs)→Option u.po.I):Con:=⟨u.f,u.as,u.bs,u.po.I,w,u.out⟩
def OkL (P:Program):List Con→Prop
 | []=>True
 | c::r=>c.ok P∧OkL P r
theorem OkL.all {P:Program}:∀{l:List Con},OkL P l→∀c∈l,c.ok P
 | [],_,c,h=>by cases h
 | a::r,h,c,hc=>by
  rcases List.mem_cons.1 hc with e | e
  ·rw[e];exact h.1
  ·exact OkL.all h.2 c e
theorem vY:∀(as:List AS) (l:List TX),(jh as l).1.length=as.length
 | [],l=>rfl
 | k::r,l=>by
  show ((jh r (Jt k l).2).1.length+1)=r.length+1
  rw[vY r]
def Uf.st (u : Uf) : Bool := u.fn.body.isSome && codeOk (Z2 u.fn) && Nat.ble u.as.length u.nt && Nat.beq u.fn.ntmps u.nt && !(u.fn.name == "runtime.NumGoroutine")
theorem Uf.ok {u:Uf} {Λ:Lend} {P:Program} (hm:P.follows .mixedOrders=true) {cons:List Con} {N:Nat} {w:tsI (xU u.as u.bs)→Option u.po.I}
  (h:∀x,u.F Λ P (orcOf cons) N x=w x) (hc:OkL P cons) (hf:P.funcs[u.f]? = some u.fn) (hs:u.st=true)
  (hR:∀x y,retOf2 P u.fn (kpM u.kp) (lbOf u.as u.bs x) (patS ⟨u.nt,[],[],[]⟩ u.po y)=some (u.out y)):(u.con w).ok P:=by
 unfold Uf.st at hs
 simp only[Bool.and_eq_true] at hs
 obtain⟨⟨⟨⟨h1,h2⟩,h3⟩,h4⟩,h5⟩:=hs
 have e:u.fn.ntmps=u.nt:=Nat.eq_of_beq_eq_true h4
 obtain⟨c,hcb⟩:=Option.isSome_iff_exists.1 h1
 have hb:Z2 u.fn=c:=by unfold Z2;rw[hcb];rfl
 have h6 : (u.fn.name == "runtime.NumGoroutine") = false := by
  cases q : (u.fn.name == "runtime.NumGoroutine") with
  | true=>rw[q] at h5;cases h5
  | false=>rfl
 refine⟨⟨u.fn,hf,h6,by rw[hcb];rfl⟩,fun x r hr=>?_⟩
 have hr:w x=some r:=hr
 rw[←h x] at hr
 unfold Uf.F at hr
 rw[hb,←e] at hr
 have hR:=hR x r
 rw[←e] at hR
 refine spec2_evT (lb:=lbOf u.as u.bs x) (args:=argsOf u.as u.bs x) hm (orcOf_ok cons (OkL.all hc)) hf hcb (hb▸h2) ?_ hr hR
 unfold argsOf
 rw[vY,e]
 exact Nat.le_of_ble_eq_true h3
end Go.Abs
