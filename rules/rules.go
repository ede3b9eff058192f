// Package rules has only tests: they hold the program's text against the rules of its language, and package api against the document.
package rules
